package node

import (
	"auspice/api"
	"auspice/bits"
	"auspice/raft"
)

// written is an entry's text.
func written(x api.Entry) string {
	return bits.Num(uint64(x.Term)) + bits.Num(uint64(x.Kind)) + bits.Num(uint64(x.Mask)) + bits.Text(x.Text)
}

// read is the entry that a text says, and whether it says one that may be.
func read(text string) (api.Entry, bool) {
	t := bits.At(text)
	// A number that is none of this program's turns into one below 0, which may not be.
	x := api.Entry{Term: int(t.Num()), Kind: int(t.Num()), Mask: int(t.Num()), Text: t.Text(api.MaxCmd)}
	return x, t.End() == api.OK && may(x)
}

// may tells whether an entry may be: then a message may say it.
func may(x api.Entry) bool {
	return raft.Check(api.Msg{Kind: api.MsgLog, From: 0, To: 1, Entries: []api.Entry{x}})
}
