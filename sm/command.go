package sm

import (
	"auspice/api"
	"auspice/bits"
	"auspice/event"
)

// Write is a command's text.
func Write(c api.Cmd) (string, api.Errno) {
	if !may(c) {
		return "", api.ErrArg
	}
	s := bits.Num(uint64(c.Kind))
	switch c.Kind {
	case api.CmdEvent:
		t, _ := event.Encode(c.E)
		s += t
	case api.CmdClose:
		s += bits.Num(uint64(c.ID))
	case api.CmdAdd:
		s += bits.Text(c.Name) + bits.Text(c.Text)
	case api.CmdDrop:
		s += bits.Text(c.Name)
	case api.CmdForget:
		s += bits.Text(c.Name) + bits.Num(uint64(c.N))
	}
	return s, api.OK
}

// Read is the command that a text says.
func Read(s string) (api.Cmd, api.Errno) {
	tape := bits.At(s)
	// A number that is none of this program's turns into one below 0, which may not be.
	c := api.Cmd{Kind: int(tape.Num())}
	switch c.Kind {
	case api.CmdEvent: // whose text says itself where it ends
		v, e := event.Decode(tape.Rest())
		c.E = v
		return read(c, e)
	case api.CmdClose:
		c.ID = int(tape.Num())
	case api.CmdAdd:
		c.Name, c.Text = tape.Text(api.MaxWord), tape.Text(api.MaxSource)
	case api.CmdDrop:
		c.Name = tape.Text(api.MaxWord)
	case api.CmdForget:
		c.Name, c.N = tape.Text(api.MaxWord), int(tape.Num())
	}
	return read(c, tape.End())
}

// read is a command that was read, if that went well, and it may be.
func read(c api.Cmd, e api.Errno) (api.Cmd, api.Errno) {
	if e != api.OK || !may(c) {
		return api.Cmd{}, api.ErrForm
	}
	return c, api.OK
}

// may tells whether a command may be: what its kind names is asked and taken out, so that all that is left must be zero.
func may(c api.Cmd) bool {
	named := true
	switch c.Kind {
	case api.CmdOpen:
	case api.CmdEvent:
		named = c.E.Session >= 1 && c.E.Seq >= 1 && event.Check(c.E) == api.OK
		c.E = api.Event{}
	case api.CmdClose:
		named = c.ID >= 1 && index(c.ID)
		c.ID = 0
	case api.CmdAdd:
		named = event.Word(c.Name) && len(c.Text) <= api.MaxSource
		c.Name, c.Text = "", ""
	case api.CmdDrop:
		named = event.Word(c.Name)
		c.Name = ""
	case api.CmdForget:
		named = event.Word(c.Name) && index(c.N)
		c.Name, c.N = "", 0
	default:
		return false
	}
	return named && nothing(c)
}

// nothing tells whether all but the kind of a command is zero.
func nothing(c api.Cmd) bool {
	v := c.E
	blank := v.Session == 0 && v.Seq == 0 && v.Stamp == 0 && v.Kind == "" && len(v.Fields) == 0
	return blank && c.ID == 0 && c.Name == "" && c.Text == "" && c.N == 0
}

// index tells whether a number may be an index, or a count.
func index(n int) bool {
	return n >= 0 && n <= api.MaxIndex
}
