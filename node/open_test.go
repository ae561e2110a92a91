package node_test

import (
	"fmt"
	"math"
	"slices"
	"testing"

	"auspice/api"
	"auspice/bits"
	"auspice/disk"
	"auspice/node"
	"auspice/raft"
	"auspice/seglog"
	"auspice/shelf"
	"auspice/sm"
)

// 20.1

// refused fails, if Open does not answer an error, or changes a file.
func refused(t *testing.T, what string, d *disk.Disk, me, mask int, want api.Errno) {
	t.Helper()
	were := files(d)
	n, e := node.Open(d, me, mask, 3)
	if n != nil || e != want {
		t.Errorf("%s: Open answers %v, %d, want %d", what, n, e, want)
	}
	unchanged(t, what, d, were)
}

func TestOpenArguments(t *testing.T) {
	refused(t, "no disk", nil, 0, 1, api.ErrArg)
	for _, down := range []bool{false, true} {
		d := disk.New()
		if down {
			d.Fail(0)
		}
		for _, me := range []int{-1, 7, math.MinInt, math.MaxInt} {
			refused(t, fmt.Sprint("the node ", me), d, me, 1, api.ErrArg)
		}
		for _, mask := range []int{-1, 0, 128, math.MinInt, math.MaxInt} {
			refused(t, fmt.Sprint("the mask ", mask), d, 0, mask, api.ErrArg)
		}
		if down {
			refused(t, "a disk that is down", d, 0, 1, api.ErrDown)
		}
	}
	for me := range api.MaxNodes {
		for _, mask := range []int{1, 5, 127} {
			for _, draw := range []int{0, 10, 11, -1, math.MinInt, math.MaxInt} {
				fresh(t, me, mask, draw)
			}
		}
	}
}

// fresh fails, if a node of an empty disk is not one that knows nothing.
func fresh(t *testing.T, me, mask, draw int) {
	t.Helper()
	d := disk.New()
	n := opened(t, d, me, mask, draw)
	c, e := raft.New(me, api.Vote{For: -1}, api.Snap{Mask: mask}, nil, draw)
	ok(t, e)
	stays(t, "an empty disk", n, state{c, sm.New().Save(), 0, false})
	kept(t, d, n, mask)
	for name := range files(d) {
		if name != "w.000000000001" {
			t.Errorf("of an empty disk there is a file %s", name)
		}
	}
}

// saved is the text of a machine to which two commands came, up to the index 5.
func saved() string { return machine(4, open(), event(4, 1, 7, "a")).Save() }

func TestOpenOfWhatADiskSays(t *testing.T) {
	base := api.Snap{Index: 5, Term: 2, Mask: 6, Text: saved()}
	log := []api.Entry{noop(2), says(3, "x"), members(3, 7), says(3, open())}
	for _, x := range []struct {
		what string
		said
		want  []api.Entry
		first int // of the log on the disk, when the node is there
	}{
		{"no snapshot", said{api.Vote{Term: 3, For: 2}, api.Snap{}, 1, log}, log, 1},
		{"a snapshot alone", said{api.Vote{Term: 2, For: -1}, base, 0, nil}, nil, 6},
		{"a log right behind it", said{api.Vote{Term: 4, For: 0}, base, 6, log}, log, 6},
		{"a log from it on", said{api.Vote{Term: 3, For: -1}, base, 5, append(like(2, 1), log...)}, log, 5},
		{"a log from ahead of it on", said{api.Vote{Term: 3, For: -1}, base, 2, append([]api.Entry{noop(0), members(1, 6), noop(2), noop(2)}, log...)}, log, 2},
		{"a log that ends with it", said{api.Vote{Term: 2, For: -1}, base, 4, like(2, 2)}, nil, 4},
		{"no entry behind it", said{api.Vote{Term: 2, For: -1}, base, 6, nil}, nil, 6},
		{"a log that ends right ahead of it", said{api.Vote{Term: 2, For: -1}, base, 1, like(2, 4)}, nil, 6},
		{"a log that ends long ahead of it", said{api.Vote{Term: 2, For: -1}, base, 1, like(1, 1)}, nil, 6},
		{"a log without entries ahead of it", said{api.Vote{Term: 2, For: -1}, base, 5, nil}, nil, 6},
		{"another term at it", said{api.Vote{Term: 3, For: -1}, base, 5, append(like(1, 1), log...)}, nil, 6},
		{"a greater term at it", said{api.Vote{Term: 3, For: -1}, base, 1, append(like(2, 4), like(3, 9)...)}, nil, 6},
		{"another term at its end", said{api.Vote{Term: 2, For: -1}, base, 1, append(like(0, 4), noop(1))}, nil, 6},
		{"terms that fall, but none of the node's", said{api.Vote{Term: 2, For: -1}, base, 1, append(like(9, 4), noop(1))}, nil, 6},
	} {
		d := x.disk(t)
		want, e := raft.New(1, x.vote, x.baseOr(7), x.want, 25)
		ok(t, e)
		n := opened(t, d, 1, 7, 25)
		m := sm.New()
		if x.base.Index > 0 {
			m = machine(4, open(), event(4, 1, 7, "a"))
		}
		stays(t, x.what, n, state{want, m.Save(), x.base.Index, false})
		kept(t, d, n, 7)
		if l, _ := seglog.Open(d); l.First() != x.first || l.Next() != 1+x.baseOr(7).Index+len(x.want) {
			t.Errorf("%s: the log is from %d to %d", x.what, l.First(), l.Next())
		}
	}
}

// baseOr is the snapshot, or that of no snapshot.
func (s said) baseOr(mask int) api.Snap {
	if s.base.Mask == 0 {
		return api.Snap{Mask: mask}
	}
	return s.base
}

func TestOpenOfASnapshotWithoutText(t *testing.T) {
	for _, base := range []api.Snap{{Index: 9, Term: 1, Mask: 3}, {Index: api.MaxIndex - 1, Term: 1, Mask: 3}} {
		n := opened(t, said{api.Vote{Term: 1, For: -1}, base, 0, nil}.disk(t), 0, 1, 0)
		if n.Saved() != sm.New().Save() || n.Applied() != base.Index || n.Core().Base != base || n.Core().Commit != base.Index {
			t.Errorf("of %v: %+v, Applied %d", base, n.Core(), n.Applied())
		}
	}
	// A snapshot of nothing, with members of its own, is one.
	base := api.Snap{Mask: 6}
	if c := opened(t, said{api.Vote{For: -1}, base, 0, nil}.disk(t), 0, 1, 0).Core(); c.Base != base {
		t.Errorf("of %v: %+v", base, c)
	}
}

func TestOpenErrorsOfTheFiles(t *testing.T) {
	vote, base := api.Vote{Term: 5, For: 1}, api.Snap{Index: 5, Term: 2, Mask: 6, Text: saved()}
	of := func(b api.Snap, first int, log ...api.Entry) *disk.Disk {
		return said{vote, b, first, log}.disk(t)
	}
	last := api.Snap{Index: api.MaxIndex, Term: 2, Mask: 1}
	late := base
	late.Index = 4 // the machine's is 5
	wrong, empty := base, base
	wrong.Text, empty.Text = "x", "\x00"
	bad := func(first int, bad string, ahead ...api.Entry) *disk.Disk {
		d := of(base, first, ahead...)
		l, _ := seglog.Open(d)
		ok(t, l.Append(l.Next(), []string{bad}))
		return d
	}
	num := func(l ...uint64) (s string) {
		for _, n := range l {
			s += bits.Num(n)
		}
		return s
	}
	for what, d := range map[string]*disk.Disk{
		"a vote that is none":                       puts(t, of(base, 6), "vote", "x"),
		"a vote that may not be":                    puts(t, of(base, 6), "vote", pack(t, "\x00\x0e")),
		"a snapshot that is none":                   puts(t, of(base, 6), "snap", pack(t, "x")),
		"the log is to be reset behind all indexes": of(last, 1),
		"likewise, with another term there":         of(last, api.MaxIndex, noop(1)),
		"the log begins late":                       of(base, 7),
		"the log begins late, with entries":         of(base, 7, like(2, 2)...),
		"a log that begins late without a snapshot": of(api.Snap{}, 2),
		"a text behind that is none":                bad(6, "x"),
		"a text with too much":                      bad(6, text(noop(2))+"\x00"),
		"an empty text":                             bad(6, ""),
		"a text ahead that is none":                 bad(4, "x", noop(2)),
		"a text in a stale log that is none":        bad(1, "x", noop(2)),
		"an entry of no kind":                       bad(6, num(2, 3, 0, 0)),
		"a Noop with a text":                        bad(6, num(2, 1, 0)+bits.Text("x")),
		"a text with a mask":                        bad(6, num(2, 0, 1)+bits.Text("x")),
		"an entry of no kind, ahead":                bad(4, num(2, 3, 0, 0), noop(2)),
		"an entry of no kind in a stale log":        bad(1, num(2, 3, 0, 0)),
		"no members":                                bad(6, num(2, 2, 0, 0)),
		"a term that is none":                       bad(6, num(api.MaxIndex+1, 1, 0, 0)),
		"a term beyond all numbers":                 bad(6, num(math.MaxUint64, 1, 0, 0)),
		"a text that is too long":                   bad(6, num(2, 0, 0)+bits.Text(big(api.MaxCmd+1))),
		"terms that fall":                           of(base, 6, noop(3), noop(2)),
		"a term below the snapshot's":               of(base, 6, noop(1)),
		"a term above the vote's":                   of(base, 6, noop(6)),
		"a snapshot's term above the vote's":        said{api.Vote{Term: 1, For: -1}, base, 6, nil}.disk(t),
		"an index above all":                        of(api.Snap{Index: api.MaxIndex - 1, Term: 2, Mask: 1}, api.MaxIndex, noop(2)),
		"a machine that is none":                    of(wrong, 6),
		"a machine that ends":                       of(empty, 6),
		"a machine of a greater index":              of(late, 5),
		"a machine of a greater index, stale log":   of(late, 1),
		"a machine that is none, stale log":         of(wrong, 1),
		"a term above the vote's, stale log":        said{api.Vote{Term: 1, For: -1}, base, 1, nil}.disk(t),
	} {
		if what == "an index above all" {
			opened(t, d, 1, 7, 0) // the last one there may be; one more may not
			puts(t, d, "w.549755813888", pack(t, text(noop(2)))+pack(t, text(noop(2))))
		}
		refused(t, what, d, 1, 7, api.ErrForm)
	}
	// Near these: the last index there is, with its entry; the machine's index that of the snapshot; the vote's term that of the last entry.
	for _, d := range []*disk.Disk{of(last, api.MaxIndex, noop(2)), of(base, 6, noop(5)), of(base, 6, says(5, big(api.MaxCmd)), members(5, 127)), of(base, 5, like(2, 3)...)} {
		opened(t, d, 1, 7, 0)
	}
}

func TestOpenErrorsInTheirOrder(t *testing.T) {
	// What one layer says is told ahead of what the next one does; all of them ahead of the files being no node's.
	d := said{api.Vote{For: -1}, api.Snap{Index: 3, Mask: 1, Text: "x"}, 9, nil}.disk(t)
	refused(t, "no node's files", d, 0, 1, api.ErrForm)
	ok(t, d.Put("w.000000000009", 0, "torn")) // to be mended
	ok(t, d.Sync())
	d.Trip(1, 0)
	_, e := node.Open(d, 0, 1, 0)
	is(t, "the power fails as the log is mended", e, api.ErrDown)
	d.Wake()
	puts(t, d, "vote", "x")
	d.Trip(1, 0)
	_, e = node.Open(d, 0, 1, 0)
	is(t, "a vote that is none", e, api.ErrForm)
	if d.Down() {
		t.Error("the log was seen to ahead of the vote")
	}
}

func TestOpenMendsTheLog(t *testing.T) {
	d := said{api.Vote{Term: 1, For: 0}, api.Snap{}, 1, like(1, 3)}.disk(t)
	s, _ := d.Read("w.000000000001")
	ok(t, d.Put("w.000000000001", len(s), pack(t, text(noop(1)))[:9]))
	ok(t, d.Put("w.000000000099", 0, "x"))
	n := opened(t, d, 0, 1, 0)
	if !slices.Equal(n.Core().Log, like(1, 3)) {
		t.Errorf("the log is %v", n.Core().Log)
	}
	kept(t, d, n, 1)
}

// The log is reset, or the power fails at a call of that: then an error of the disk is the answer, and the node is the same, when it is opened anew.
func TestOpenResets(t *testing.T) {
	base := api.Snap{Index: 40, Term: 2, Mask: 6, Text: saved()}
	long := slices.Repeat([]api.Entry{says(1, big(300))}, 9)
	of := said{api.Vote{Term: 2, For: -1}, base, 1, long}
	d := of.disk(t)
	were := d.Calls()
	want := stateOf(opened(t, d, 1, 7, 0))
	calls := d.Calls() - were
	if calls < 4 {
		t.Fatalf("%d calls", calls)
	}
	for at := 1; at <= calls; at++ {
		for k := range 9 {
			d := of.disk(t)
			d.Trip(at, k)
			n, e := node.Open(d, 1, 7, 0)
			if n != nil || e != api.ErrDown {
				t.Fatalf("the power fails at the call %d: %v, %d", at, n, e)
			}
			d.Wake()
			n = opened(t, d, 1, 7, 0)
			stays(t, "behind a loss of power", n, want)
			kept(t, d, n, 7)
		}
	}
}

// What was saved by a node of another number, or with another mask, is still what it is: the mask counts only where there is no snapshot.
func TestOpenTakesTheMaskOfASnapshot(t *testing.T) {
	d, n := leader(t)
	for range node.Long {
		_, _, e := n.Lay("x")
		ok(t, e)
	}
	n = opened(t, d, 3, 127, 4)
	c := n.Core()
	if mask, _ := raft.Members(c); mask != 1 || c.Me != 3 || c.Limit != 14 || c.Base.Index != node.Long {
		t.Errorf("it is %+v", c)
	}
	v, _ := shelf.LoadVote(d)
	if v != (api.Vote{Term: 1, For: 0}) {
		t.Errorf("the vote is %v", v)
	}
}
