package seglog

import (
	"strings"
	"testing"

	"auspice/api"
	"auspice/crc"
	"auspice/disk"
)

// 6.1

func TestOpenErrors(t *testing.T) {
	if l, e := Open(nil); l != nil || e != api.ErrArg {
		t.Errorf("Open of nil: %v, error %d", l, e)
	}
	d := disk.New()
	d.Fail(0)
	if l, e := Open(d); l != nil || e != api.ErrDown {
		t.Errorf("Open of a disk that is down: %v, error %d", l, e)
	}
	d.Wake()
	d.Room(0) // an empty piece takes none
	has(t, open(t, d), 1)
}

func TestOpenOfAnErrorOfTheDisk(t *testing.T) {
	for n := 1; n <= 4; n++ {
		d := laid(t, "w.000000000001", packed("a")+"?", "w.000000000002", "", "w.000000000007", "")
		d.Trip(n, 0)
		if l, e := Open(d); l != nil || e != api.ErrDown {
			t.Errorf("Open with a trip %d: %v, error %d", n, l, e)
		}
	}
	for n := 1; n <= 2; n++ {
		d := disk.New()
		d.Trip(n, 0)
		if l, e := Open(d); l != nil || e != api.ErrDown {
			t.Errorf("Open of no piece with a trip %d: %v, error %d", n, l, e)
		}
	}
}

func TestOpen(t *testing.T) {
	ab, one, two := packed("a", "b"), "w.000000000001", "w.000000000002"
	three, five := "w.000000000003", "w.000000000005"
	for name, c := range map[string]struct {
		laid  []string // the disk
		first int      // the log
		texts []string
		left  []string // the disk behind it
		calls int      // counted ones
	}{
		"no files":              {nil, 1, nil, []string{one, ""}, 2},
		"an empty piece":        {[]string{one, ""}, 1, nil, []string{one, ""}, 0},
		"a piece":               {[]string{one, ab}, 1, []string{"a", "b"}, []string{one, ab}, 0},
		"a later piece":         {[]string{five, ab}, 5, []string{"a", "b"}, []string{five, ab}, 0},
		"the last piece":        {[]string{"w.549755813888", packed("a")}, api.MaxIndex, []string{"a"}, []string{"w.549755813888", packed("a")}, 0},
		"two pieces":            {[]string{three, ab, five, packed("c")}, 3, []string{"a", "b", "c"}, []string{three, ab, five, packed("c")}, 0},
		"an empty one behind":   {[]string{one, ab, three, ""}, 1, []string{"a", "b"}, []string{one, ab, three, ""}, 0},
		"a gap":                 {[]string{one, ab, "w.000000000004", packed("d"), five, packed("e")}, 1, []string{"a", "b"}, []string{one, ab}, 3},
		"too soon":              {[]string{one, ab, two, packed("c"), three, packed("d")}, 1, []string{"a", "b"}, []string{one, ab}, 3},
		"an empty one ahead":    {[]string{one, "", two, packed("a")}, 1, nil, []string{one, ""}, 2},
		"torn":                  {[]string{one, ab + ab[:5]}, 1, []string{"a", "b"}, []string{one, ab}, 2},
		"nothing whole":         {[]string{five, "\x00\x00"}, 5, nil, []string{five, ""}, 2},
		"torn ahead":            {[]string{one, ab + "?", three, packed("c"), five, ""}, 1, []string{"a", "b"}, []string{one, ab}, 4},
		"torn in the second":    {[]string{one, ab, three, packed("c") + "\xff\xff\xff", "w.000000000004", ""}, 1, []string{"a", "b", "c"}, []string{one, ab, three, packed("c")}, 3},
		"a bit turned":          {[]string{one, packed("a") + strings.Replace(packed("b"), "b", "c", 1) + packed("d")}, 1, []string{"a"}, []string{one, packed("a")}, 2},
		"empty texts":           {[]string{one, packed("", "", ""), "w.000000000004", packed("")}, 1, []string{"", "", "", ""}, []string{one, packed("", "", ""), "w.000000000004", packed("")}, 0},
		"a piece that is small": {[]string{one, packed("a"), two, packed("b")}, 1, []string{"a", "b"}, []string{one, packed("a"), two, packed("b")}, 0},
	} {
		t.Run(name, func(t *testing.T) {
			d := laid(t, c.laid...)
			calls := d.Calls()
			l := open(t, d)
			has(t, l, c.first, c.texts...)
			files(t, d, c.left...)
			if n := d.Calls() - calls; n != c.calls {
				t.Errorf("%d calls, want %d", n, c.calls)
			}
			same(t, d, l)
			ok(t, l.Append(l.Next(), nil))
		})
	}
}

func TestFilesOfOtherNamesCountForNothing(t *testing.T) {
	others := []string{"w.000000000000", "", "w.549755813889", "x", "w.999999999999", "y", "w.00000000001", "", "w.0000000000001", "",
		"w.00000000000a", "", "w.-00000000001", "", "w.", "", "w", "", "w-000000000001", "", "x.000000000001", "", "000000000001", "", "w.000000000001.", "", "vote", "v", "snap.new", "s"}
	d := laid(t, others...)
	l := open(t, d)
	has(t, l, 1)
	ok(t, l.Append(1, []string{"a"}))
	ok(t, l.Reset(7))
	ok(t, l.Drop(9))
	same(t, d, l)
	ok(t, d.Drop("w.000000000007"))
	files(t, d, onto(laid(t, others...))...)
}

func TestOpenOfWhatTheDiskHolds(t *testing.T) {
	// A text that the log would not take is one, as its pack is whole.
	long, e := crc.Pack(strings.Repeat("x", api.MaxEntry+1))
	ok(t, e)
	d := laid(t, "w.000000000001", long+packed("b"))
	l := open(t, d)
	has(t, l, 1, strings.Repeat("x", api.MaxEntry+1), "b")
	ok(t, l.Append(3, []string{"c"}))
	files(t, d, "w.000000000001", long+packed("b"), "w.000000000003", packed("c"))
	ok(t, l.Append(2, []string{"B"}))
	files(t, d, "w.000000000001", long, "w.000000000002", packed("B"))
}

func TestOpenOfIndexesThatAreTooHigh(t *testing.T) {
	d := laid(t, "w.549755813888", packed("a", "b"))
	l := open(t, d)
	has(t, l, api.MaxIndex, "a", "b")
	ok(t, l.Append(api.MaxIndex+2, nil))
	is(t, "Append", l.Append(api.MaxIndex+2, []string{"c"}), api.ErrLong)
	is(t, "Append", l.Append(api.MaxIndex+1, []string{"c"}), api.ErrLong)
	ok(t, l.Append(api.MaxIndex+1, nil))
	has(t, l, api.MaxIndex, "a")
	same(t, d, l)
}

func TestOpenOfVeryManyPacks(t *testing.T) {
	n := api.MaxFile / len(packed(""))
	d := laid(t, "w.000000000001", strings.Repeat(packed(""), n))
	l := open(t, d)
	if l.Next() != n+1 {
		t.Errorf("Next: %d, want %d", l.Next(), n+1)
	}
	if s, there := l.Get(n); s != "" || !there {
		t.Errorf("Get(%d): %q, %v", n, s, there)
	}
}
