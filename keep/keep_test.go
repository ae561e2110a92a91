package keep_test

import (
	"fmt"
	"math"
	"math/rand"
	"slices"
	"strings"
	"testing"

	"auspice/api"
	"auspice/bits"
	"auspice/engine"
	"auspice/keep"
	"auspice/nfa"
	"auspice/parse"
)

// kept is a track, and its text.
type kept struct {
	track api.Track
	text  string
}

// run is a run of these picks.
func run(picks ...int) api.Run { return api.Run{Begin: picks[0], Picks: picks} }

// row is so many numbers, from one on.
func row(from, n int) (l []int) {
	for i := range n {
		l = append(l, from+i)
	}
	return l
}

const most = "\xfc\x80\x00\x00\x00\x00" // the bytes of api.MaxIndex

// tracks are some that can be kept, with their texts.
func tracks() []kept {
	long := api.Track{Count: 1}
	text := "\x01\x00\x00\x40"
	for i := range 64 {
		long.Runs = append(long.Runs, api.Run{Begin: i, State: i, Picks: row(i, 15)})
		text += string([]byte{byte(i), 0, byte(i), 0, 15}) + strings.Repeat("\x00", 14)
	}
	one := func(r api.Run) api.Track { return api.Track{Runs: []api.Run{r}} }
	return []kept{
		{api.Track{}, "\x00\x00\x00\x00"},
		{api.Track{Count: 3, Stamp: 300, Lost: 5}, "\x03\xf9\x01\x2c\x05\x00"},
		{api.Track{Count: 247, Stamp: 248, Lost: 255}, "\xf7\xf8\xf8\xf8\xff\x00"},
		{api.Track{Count: api.MaxIndex, Stamp: math.MaxInt, Lost: api.MaxIndex}, most + "\xff\x7f\xff\xff\xff\xff\xff\xff\xff" + most + "\x00"},
		{one(run(0)), "\x00\x00\x00\x01" + "\x00\x00\x00\x00\x01"},
		{one(run(7)), "\x00\x00\x00\x01" + "\x07\x00\x00\x00\x01"},
		{one(run(7, 8)), "\x00\x00\x00\x01" + "\x07\x00\x00\x00\x02\x00"},
		{one(run(7, 9)), "\x00\x00\x00\x01" + "\x07\x00\x00\x00\x02\x01"},
		{one(run(0, 1, 300, 600)), "\x00\x00\x00\x01" + "\x00\x00\x00\x00\x04\x00\xf9\x01\x2a\xf9\x01\x2b"},
		{one(api.Run{Begin: 300, Stamp: 400, State: 63, Seen: 5, Picks: []int{300}}), "\x00\x00\x00\x01" + "\xf9\x01\x2c\xf9\x01\x90\x3f\x05\x01"},
		{one(api.Run{Begin: 1, Stamp: math.MaxInt, Seen: math.MaxUint64, Picks: []int{1}}), "\x00\x00\x00\x01" + "\x01\xff\x7f\xff\xff\xff\xff\xff\xff\xff\x00\xff\xff\xff\xff\xff\xff\xff\xff\xff\x01"},
		{one(api.Run{Begin: 1, Seen: 1 << 63, Picks: []int{1}}), "\x00\x00\x00\x01" + "\x01\x00\x00\xff\x80\x00\x00\x00\x00\x00\x00\x00\x01"},
		{one(run(api.MaxIndex)), "\x00\x00\x00\x01" + most + "\x00\x00\x00\x01"},
		{one(run(api.MaxIndex-1, api.MaxIndex)), "\x00\x00\x00\x01" + "\xfc\x7f\xff\xff\xff\xff\x00\x00\x00\x02\x00"},
		{one(run(0, api.MaxIndex)), "\x00\x00\x00\x01" + "\x00\x00\x00\x00\x02\xfc\x7f\xff\xff\xff\xff"},
		{one(run(row(4, 15)...)), "\x00\x00\x00\x01" + "\x04\x00\x00\x00\x0f" + strings.Repeat("\x00", 14)},
		// Any order will do, and runs twice, and picks of events to come, and stamps to come.
		{api.Track{Runs: []api.Run{run(2), run(1, 4), run(2), {Begin: 1, Stamp: 6, State: 1, Seen: 9, Picks: []int{1, 2}}}}, "\x00\x00\x00\x04" + "\x02\x00\x00\x00\x01" + "\x01\x00\x00\x00\x02\x02" + "\x02\x00\x00\x00\x01" + "\x01\x06\x01\x09\x02\x00"},
		{long, text},
	}
}

// same tells whether two tracks are the same; a nil list is an empty one.
func same(a, b api.Track) bool { return fmt.Sprintf("%+v", a) == fmt.Sprintf("%+v", b) }

// 14.1

func TestExample(t *testing.T) {
	if s, e := keep.Write(api.Track{}); s != "\x00\x00\x00\x00" || e != api.OK {
		t.Errorf("the text of nothing: %x, %v", s, e)
	}
}

func TestTexts(t *testing.T) {
	for _, x := range tracks() {
		if s, e := keep.Write(x.track); s != x.text || e != api.OK {
			t.Errorf("Write of %.200v: %.200x, %v, want %.200x", x.track, s, e, x.text)
		}
		if k, e := keep.Read(x.text); !same(k, x.track) || e != api.OK {
			t.Errorf("Read of %.200x: %.200v, %v, want %.200v", x.text, k, e, x.track)
		}
	}
}

func TestTracksThatCanNotBeKept(t *testing.T) {
	one := func(r api.Run) api.Track { return api.Track{Count: 9, Runs: []api.Run{run(1), r, run(2)}} }
	for what, k := range map[string]api.Track{
		"Count -1": {Count: -1}, "the least Count": {Count: math.MinInt}, "a Count too great": {Count: api.MaxIndex + 1}, "the greatest Count": {Count: math.MaxInt},
		"Stamp -1": {Stamp: -1}, "the least Stamp": {Stamp: math.MinInt},
		"Lost -1": {Lost: -1}, "the least Lost": {Lost: math.MinInt}, "a Lost too great": {Lost: api.MaxIndex + 1}, "the greatest Lost": {Lost: math.MaxInt},
		"65 runs": {Runs: slices.Repeat([]api.Run{run(1)}, 65)}, "very many runs": {Runs: slices.Repeat([]api.Run{run(1)}, 1000)},
		"no picks": one(api.Run{Begin: 1}), "no picks of 0": one(api.Run{}), "16 picks": one(run(row(1, 16)...)), "very many picks": one(run(row(1, 1000)...)),
		"Begin -1": one(run(-1)), "the least Begin": one(run(math.MinInt)), "Begin -1 and more": one(run(-1, 0, 1)), "a Begin too great": one(run(api.MaxIndex + 1)), "the greatest Begin": one(run(math.MaxInt)),
		"another Begin": one(api.Run{Begin: 2, Picks: []int{3}}), "Begin 0 of another": one(api.Run{Picks: []int{3}}),
		"a run's Stamp -1": one(api.Run{Begin: 1, Stamp: -1, Picks: []int{1}}), "a run's least Stamp": one(api.Run{Begin: 1, Stamp: math.MinInt, Picks: []int{1}}),
		"State -1": one(api.Run{Begin: 1, State: -1, Picks: []int{1}}), "State 64": one(api.Run{Begin: 1, State: 64, Picks: []int{1}}), "a far State": one(api.Run{Begin: 1, State: math.MaxInt, Picks: []int{1}}), "the least State": one(api.Run{Begin: 1, State: math.MinInt, Picks: []int{1}}),
		"picks alike": one(run(1, 1)), "picks that fall": one(run(2, 1)), "late picks alike": one(run(1, 2, 3, 3)), "late picks that fall": one(run(1, 2, 3, 1)), "a pick too great": one(run(1, api.MaxIndex+1)), "a far pick": one(run(1, 2, math.MaxInt)), "a pick below": one(run(1, -1)), "a pick far below": one(run(1, math.MinInt)),
	} {
		if s, e := keep.Write(k); s != "" || e != api.ErrArg {
			t.Errorf("Write of %s: %.200x, %v", what, s, e)
		}
	}
}

// num is the bytes of numbers.
func num(l ...uint64) string {
	s := ""
	for _, n := range l {
		s += bits.Num(n)
	}
	return s
}

// noTexts are texts of no track that can be kept.
func noTexts() map[string]string {
	beyond, top := uint64(api.MaxIndex+1), uint64(math.MaxUint64)
	l := map[string]string{
		"nothing": "", "a Count alone": "\x00", "no number of runs": "\x00\x00\x00", "more behind": "\x00\x00\x00\x00\x00", "a run, but none is said": "\x00\x00\x00\x00" + num(1, 0, 0, 0, 1), "a run is missing": "\x00\x00\x00\x01", "one of two": "\x00\x00\x00\x02" + num(1, 0, 0, 0, 1),
		"a Count too great": num(beyond, 0, 0, 0), "a Count of 2^63": num(1<<63, 0, 0, 0), "the greatest Count": num(top, 0, 0, 0),
		"a Stamp of 2^63": num(0, 1<<63, 0, 0), "the greatest Stamp": num(0, top, 0, 0),
		"a Lost too great": num(0, 0, beyond, 0), "a Lost of 2^63": num(0, 0, 1<<63, 0), "the greatest Lost": num(0, 0, top, 0),
		"65 runs": num(0, 0, 0, 65) + strings.Repeat(num(1, 0, 0, 0, 1), 65), "64 of 65 runs": num(0, 0, 0, 65) + strings.Repeat(num(1, 0, 0, 0, 1), 64), "65 runs and none": num(0, 0, 0, 65), "very many runs": num(0, 0, 0, top), "2^63 runs": num(0, 0, 0, 1<<63), "300 runs": num(0, 0, 0, 300) + strings.Repeat(num(1, 0, 0, 0, 1), 300),
	}
	for what, r := range map[string]string{
		"no picks": num(1, 0, 0, 0, 0), "no picks of 0": num(0, 0, 0, 0, 0), "16 picks": num(1, 0, 0, 0, 16) + strings.Repeat("\x00", 15), "15 of 16 picks": num(1, 0, 0, 0, 16) + strings.Repeat("\x00", 14), "16 picks and none": num(1, 0, 0, 0, 16), "300 picks": num(1, 0, 0, 0, 300) + strings.Repeat("\x00", 299), "very many picks": num(1, 0, 0, 0, top), "2^63 picks": num(1, 0, 0, 0, 1<<63), "a pick is missing": num(1, 0, 0, 0, 2), "a pick too many": num(1, 0, 0, 0, 1, 0),
		"a Begin too great": num(beyond, 0, 0, 0, 1), "a Begin of 2^63": num(1<<63, 0, 0, 0, 1), "the greatest Begin": num(top, 0, 0, 0, 1), "2^63-1 as Begin": num(1<<63-1, 0, 0, 0, 1), "2^63-1 and more": num(1<<63-1, 0, 0, 0, 2, 0), "the greatest Begin and more": num(top, 0, 0, 0, 2, 0), "the greatest Begin and 2 more": num(top, 0, 0, 0, 3, 0, 0),
		"a Stamp of 2^63": num(1, 1<<63, 0, 0, 1), "the greatest Stamp": num(1, top, 0, 0, 1),
		"State 64": num(1, 0, 64, 0, 1), "the greatest State": num(1, 0, top, 0, 1), "a State of 2^63": num(1, 0, 1<<63, 0, 1), "a State of 2^32": num(1, 0, 1<<32, 0, 1),
		"a pick too great": num(0, 0, 0, 0, 2, api.MaxIndex), "a pick too great behind another": num(1, 0, 0, 0, 3, 0, api.MaxIndex-2), "a pick above the greatest": num(api.MaxIndex, 0, 0, 0, 2, 0), "a pick beyond": num(1, 0, 0, 0, 2, beyond), "a pick 2^63-1 above": num(1, 0, 0, 0, 2, 1<<63-1), "a pick 2^63 above": num(1, 0, 0, 0, 2, 1<<63), "a pick 2^64-1 above": num(1, 0, 0, 0, 2, top), "a pick 2^64-2 above": num(5, 0, 0, 0, 2, top-1), "picks that go round": num(5, 0, 0, 0, 3, 1<<63-1, 1<<63+9), "a pick 2^64-1 above, and one more": num(5, 0, 0, 0, 3, top, 3),
	} {
		l[what] = num(9, 0, 0, 1) + r
		l[what+", ahead of another run"] = num(9, 0, 0, 2) + r + num(1, 0, 0, 0, 1)
		l[what+", behind another run"] = num(9, 0, 0, 2) + num(1, 0, 0, 0, 1) + r
	}
	return l
}

// none fails, if a text is one of a track.
func none(t *testing.T, what, s string) {
	t.Helper()
	if k, e := keep.Read(s); !same(k, api.Track{}) || e != api.ErrForm {
		t.Errorf("Read of %s, %.100x: %.200v, %v", what, s, k, e)
	}
}

func TestTextsOfNoTrack(t *testing.T) {
	for what, s := range noTexts() {
		none(t, what, s)
	}
	for _, x := range tracks() {
		for i := range len(x.text) {
			none(t, "a beginning", x.text[:i])
		}
		for _, more := range []string{"\x00", "\x01", "\xff", x.text} {
			none(t, "a text with more behind", x.text+more)
		}
	}
	// Each number with more bytes than there could be.
	for i := range 4 {
		l := []string{"\x00", "\x00", "\x00", "\x00"}
		for _, long := range []string{"\xf8\x00", "\xf8\xf7", "\xf9\x00\xf8"} {
			l[i] = long
			none(t, "a long number", strings.Join(l, ""))
		}
	}
	for i := range 6 {
		l := []string{"\x01", "\x00", "\x00", "\x00", "\x02", "\x00"}
		l[i] = "\xf8" + l[i]
		none(t, "a long number of a run", num(9, 0, 0, 1)+strings.Join(l, ""))
	}
}

// 14.2

// draws is a row of numbers that is the same at each run.
func draws() *rand.Rand { return rand.New(rand.NewSource(1)) }

// anyTrack is a random track; most of them can be kept.
func anyTrack(r *rand.Rand) api.Track {
	number := func() int {
		if r.Intn(200) == 0 {
			return []int{-1, api.MaxIndex + 1, math.MaxInt, math.MinInt}[r.Intn(4)]
		}
		return []int{r.Intn(5), r.Intn(300), r.Intn(1 << 39), api.MaxIndex}[min(r.Intn(8), r.Intn(4))]
	}
	k := api.Track{Count: number(), Stamp: number(), Lost: number()}
	for range r.Intn(6) {
		x := api.Run{Begin: r.Intn(1000), Stamp: number(), State: r.Intn(65 - r.Intn(2)), Seen: r.Uint64() >> r.Intn(65)}
		for p := x.Begin; len(x.Picks) == 0 || r.Intn(5) > 0; p += 1 + r.Intn(400) - r.Intn(2)*r.Intn(2) {
			x.Picks = append(x.Picks, p)
		}
		k.Runs = append(k.Runs, x)
	}
	return k
}

// canBeKept tells by the words of the chapter whether a track can be kept.
func canBeKept(k api.Track) bool {
	can := k.Count >= 0 && k.Count <= 1<<39 && k.Lost >= 0 && k.Lost <= 1<<39 && k.Stamp >= 0 && len(k.Runs) <= 64
	for _, r := range k.Runs {
		can = can && r.Begin >= 0 && r.Stamp >= 0 && r.State >= 0 && r.State < 64 && len(r.Picks) >= 1 && len(r.Picks) <= 15
		for i, p := range r.Picks {
			can = can && p <= 1<<39 && (i > 0 || p == r.Begin) && (i == 0 || p > r.Picks[i-1])
		}
	}
	return can
}

func TestAnyTracks(t *testing.T) {
	r := draws()
	can, not := 0, 0
	for range 20000 {
		k := anyTrack(r)
		was := fmt.Sprintf("%+v", k)
		s, e := keep.Write(k)
		if now := fmt.Sprintf("%+v", k); now != was {
			t.Fatalf("%s became %s", was, now)
		}
		if !canBeKept(k) {
			not++
			if s != "" || e != api.ErrArg {
				t.Fatalf("Write of %+v: %x, %v", k, s, e)
			}
			continue
		}
		can++
		if got, f := keep.Read(s); e != api.OK || f != api.OK || !same(got, k) {
			t.Fatalf("Write of %+v: %x, %v, read as %+v, %v", k, s, e, got, f)
		}
	}
	if can < 5000 || not < 2000 {
		t.Errorf("only %d tracks could be kept, %d could not", can, not)
	}
}

// changed is a text with some bytes changed, taken out or put in.
func changed(r *rand.Rand, s string) string {
	b := []byte(s)
	for range 1 + r.Intn(3) {
		i := r.Intn(len(b) + 1)
		switch r.Intn(4) {
		case 0:
			b = slices.Insert(b, i, byte(r.Intn(256)))
		case 1:
			b = slices.Delete(b, min(i, len(b)), min(i+1, len(b)))
		case 2:
			if i < len(b) {
				b[i] = byte(r.Intn(256))
			}
		case 3:
			if i < len(b) {
				b[i] += byte(r.Intn(3)) - 1
			}
		}
	}
	return string(b)
}

func TestAnyBytes(t *testing.T) {
	r := draws()
	read := 0
	for range 100000 {
		s, _ := keep.Write(anyTrack(r))
		s = changed(r, s)
		k, e := keep.Read(s)
		if e != api.OK {
			if e != api.ErrForm || !same(k, api.Track{}) {
				t.Fatalf("Read of %x: %+v, %v", s, k, e)
			}
			continue
		}
		read++
		if got, f := keep.Write(k); got != s || f != api.OK || !canBeKept(k) {
			t.Fatalf("Read of %x: %+v, written as %x, %v", s, k, got, f)
		}
	}
	if read < 10000 {
		t.Errorf("only %d texts were read", read)
	}
}

// patterns are some whose engines know much.
func patterns() []string {
	return []string{"a;b", "a;!c;b", "a+;b within 9", "(a|b);(a|c)*;!b;c", "(a;!b;any){1,3};!c;b", "any;any;any;a", "any{2,};c", "(any|a;!any;b)+"}
}

func TestAnEngineGoesOnAsTheOneThatWasKept(t *testing.T) {
	r := draws()
	found, runs := 0, 0
	for _, s := range patterns() {
		p, _, _ := parse.Pattern(s)
		m, _ := nfa.Make(p)
		g, e := engine.New(m)
		if e != api.OK {
			t.Fatalf("%s: no engine: %v", s, e)
		}
		stamp := 0
		for i := range 150 {
			text, e := keep.Write(g.Track())
			k, f := keep.Read(text)
			if e != api.OK || f != api.OK || !same(k, g.Track()) {
				t.Fatalf("%s: %+v is kept as %x, %v, and read as %+v, %v", s, g.Track(), text, e, k, f)
			}
			again, e := engine.Resume(m, k)
			if e != api.OK {
				t.Fatalf("%s: Resume of %+v: %v", s, k, e)
			}
			stamp += r.Intn(3)
			v := api.Event{Stamp: stamp, Kind: []string{"a", "b", "c", "a"}[r.Intn(4)]}
			want, _ := g.Feed(v)
			got, e := again.Feed(v)
			if e != api.OK || fmt.Sprint(got) != fmt.Sprint(want) || !same(again.Track(), g.Track()) {
				t.Fatalf("%s, the event %d: %v, %v, want %v", s, i, got, e, want)
			}
			found += len(want)
			runs += len(k.Runs)
		}
	}
	if found < 1000 || runs < 5000 {
		t.Errorf("there were only %d matches and %d runs", found, runs)
	}
}

// R3

func TestAnswersAreNewMemory(t *testing.T) {
	l := tracks()
	s := l[len(l)-1].text
	k, _ := keep.Read(s)
	was, _ := keep.Read(s)
	for i, x := range k.Runs {
		for j := range x.Picks[:cap(x.Picks)] {
			x.Picks[:cap(x.Picks)][j] = 7777
		}
		k.Runs[i].Picks = was.Runs[i].Picks
		if !same(k, was) {
			t.Fatalf("as the picks of the run %d were changed, all became %+v", i, k)
		}
	}
}
