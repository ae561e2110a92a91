package tale_test

import (
	"fmt"
	"math/rand"
	"slices"
	"strings"
	"testing"

	"auspice/api"
	"auspice/cluster"
	"auspice/tale"
)

// 24.2: what is told

func TestExample(t *testing.T) {
	becomes(t, 1, "tick 20 0 0\ntell 0 a 5 x=3\nask 0 0\nask 0 0\n",
		"1 ok", "2 ok", "3 ok", "4 ok", "node 0 up 1 2 3", "teller 0 2 1 0", "teller 1 0 0 0", "teller 2 0 0 0", "teller 3 0 0 0")
}

func TestTaleOfNothing(t *testing.T) {
	clients := []string{"teller 0 0 0 0", "teller 1 0 0 0", "teller 2 0 0 0", "teller 3 0 0 0"}
	for _, text := range []string{"", "\n", "\n\n\n", "#\n", "# tick 5 0 0\n\n#no act\n#\x00\xff\n"} {
		becomes(t, 1, text, append([]string{"node 0 up 0 0 0"}, clients...)...)
		becomes(t, 3, text, append([]string{"node 0 up 0 0 0", "node 1 up 0 0 0", "node 2 up 0 0 0"}, clients...)...)
	}
}

func TestTaleOfErrors(t *testing.T) {
	becomes(t, 2, "stop 1 0\n\n# the acts alone are counted\nstop 1 0\nstart 0 0\nask 0 0\nask 4 0\nlay 0 0 -\nread 3\ntick 201 0 0\ntell 3 a 9\nask 3 0\nlose 1\n",
		"1 ok", "2 error 8", "3 error 9", "4 error 4", "5 error 1", "6 error 160", "7 error 4", "8 error 1", "9 ok", "10 error 160", "11 error 4",
		"node 0 up 0 0 0", "node 1 down 0 0 0", "teller 0 0 0 0", "teller 1 0 0 0", "teller 2 0 0 0", "teller 3 0 0 1")
}

func TestTaleOfReaders(t *testing.T) {
	text := "tick 20 0 0\nadd 0 0 p a ; b within 1\nfollow 2 p 1\nfollow 0 p 9\nfollow 3 q 1\ntell 1 a 5\ntell 1 a 5\ntell 1 b 5\ntell 1 c 5\n"
	text += strings.Repeat("ask 1 0\n", 4) + "read 2\nread 0\nread 3\nstop 0 0\n"
	var want []string
	for i := range 17 {
		want = append(want, fmt.Sprint(i+1, " ok"))
	}
	want[15] = "16 error 4"
	becomes(t, 1, text, append(want, "node 0 down 1 2 6", "teller 0 0 0 0", "teller 1 3 3 1", "teller 2 0 0 0", "teller 3 0 0 0",
		"reader 0 2 0 0:0,2 1:1,2", "reader 2 1 0 0:0,2", "reader 3 0 0")...)
	// The matches that are gone are counted.
	forget := strings.Replace(text, "read 2\n", "lay 0 0 06017001\nread 2\n", 1)
	if s := play(t, 1, forget); !strings.Contains(s, "\n14 ok\n15 error 180\n16 error 180\n17 error 4\n18 ok\n") || !strings.HasSuffix(s, "\nreader 0 1 1\nreader 2 1 1\nreader 3 0 0\n") {
		t.Errorf("Play of %q:\n%s", forget, s)
	}
}

func TestTaleOfThree(t *testing.T) {
	becomes(t, 3, "tick 22 0 0\nstop 2 0\ntell 0 a 1\nask 0 0\ntick 1 0 0\nask 0 0\ntick 1 0 0\nask 0 0\n",
		"1 ok", "2 ok", "3 ok", "4 ok", "5 ok", "6 ok", "7 ok", "8 error 4",
		"node 0 up 2 2 3", "node 1 up 2 0 2", "node 2 down 2 0 1", "teller 0 2 1 0", "teller 1 0 0 0", "teller 2 0 0 0", "teller 3 0 0 0")
}

// 24.2: what no tale is

func TestTaleOfNoCluster(t *testing.T) {
	for _, n := range append(far(), 0, 8) {
		for _, text := range []string{"", "tick 1 0 0\n", "x", strings.Repeat("\n", 401)} {
			stops(t, n, text, api.ErrArg)
		}
	}
	for n := 1; n <= 7; n++ {
		play(t, n, "tick 9 0 0\n")
	}
}

func TestTalesThatAreLong(t *testing.T) {
	for _, line := range []string{"\n", "#\n", "lose 1\n", "tick 5 0 0\n"} {
		play(t, 1, strings.Repeat(line, 400))
		stops(t, 1, strings.Repeat(line, 401), api.ErrLong)
		stops(t, 1, strings.Repeat(line, 400)+"\n", api.ErrLong)
		stops(t, 1, strings.Repeat(line, 400)+"x", api.ErrForm)
		stops(t, 1, "x\n"+strings.Repeat(line, 400), api.ErrLong)
		stops(t, 1, "x\n"+strings.Repeat(line, 399), api.ErrForm)
	}
	stops(t, 1, strings.Repeat("\n", 1<<20), api.ErrLong)
	play(t, 1, "#"+strings.Repeat("x", 1<<20)+"\n")
}

func TestTalesWithManyTicks(t *testing.T) {
	full := strings.Repeat("tick 200 0 0\n", 10)
	for _, more := range []string{"", "tick 0 0 0\n", "tick 201 0 0\n", "tick -1 0 0\n", "tick 999999999999999999 0 0\n", "#tick 1 0 0\n", "lose 200\n", "stop 0 5\n"} {
		play(t, 1, more+full+more)
	}
	for _, more := range []string{"tick 1 0 0\n", "tick 200 0 0\n", "tick 1 0 -1\n", "tick 1 -5 549755813889\n"} { // of the last ones no tick passes
		stops(t, 1, full+more, api.ErrLong)
		stops(t, 1, full+"tick -200 0 0\n"+more, api.ErrLong)
		stops(t, 1, more+"x\n"+full, api.ErrLong)
		stops(t, 1, "x\n"+more+full+"\ntick", api.ErrLong)
		stops(t, 9, full+more, api.ErrArg)
	}
	for _, more := range []string{"tick 1 0 0", "tick 1 0\n", "tick 1 0 0 \n", "tick 01 0 0\n", " tick 1 0 0\n", "tick\n"} { // none of these is a line of tick
		stops(t, 1, full+more, api.ErrForm)
	}
	play(t, 1, strings.Repeat("tick 199 0 0\n", 10)+"tick 10 0 0\n")
	stops(t, 1, strings.Repeat("tick 199 0 0\n", 10)+"tick 11 0 0\n", api.ErrLong)
	stops(t, 1, strings.Repeat("tick 200 0 0\n", 400), api.ErrLong)
	if tale.MaxLines != 400 || tale.MaxTicks != 2000 {
		t.Errorf("MaxLines is %d, MaxTicks %d", tale.MaxLines, tale.MaxTicks)
	}
}

func TestTalesOfNoForm(t *testing.T) {
	for _, s := range wrong() {
		if s == "" || s[0] == '#' || strings.Contains(s, "\n") {
			continue
		}
		stops(t, 1, s+"\n", api.ErrForm)
		stops(t, 1, "tick 1 0 0\n"+s+"\ntick 1 0 0\n", api.ErrForm)
	}
	for _, s := range []string{"x", "tick 1 0 0", "\nx", "#", "\n#", " ", "tick 1 0 0\n\x00", "tick 1 0 0\r\n", " #\n", " \n", "tick 1 0 0\n\r\n"} {
		stops(t, 1, s, api.ErrForm)
	}
}

// told is what becomes of a cluster by some acts.
func told(nodes int, acts []api.Act) string {
	var b strings.Builder
	c := cluster.New(nodes)
	for i, a := range acts {
		if e := c.Do(a); e == 0 {
			fmt.Fprintf(&b, "%d ok\n", i+1)
		} else {
			fmt.Fprintf(&b, "%d error %d\n", i+1, e)
		}
	}
	for i := range nodes {
		state := map[bool]string{true: "up", false: "down"}[c.Up(i)]
		fmt.Fprintf(&b, "node %d %s %d %d %d\n", i, state, c.Core(i).Term, c.Core(i).Role, c.Applied(i))
	}
	for k := range 4 {
		id, seq := c.Teller(k).Session()
		fmt.Fprintf(&b, "teller %d %d %d %d\n", k, id, seq, c.Teller(k).Left())
	}
	for k := range 4 {
		r := c.Reader(k)
		if r == nil {
			continue
		}
		fmt.Fprintf(&b, "reader %d %d %d", k, r.At(), r.Gone())
		for _, g := range r.Got() {
			fmt.Fprintf(&b, " %d:%s", g.N, strings.ReplaceAll(strings.Trim(fmt.Sprint(g.M.Picks), "[]"), " ", ","))
		}
		b.WriteString("\n")
	}
	return b.String()
}

// happening is an act of which something becomes, most often.
func happening(r *rand.Rand, nodes, now int) api.Act {
	i, k, n := r.Intn(nodes), r.Intn(4), r.Intn(9)
	switch r.Intn(36) {
	case 0:
		return api.Act{Kind: api.ActStop, Node: i, N: n * 50}
	case 1, 2:
		return api.Act{Kind: api.ActStart, Node: i, Draw: n}
	case 3:
		return []api.Act{{Kind: api.ActTrip, Node: i, N: n, Keep: n * 9}, {Kind: api.ActRoom, Node: i, N: n*50 - 99}, {Kind: api.ActMask, Node: i, N: r.Intn(1 << nodes)}}[r.Intn(3)]
	case 4:
		return api.Act{Kind: api.ActCut, Node: i, Other: r.Intn(nodes), N: r.Intn(2)}
	case 5:
		return api.Act{Kind: []int{api.ActLose, api.ActTwice}[r.Intn(2)], N: r.Intn(5 * (now + 1)), Delay: 0}
	case 6:
		return api.Act{Kind: api.ActFollow, Who: k, Name: []string{"p", "q"}[r.Intn(2)], N: n}
	case 7, 8:
		return lays(i*r.Intn(2), r.Intn(3), []string{add("p", "a ; b"), add("p", "a;b;;"), add("q", "a | b"), "\x01", ""}[r.Intn(5)])
	case 9, 10, 17, 18:
		return tells(k, of(now, []string{"a", "b"}[r.Intn(2)], whole("x", n)))
	case 11, 12, 13, 14, 19, 20, 21, 22, 23, 24:
		return api.Act{Kind: api.ActAsk, Who: k, Delay: r.Intn(2)}
	case 15, 16, 25:
		return api.Act{Kind: api.ActRead, Who: k}
	}
	return api.Act{N: n, Draw: r.Intn(99), Delay: r.Intn(2)}
}

// 24.2 and 24.3

func TestTalesTellWhatBecomes(t *testing.T) {
	r := draws()
	matches, errors, downs := 0, 0, 0
	for seed := range 70 {
		nodes, now := 1+seed%7, 0
		var acts []api.Act
		var text strings.Builder
		for range 320 {
			a := happening(r, nodes, now)
			if a.Kind == api.ActTick {
				now += a.N
			}
			if now > 2000 {
				break
			}
			s, e := tale.Show(a)
			if e != api.OK {
				t.Fatalf("Show(%s): %d", short(a), e)
			}
			acts = append(acts, a)
			text.WriteString([]string{"", "", "", "", "", "", "", "", "\n", "# " + s + "\n"}[r.Intn(10)] + s + "\n")
		}
		if strings.Count(text.String(), "\n") > 400 {
			continue
		}
		want, s := told(nodes, acts), play(t, nodes, text.String())
		if s != want {
			t.Fatalf("%d: Play of\n%s\n%s\nwant\n%s", seed, text.String(), s, want)
		}
		if play(t, nodes, text.String()) != s {
			t.Fatalf("the same tale tells something else")
		}
		matches, errors, downs = matches+strings.Count(s, ":"), errors+strings.Count(s, "error"), downs+strings.Count(s, "down")
	}
	if matches < 60 || errors < 1000 || downs < 20 {
		t.Errorf("too little happened: %d matches were read, %d errors, %d nodes were down", matches, errors, downs)
	}
}

func TestTalesAreReadAsLinesAre(t *testing.T) {
	// Of any bytes, what a tale answers is what its lines are.
	r, l, known := draws(), forms(), pairs()
	got := map[api.Errno]int{}
	for range 6000 {
		var lines []string
		for range r.Intn(5) {
			s := known[r.Intn(len(known))].line
			if r.Intn(3) == 0 {
				s = []string{"", "#", "#x y", changed(r, s)}[r.Intn(4)]
			}
			if strings.HasPrefix(s, "tick 999") || len(s) > 300 {
				s = "tick 200 1 1"
			}
			lines = append(lines, strings.ReplaceAll(s, "\n", "x"))
		}
		text := strings.Join(append(slices.Clone(lines), ""), "\n")
		want := api.OK
		if r.Intn(9) == 0 {
			text, want = text+"tick 1 0 0", api.ErrForm
		}
		for _, s := range lines {
			if s != "" && s[0] != '#' && !isLine(l, s) {
				want = api.ErrForm
			}
		}
		got[want]++
		if s, e := tale.Play(1, text); e != want || (s == "") != (e != api.OK) {
			t.Fatalf("Play(1, %q): %q, %d, want %d", text, s, e, want)
		}
	}
	if got[api.OK] < 1000 || got[api.ErrForm] < 1000 {
		t.Errorf("too little was read: %v", got)
	}
}
