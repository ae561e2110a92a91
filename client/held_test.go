package client_test

import (
	"math"
	"math/rand"
	"testing"

	"auspice/api"
	"auspice/client"
)

// heldTeller is a teller as the chapter's words say it: of each event that was added whether it waits (0), came (1), or was refused (2).
type heldTeller struct {
	nodes, to, id, seq int
	events             []api.Event
	state              []int
}

// in are the events of a state.
func (h *heldTeller) in(state int) (l []api.Event) {
	for i, s := range h.state {
		if s == state {
			l = append(l, h.events[i])
		}
	}
	return l
}

// ends gives the first event that waits another state.
func (h *heldTeller) ends(state int) {
	for i, s := range h.state {
		if s == 0 {
			h.state[i] = state
			return
		}
	}
}

func (h *heldTeller) late() { h.to = (h.to + 1) % h.nodes }

func (h *heldTeller) add(e api.Event, may bool) api.Errno {
	if !may {
		return api.ErrArg
	}
	if len(h.in(0)) == 256 {
		return api.ErrFull
	}
	h.events, h.state = append(h.events, bare(e)), append(h.state, 0)
	return api.OK
}

func (h *heldTeller) told(r api.Reply, lead int) {
	if len(h.in(0)) == 0 {
		return
	}
	if r.Err == api.OK && h.id == 0 {
		if 1 <= r.N && r.N <= 1<<39 {
			h.id, h.seq = r.N, 0
		}
		return
	}
	if r.Err == api.OK {
		if r.N == h.seq+1 {
			h.ends(1)
			h.seq++
		}
		return
	}
	if r.Err == api.ErrNone && h.id != 0 {
		h.id, h.seq = 0, 0
		return
	}
	if r.Err == api.ErrStamp && h.id != 0 {
		h.ends(2)
		return
	}
	if 0 <= lead && lead < h.nodes {
		h.to = lead
	} else {
		h.late()
	}
}

// alike fails, unless the teller is as it is held.
func (h *heldTeller) alike(t *testing.T, x *client.Teller) {
	t.Helper()
	waiting := h.in(0)
	has(t, x, h.id, h.seq, len(waiting), h.in(2)...)
	switch {
	case len(waiting) == 0:
		silent(t, x)
	case h.id == 0:
		asks(t, x, h.to, open)
	default:
		asks(t, x, h.to, told(t, waiting[0], h.id, h.seq+1))
	}
}

// anyReply is an answer, most often one of which something becomes.
func (h *heldTeller) anyReply(r *rand.Rand) api.Reply {
	switch r.Intn(10) {
	case 0, 1, 2, 3:
		return api.Reply{N: h.seq + 1}
	case 4:
		return api.Reply{N: []int{r.Intn(9), 1 << 39, 1<<39 + 1, -1, math.MaxInt, math.MinInt}[r.Intn(6)]}
	case 5:
		return api.Reply{Err: api.ErrStamp}
	case 6:
		if r.Intn(5) == 0 {
			return api.Reply{Err: api.ErrNone}
		}
	case 7:
		return api.Reply{Err: others()[r.Intn(len(others()))], N: r.Intn(9)}
	}
	return api.Reply{Err: api.ErrLead}
}

// 22.1 to 22.3

func TestTellerIsAsTold(t *testing.T) {
	r := draws()
	for range 60 {
		h := &heldTeller{nodes: 1 + r.Intn(7)}
		x := teller(t, h.nodes)
		adding := r.Intn(5) // of some tellers the queue fills up
		for i := range 400 {
			switch k := r.Intn(8); {
			case k <= adding && r.Intn(9) == 0:
				l := mayNot()
				e := l[r.Intn(len(l))]
				if got := x.Add(e); got != h.add(e, false) {
					t.Fatalf("Add(%v): %d", e, got)
				}
			case k <= adding:
				e := may()[r.Intn(len(may()))]
				e.Stamp = i
				if got, want := x.Add(e), h.add(e, true); got != want {
					t.Fatalf("Add(%v): %d, want %d", e, got, want)
				}
			case k == 5 && r.Intn(3) == 0:
				x.Late()
				h.late()
			default:
				reply, lead := h.anyReply(r), r.Intn(10)-1
				x.Told(reply, lead)
				h.told(reply, lead)
			}
			h.alike(t, x)
			if t.Failed() {
				t.Fatalf("behind %d calls", i+1)
			}
		}
	}
}

// heldReader is a reader as the chapter's words say it.
type heldReader struct {
	nodes, to, at, gone int
	got                 []api.Got
}

func (h *heldReader) late() { h.to = (h.to + 1) % h.nodes }

func (h *heldReader) told(l []api.Match, next int, e api.Errno) {
	if e == api.OK && next == h.at+len(l) {
		for i, m := range l {
			h.got = append(h.got, api.Got{N: h.at + i, M: m})
		}
		h.at = next
		return
	}
	if e == api.ErrGone && next > h.at {
		h.gone += next - h.at
		h.at = next
		return
	}
	h.late()
}

func TestReaderIsAsTold(t *testing.T) {
	r := draws()
	for range 100 {
		h := &heldReader{nodes: 1 + r.Intn(7)}
		x := reader(t, h.nodes)
		for i := range 100 {
			l := row(h.at, h.at+r.Intn(4))
			next := h.at + len(l)
			if r.Intn(3) == 0 {
				next = []int{next + 1, next - 1, h.at + 5, h.at, 0, -1, math.MinInt}[r.Intn(7)]
			}
			switch r.Intn(6) {
			case 0:
				x.Late()
				h.late()
			case 1:
				e := append(others(), api.ErrNone, api.ErrStamp)[r.Intn(len(others())+2)]
				x.Told(l, next, e)
				h.told(l, next, e)
			case 2:
				x.Told(nil, next, api.ErrGone)
				h.told(nil, next, api.ErrGone)
			default:
				x.Told(l, next, api.OK)
				h.told(l, next, api.OK)
			}
			reads(t, x, h.to, h.at, h.gone, h.got)
			if t.Failed() {
				t.Fatalf("behind %d calls", i+1)
			}
		}
	}
}
