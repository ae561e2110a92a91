package shelf

import (
	"fmt"
	"slices"
	"strings"
	"testing"
	"unsafe"

	"auspice/api"
	"auspice/crc"
	"auspice/disk"
)

// packed is the pack of a body.
func packed(body string) string {
	s, _ := crc.Pack(body)
	return s
}

// laid is a disk with some files, all of which is sure; of each two texts one is a name, one the bytes.
func laid(t *testing.T, files ...string) *disk.Disk {
	t.Helper()
	d := disk.New()
	for i := 0; i < len(files); i += 2 {
		is(t, "Put", d.Put(files[i], 0, files[i+1]), api.OK)
	}
	is(t, "Sync", d.Sync(), api.OK)
	return d
}

// onto is a disk's files as laid takes them.
func onto(d *disk.Disk) (l []string) {
	for _, file := range d.Names() {
		s, _ := d.Read(file)
		l = append(l, file, s)
	}
	return l
}

// files fails, if a disk's files are not those that are wanted, told as laid takes them.
func files(t *testing.T, what string, d *disk.Disk, want ...string) {
	t.Helper()
	if l := onto(d); !slices.Equal(l, want) {
		t.Errorf("%s: the files are %.200q, want %.200q", what, l, want)
	}
}

// thing is a vote or a snapshot: its file, its text, and how it is saved.
type thing struct {
	file string
	text string
	save func(d *disk.Disk) api.Errno
}

// things are an old one of each, and new ones that are shorter, longer and much longer than it.
func things() (old, fresh []thing) {
	vote := func(v api.Vote) thing {
		s, _ := Vote(v)
		return thing{"vote", s, func(d *disk.Disk) api.Errno { return SaveVote(d, v) }}
	}
	snap := func(v api.Snap) thing {
		s, _ := Snap(v)
		return thing{"snap", s, func(d *disk.Disk) api.Errno { return SaveSnap(d, v) }}
	}
	old = []thing{vote(api.Vote{Term: 300, For: 1}), snap(api.Snap{Index: 300, Term: 7, Mask: 5, Text: "some text"})}
	fresh = []thing{
		vote(api.Vote{Term: 4, For: -1}), vote(api.Vote{Term: 300, For: 1}), vote(api.Vote{Term: api.MaxIndex, For: 6}),
		snap(api.Snap{}), snap(api.Snap{Index: 400, Term: 9, Mask: 7, Text: "another text"}), snap(api.Snap{Index: 1, Text: strings.Repeat("z", 700)}),
	}
	return old, fresh
}

// of is the old thing of the same file.
func (x thing) of(l []thing) thing {
	return l[slices.IndexFunc(l, func(o thing) bool { return o.file == x.file })]
}

// loaded is the text of what a disk says by a file: empty, if there is none.
func loaded(t *testing.T, d *disk.Disk, file string) string {
	t.Helper()
	if file == "vote" {
		v, e := LoadVote(d)
		is(t, "LoadVote", e, api.OK)
		if v == (api.Vote{For: -1}) {
			return ""
		}
		s, _ := Vote(v)
		return s
	}
	v, there, e := LoadSnap(d)
	is(t, "LoadSnap", e, api.OK)
	if !there {
		return ""
	}
	s, _ := Snap(v)
	return s
}

// 7.2, 7.3, 7.4: what is saved is loaded.

func TestExample(t *testing.T) {
	d := disk.New()
	if v, e := LoadVote(d); v != (api.Vote{For: -1}) || e != api.OK {
		t.Errorf("LoadVote without files: %v, %v", v, e)
	}
	if v, there, e := LoadSnap(d); v != (api.Snap{}) || there || e != api.OK {
		t.Errorf("LoadSnap without files: %v, %v, %v", v, there, e)
	}
	is(t, "SaveVote", SaveVote(d, api.Vote{Term: 3, For: 1}), api.OK)
	if v, e := LoadVote(d); v != (api.Vote{Term: 3, For: 1}) || e != api.OK {
		t.Errorf("LoadVote: %v, %v", v, e)
	}
	files(t, "behind SaveVote", d, "vote", packed("\x03\x02"))
	is(t, "SaveSnap", SaveSnap(d, api.Snap{Index: 1, Term: 2, Mask: 3, Text: "ab"}), api.OK)
	if v, there, e := LoadSnap(d); v != (api.Snap{Index: 1, Term: 2, Mask: 3, Text: "ab"}) || !there || e != api.OK {
		t.Errorf("LoadSnap: %v, %v, %v", v, there, e)
	}
	files(t, "behind SaveSnap", d, "snap", packed("\x01\x02\x03\x02ab"), "vote", packed("\x03\x02"))
}

func TestWhatIsSavedIsLoaded(t *testing.T) {
	d := disk.New()
	for v := range votes() {
		is(t, "SaveVote", SaveVote(d, v), api.OK)
		d.Fail(0)
		d.Wake()
		if r, e := LoadVote(d); r != v || e != api.OK {
			t.Errorf("LoadVote: %v, %v, want %v", r, e, v)
		}
	}
	for v := range snaps() {
		is(t, "SaveSnap", SaveSnap(d, v), api.OK)
		d.Fail(0)
		d.Wake()
		if r, there, e := LoadSnap(d); r != v || !there || e != api.OK {
			t.Errorf("LoadSnap: %.80v, %v, %v, want %.80v", r, there, e, v)
		}
	}
	if l := d.Names(); !slices.Equal(l, []string{"snap", "vote"}) {
		t.Errorf("files: %q", l)
	}
}

func TestSaveOfWhatMayNotBe(t *testing.T) {
	d := laid(t, "snap.new", "?", "vote.new", "?")
	calls := d.Calls()
	for _, v := range noVotes() {
		is(t, "SaveVote", SaveVote(d, v), api.ErrArg)
		is(t, "SaveVote without a disk", SaveVote(nil, v), api.ErrArg)
	}
	for _, v := range noSnaps() {
		is(t, "SaveSnap", SaveSnap(d, v), api.ErrArg)
		is(t, "SaveSnap without a disk", SaveSnap(nil, v), api.ErrArg)
	}
	is(t, "SaveVote without a disk", SaveVote(nil, api.Vote{}), api.ErrArg)
	is(t, "SaveSnap without a disk", SaveSnap(nil, api.Snap{}), api.ErrArg)
	if d.Calls() != calls {
		t.Errorf("an error did something")
	}
	d.Fail(0)
	is(t, "SaveVote of none to a disk that is down", SaveVote(d, noVotes()[0]), api.ErrArg)
	is(t, "SaveSnap of none to a disk that is down", SaveSnap(d, noSnaps()[0]), api.ErrArg)
}

func TestADiskThatIsDown(t *testing.T) {
	d := laid(t, "snap", "?", "vote", "?")
	d.Fail(0)
	is(t, "SaveVote", SaveVote(d, api.Vote{}), api.ErrDown)
	is(t, "SaveSnap", SaveSnap(d, api.Snap{}), api.ErrDown)
	if v, e := LoadVote(d); v != (api.Vote{}) || e != api.ErrDown {
		t.Errorf("LoadVote: %v, %v", v, e)
	}
	if v, there, e := LoadSnap(d); v != (api.Snap{}) || there || e != api.ErrDown {
		t.Errorf("LoadSnap: %v, %v, %v", v, there, e)
	}
	if v, e := LoadVote(nil); v != (api.Vote{}) || e != api.ErrArg {
		t.Errorf("LoadVote without a disk: %v, %v", v, e)
	}
	if v, there, e := LoadSnap(nil); v != (api.Snap{}) || there || e != api.ErrArg {
		t.Errorf("LoadSnap without a disk: %v, %v, %v", v, there, e)
	}
}

func TestFilesThatSayNone(t *testing.T) {
	for _, body := range []string{"\x03\x02", "\x01\x02\x03\x02ab"} {
		whole := packed(body)
		l := []string{"", whole[1:], whole + "\x00", whole + whole, "\x00" + whole, body, packed(""), packed(body + "\x00"), packed(body[1:]), packed(whole)}
		for n := range len(whole) {
			l = append(l, whole[:n])
		}
		for bit := range 8 * len(whole) {
			b := []byte(whole)
			b[bit/8] ^= 1 << (bit % 8)
			l = append(l, string(b))
		}
		for _, s := range l {
			d := laid(t, "snap", s, "vote", s)
			if v, e := LoadVote(d); v != (api.Vote{}) || e != api.ErrForm {
				t.Errorf("LoadVote of %x: %v, %v", s, v, e)
			}
			if v, there, e := LoadSnap(d); v != (api.Snap{}) || there || e != api.ErrForm {
				t.Errorf("LoadSnap of %x: %v, %v, %v", s, v, there, e)
			}
			files(t, "behind the loading", d, "snap", s, "vote", s)
		}
	}
}

func TestOneThingDoesNotTouchTheOther(t *testing.T) {
	d := laid(t, "snap.new", "?", "vote.new", "?", "w.000000000001", "log")
	is(t, "SaveVote", SaveVote(d, api.Vote{Term: 3, For: 1}), api.OK)
	files(t, "behind SaveVote", d, "snap.new", "?", "vote", packed("\x03\x02"), "w.000000000001", "log")
	is(t, "SaveSnap", SaveSnap(d, api.Snap{}), api.OK)
	files(t, "behind SaveSnap", d, "snap", packed("\x00\x00\x00\x00"), "vote", packed("\x03\x02"), "w.000000000001", "log")
}

// 7.2: the order of what is done: whatever is done of a call when the power fails, is what these changes of a disk come to.

func TestWhatIsDone(t *testing.T) {
	old, fresh := things()
	for _, x := range fresh {
		file, pack := x.file, packed(x.text)
		put := func(d *disk.Disk) { d.Put(file+".new", 0, pack) }
		move := func(d *disk.Disk) { d.Move(file+".new", file) }
		drop := func(d *disk.Disk) { d.Drop(file + ".new") }
		sync := func(d *disk.Disk) { d.Sync() }
		was := []string{"other", "o", file, packed(x.of(old).text)}
		left := append(slices.Clone(was), file+".new", strings.Repeat("?", 2000))
		for _, c := range []struct {
			files []string
			steps []func(d *disk.Disk)
		}{
			{nil, []func(d *disk.Disk){put, move, sync}},
			{was, []func(d *disk.Disk){put, move, sync}},
			{left, []func(d *disk.Disk){drop, put, move, sync}},
		} {
			d := laid(t, c.files...)
			before := d.Calls()
			is(t, "saving", x.save(d), api.OK)
			if n := d.Calls() - before; n != len(c.steps) || d.Waits() != 0 {
				t.Errorf("%d calls, want %d; %d changes wait", n, len(c.steps), d.Waits())
			}
			for n := range c.steps {
				d, twin := laid(t, c.files...), laid(t, c.files...)
				d.Trip(n+1, 1<<20)
				is(t, "saving", x.save(d), api.ErrDown)
				d.Wake()
				for _, step := range c.steps[:n+1] {
					step(twin)
				}
				files(t, fmt.Sprint(file, " behind ", n+1, " calls"), d, onto(twin)...)
			}
		}
	}
}

// 7.4: wherever the power fails.

func TestWhereverThePowerFails(t *testing.T) {
	old, fresh := things()
	for _, x := range fresh {
		was := x.of(old)
		for _, files := range [][]string{
			nil,
			{x.file + ".new", packed(x.text)[:1]},
			{x.file, packed(was.text)},
			{x.file, packed(was.text), x.file + ".new", strings.Repeat("?", 900)},
		} {
			before := loaded(t, laid(t, files...), x.file)
			seen := map[string]bool{}
			for at := 1; at <= 4; at++ {
				for k := -1; k <= 740; k++ {
					d := laid(t, files...)
					d.Trip(at, k)
					if e := x.save(d); e == api.OK {
						is(t, "saving", e, api.OK)
						d.Fail(0)
						d.Wake()
						if s := loaded(t, d, x.file); s != x.text {
							t.Errorf("%s: what was saved is not there: %x", x.file, s)
						}
						break // no such call
					}
					if !d.Down() {
						t.Fatalf("an error, and the disk is up")
					}
					d.Wake()
					s := loaded(t, d, x.file)
					if s != before && s != x.text {
						t.Fatalf("%s, the power fails at the call %d, %d kept: %x, neither %x nor %x", x.file, at, k, s, before, x.text)
					}
					if k <= 0 && s != before {
						t.Errorf("%s, the power fails at the call %d, none kept: something changed", x.file, at)
					}
					seen[s] = true
					is(t, "saving again", x.save(d), api.OK)
					if s := loaded(t, d, x.file); s != x.text {
						t.Errorf("saved again: %x, want %x", s, x.text)
					}
				}
			}
			if !seen[before] || !seen[x.text] {
				t.Errorf("%s: not both were seen", x.file)
			}
		}
	}
}

// 7.2, 7.4: without room.

func TestWithoutRoom(t *testing.T) {
	old, fresh := things()
	for _, x := range fresh {
		was := packed(x.of(old).text)
		size := len(packed(x.text))
		for room := range size + 1 {
			d := laid(t, "o", "other", x.file, was)
			d.Put("o", 0, "O") // a change of somebody else's, which is not sure
			d.Room(5 + len(was) + room)
			calls := d.Calls()
			want, done := api.ErrFull, 0
			if room == size {
				want, done = api.OK, 3
			}
			is(t, fmt.Sprint("saving with room for ", room, " of ", size), x.save(d), want)
			if n := d.Calls() - calls; n != done {
				t.Errorf("room for %d of %d: %d calls, want %d", room, size, n, done)
			}
			if want == api.OK {
				continue
			}
			if d.Waits() != 1 {
				t.Errorf("%d changes wait, want that of somebody else", d.Waits())
			}
			files(t, "without room", d, "o", "Other", x.file, was)
		}
	}
}

func TestWithoutRoomAndWithWhatWasLeft(t *testing.T) {
	old, fresh := things()
	for _, x := range fresh {
		was := packed(x.of(old).text)
		size := len(packed(x.text))
		for _, left := range []int{0, 1, size - 1, size, size + 1} {
			d := laid(t, x.file, was, x.file+".new", strings.Repeat("?", left))
			d.Room(0)
			calls := d.Calls()
			is(t, "saving without room", x.save(d), api.ErrFull)
			if n := d.Calls() - calls; n != 2 || d.Waits() != 0 {
				t.Errorf("%d calls, want a Drop and a Sync; %d changes wait", n, d.Waits())
			}
			files(t, "without room", d, x.file, was)
			d.Fail(0)
			d.Wake()
			files(t, "without room, and behind a loss of power", d, x.file, was)
		}
		// What goes leaves room for what comes.
		d := laid(t, x.file, was, x.file+".new", strings.Repeat("?", size))
		d.Room(d.Used())
		is(t, "saving with what was left", x.save(d), api.OK)
		files(t, "with room", d, x.file, packed(x.text))
	}
}

func TestWithoutRoomAndThePowerFails(t *testing.T) {
	old, fresh := things()
	for _, x := range fresh {
		was := packed(x.of(old).text)
		for at := 1; at <= 2; at++ {
			for k, want := range [][]string{{x.file, was, x.file + ".new", "?"}, {x.file, was}} {
				d := laid(t, x.file, was, x.file+".new", "?")
				d.Room(0)
				d.Trip(at, k)
				is(t, "saving without room, at a trip", x.save(d), api.ErrDown)
				d.Wake()
				files(t, fmt.Sprint("the power fails at the call ", at), d, want...)
			}
		}
	}
}

// R3: what is handed in is not kept, what is loaded shares no memory with the disk.

func TestMemory(t *testing.T) {
	body := []byte("abcd")
	d := disk.New()
	is(t, "SaveSnap", SaveSnap(d, api.Snap{Text: unsafe.String(&body[0], 4)}), api.OK)
	body[0] = '!'
	one, _, _ := LoadSnap(d)
	*unsafe.StringData(one.Text) = '?'
	if two, _, e := LoadSnap(d); two.Text != "abcd" || e != api.OK {
		t.Errorf("what is loaded: %q, %v", two.Text, e)
	}
}
