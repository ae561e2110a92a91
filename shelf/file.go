package shelf

import (
	"cmp"

	"auspice/api"
	"auspice/crc"
	"auspice/disk"
)

const fresh = ".new" // behind the name of a file that is not whole yet

// save lets a file say a text. It is laid down beside the file, and takes its place as a whole.
func save(d *disk.Disk, file, text string) api.Errno {
	pack, e := crc.Pack(text)
	if e != api.OK {
		return e
	}
	beside := file + fresh
	gone := d.Drop(beside) // what a loss of power left there may be longer than what is put
	if gone != api.OK && gone != api.ErrNone {
		return gone
	}
	e = d.Put(beside, 0, pack)
	if e == api.ErrFull && gone == api.OK {
		return cmp.Or(d.Sync(), e) // that the disk is down outweighs that it is full
	}
	if e == api.OK {
		e = d.Move(beside, file)
	}
	if e == api.OK {
		e = d.Sync()
	}
	return e
}

// load is what a file says, and whether there is one: what says what the body of its pack does.
func load[T any](d *disk.Disk, file string, what func(text string) (T, api.Errno)) (v T, there bool, e api.Errno) {
	s, e := d.Read(file)
	if e == api.ErrNone {
		return v, false, api.OK
	}
	if e != api.OK {
		return v, false, e
	}
	text, rest, e := crc.Unpack(s)
	if e != api.OK || rest != "" {
		return v, false, api.ErrForm
	}
	v, e = what(text)
	return v, e == api.OK, e
}
