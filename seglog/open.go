package seglog

import (
	"slices"

	"auspice/api"
	"auspice/disk"
)

// Open is the log that a disk says.
func Open(d *disk.Disk) (*Log, api.Errno) {
	if d == nil {
		return nil, api.ErrArg
	}
	if d.Down() {
		return nil, api.ErrDown
	}
	l := &Log{disk: d}
	behind, torn, e := l.read(begun(d))
	if e == api.OK {
		e = l.mend(behind, torn)
	}
	if e != api.OK {
		return nil, e
	}
	return l, api.OK
}

// begun is the pieces that a disk has, as their names tell: rising, as the names have one length, and no texts yet.
func begun(d *disk.Disk) (l []piece) {
	for _, file := range d.Names() {
		if first, ok := index(file); ok {
			l = append(l, piece{first: first})
		}
	}
	return l
}

// read reads pieces as long as one goes on where the one ahead of it ends: the pieces that are behind the log's end, and whether something stands behind the packs of its last one.
func (l *Log) read(found []piece) (behind []piece, torn bool, e api.Errno) {
	for i, p := range found {
		if torn || i > 0 && p.first != l.Next() {
			return found[i:], torn, api.OK
		}
		s, e := l.disk.Read(p.file())
		if e != api.OK {
			return nil, false, e
		}
		for text := range packs(s) {
			p = p.with(text)
		}
		l.pieces = append(l.pieces, p)
		torn = p.size < len(s)
	}
	return nil, torn, api.OK
}

// mend lets what does not belong to the log go from the disk, and sees that there is a piece.
func (l *Log) mend(behind []piece, torn bool) api.Errno {
	for _, p := range slices.Backward(behind) {
		if e := l.disk.Drop(p.file()); e != api.OK {
			return e
		}
	}
	if torn {
		if e := l.disk.Trim(l.last().file(), l.last().size); e != api.OK {
			return e
		}
	}
	fresh := len(l.pieces) == 0
	if fresh {
		l.pieces = []piece{{first: 1}}
		if e := l.disk.Put(l.last().file(), 0, ""); e != api.OK {
			return e
		}
	}
	if len(behind) == 0 && !torn && !fresh {
		return api.OK
	}
	return l.disk.Sync()
}
