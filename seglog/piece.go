package seglog

import (
	"iter"
	"slices"
	"strconv"
	"strings"

	"auspice/api"
	"auspice/crc"
	"auspice/disk"
)

const (
	front  = "w." // of the name of a piece's file
	digits = 12   // behind it
	around = 7    // bytes of a pack beside its body
)

// piece is a piece of a log: the index of its first text, its texts, and how many bytes their packs have.
type piece struct {
	first int
	texts []string
	size  int
}

// next is the index behind the last text.
func (p piece) next() int {
	return p.first + len(p.texts)
}

// full tells whether a piece takes no more texts.
func (p piece) full() bool {
	return p.size >= Wide
}

// with is a piece with one text more.
func (p piece) with(text string) piece {
	p.texts = append(p.texts, text)
	p.size += around + len(text)
	return p
}

// cut is what is left of a piece ahead of an index, in memory of its own: what is put behind it must not overwrite the piece.
func (p piece) cut(at int) piece {
	n := at - p.first
	for _, text := range p.texts[n:] {
		p.size -= around + len(text)
	}
	p.texts = slices.Clone(p.texts[:n])
	return p
}

// put puts a text behind a piece on the disk.
func (p piece) put(d *disk.Disk, text string) api.Errno {
	pack, e := crc.Pack(text)
	if e != api.OK {
		return e
	}
	return d.Put(p.file(), p.size, pack)
}

// file is the name of a piece's file.
func (p piece) file() string {
	n := strconv.Itoa(p.first)
	return front + strings.Repeat("0", digits-len(n)) + n
}

// index is the index that the name of a file tells, if it is a piece's.
func index(file string) (int, bool) {
	told, ok := strings.CutPrefix(file, front)
	if !ok || len(told) != digits {
		return 0, false
	}
	n := 0
	for i := range digits {
		if told[i] < '0' || told[i] > '9' {
			return 0, false
		}
		n = 10*n + int(told[i]-'0')
	}
	return n, n >= 1 && n <= api.MaxIndex
}

// packs yields the bodies of the packs at the front of bytes.
func packs(s string) iter.Seq[string] {
	return func(yield func(string) bool) {
		bodies, _ := crc.All(s)
		for _, body := range bodies {
			if !yield(body) {
				return
			}
		}
	}
}
