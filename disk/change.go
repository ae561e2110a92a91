package disk

import "slices"

// change is what is done to files. Its cost is how much of what is kept it takes, when the power fails.
type change interface {
	cost() int
}

// put lays bytes at a place of a file.
type put struct {
	file  string
	at    int
	bytes string
}

// trim cuts a file.
type trim struct {
	file string
	n    int
}

// move gives a file another name.
type move struct {
	file string
	to   string
}

// drop takes a file away.
type drop struct {
	file string
}

func (p put) cost() int { return 1 + len(p.bytes) }
func (trim) cost() int  { return 1 }
func (move) cost() int  { return 1 }
func (drop) cost() int  { return 1 }

// torn is a put of the first bytes alone.
func (p put) torn(n int) put {
	p.bytes = p.bytes[:n]
	return p
}

// files are files by their names, and how many bytes they have in all: a sum at each Put would take the longer, the more files there are.
type files struct {
	named map[string][]byte
	used  int
}

// blank is no files.
func blank() files {
	return files{named: map[string][]byte{}}
}

// copy is files like these, which share no bytes with them.
func (f *files) copy() files {
	g := blank()
	for file, b := range f.named {
		g.set(file, slices.Clone(b))
	}
	return g
}

// do does a change that may be done.
func (f *files) do(c change) {
	switch x := c.(type) {
	case put:
		b := f.named[x.file]
		n := copy(b[x.at:], x.bytes)
		f.set(x.file, append(b, x.bytes[n:]...))
	case trim:
		f.set(x.file, f.named[x.file][:x.n])
	case move:
		b := f.named[x.file]
		f.drop(x.file)
		f.set(x.to, b)
	case drop:
		f.drop(x.file)
	}
}

// set lets a file have other bytes.
func (f *files) set(file string, b []byte) {
	f.used += len(b) - len(f.named[file])
	f.named[file] = b
}

// drop takes a file away.
func (f *files) drop(file string) {
	f.used -= len(f.named[file])
	delete(f.named, file)
}
