package tale

import (
	"math"
	"strconv"
	"strings"

	"auspice/api"
	"auspice/event"
	"auspice/sm"
)

const (
	most   = 4 + api.MaxFields // words of a line: tell, who, the event's kind and stamp, its fields
	adding = 5                 // words of a line that adds a pattern, whose text is the last one
	long   = 18                // digits of a number
)

// split are a line's words, as many as it may have and one more. A pattern's text is one word, whatever blanks it has.
func split(s string) (l []string) {
	for word, all := range words(s) {
		if len(l) == adding-1 && l[0] == "add" {
			return append(l, all)
		}
		if len(l) > most {
			break
		}
		l = append(l, word)
	}
	return l
}

// read is the act of a line's words.
func read(l []string) (a api.Act, ok bool) {
	first, left := l[0], l[1:]
	if a, ok = named(first); !ok {
		return api.Act{}, false
	}
	for _, p := range places(&a) {
		if len(left) == 0 {
			return api.Act{}, false
		}
		if *p, ok = number(left[0]); !ok {
			return api.Act{}, false
		}
		left = left[1:]
	}
	ok = behind(&a, first, left)
	return a, ok
}

// named is what the first word says of an act.
func named(first string) (api.Act, bool) {
	switch first {
	case "cut":
		return api.Act{Kind: api.ActCut, N: 1}, true
	case "join":
		return api.Act{Kind: api.ActCut}, true
	case "add":
		return api.Act{Kind: api.ActLay}, true
	}
	for kind, s := range names {
		if s == first {
			return api.Act{Kind: kind}, true
		}
	}
	return api.Act{}, false
}

// behind reads what stands behind the numbers with which a line begins.
func behind(a *api.Act, first string, l []string) bool {
	switch first {
	case "add":
		return len(l) == 2 && readAdd(a, l[0], l[1])
	case "lay":
		return len(l) == 1 && readLay(a, l[0])
	case "tell":
		return len(l) >= 2 && readTell(a, l[0], l[1], l[2:])
	case "follow":
		return len(l) == 2 && readFollow(a, l[0], l[1])
	}
	return len(l) == 0
}

// readAdd reads the pattern that is to be added.
func readAdd(a *api.Act, name, pattern string) bool {
	s, e := sm.Write(api.Cmd{Kind: api.CmdAdd, Name: name, Text: pattern})
	a.Text = s
	return e == api.OK && adds(s)
}

// readLay reads the text that is to be laid, which is none that a line says by its pattern.
func readLay(a *api.Act, word string) (ok bool) {
	if len(word) > 2*api.MaxCmd {
		return false
	}
	a.Text, ok = unhex(word)
	return ok && !adds(a.Text)
}

// readTell reads the event that is to be told.
func readTell(a *api.Act, kind, stamp string, fields []string) (ok bool) {
	a.E.Kind = strings.Clone(kind)
	if a.E.Stamp, ok = number(stamp); !ok {
		return false
	}
	for _, s := range fields {
		f, ok := field(s)
		if !ok {
			return false
		}
		a.E.Fields = append(a.E.Fields, f)
	}
	return event.Check(a.E) == api.OK
}

// readFollow reads which pattern is to be followed, and how.
func readFollow(a *api.Act, name, n string) (ok bool) {
	a.Name = strings.Clone(name)
	a.N, ok = number(n)
	return ok && event.Word(name)
}

// field is the field of a word.
func field(s string) (api.Field, bool) {
	name, v, _ := strings.Cut(s, "=")
	f := api.Field{Name: strings.Clone(name)}
	if n, ok := number(v); ok {
		f.V = api.Value{Kind: api.Whole, N: n}
		return f, true
	}
	x, ok := realOf(v)
	f.V = api.Value{Kind: api.Real, F: x}
	return f, ok
}

// number is the number of a word, which is just what is written of it.
func number(s string) (int, bool) {
	n, err := strconv.Atoi(s)
	return n, err == nil && strconv.Itoa(n) == s && len(strings.TrimPrefix(s, "-")) <= long
}

// realOf is the real number of a word, which is just what is written of it.
func realOf(s string) (float64, bool) {
	bits, err := strconv.ParseUint(strings.TrimPrefix(s, "#"), 16, 64)
	f := math.Float64frombits(bits)
	return f, err == nil && realWord(f) == s
}

// unhex are the bytes of a word.
func unhex(s string) (string, bool) {
	if s == "-" {
		return "", true
	}
	b := make([]byte, len(s)/2)
	for i := range b {
		high, low := strings.IndexByte(digits, s[2*i]), strings.IndexByte(digits, s[2*i+1])
		if high < 0 || low < 0 {
			return "", false
		}
		b[i] = byte(high<<4 | low)
	}
	return string(b), len(s) > 0 && len(s)%2 == 0
}
