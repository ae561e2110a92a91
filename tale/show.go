package tale

import (
	"math"
	"strconv"
	"strings"

	"auspice/api"
)

const digits = "0123456789abcdef"

// shown is the line of what an act's kind names.
func shown(a api.Act) string {
	l := []string{name(a)}
	for _, p := range places(&a) {
		l = append(l, strconv.Itoa(*p))
	}
	switch a.Kind {
	case api.ActLay:
		l = append(l, command(a.Text)...)
	case api.ActTell:
		l = append(l, a.E.Kind, strconv.Itoa(a.E.Stamp))
		for _, f := range a.E.Fields {
			l = append(l, f.Name+"="+value(f.V))
		}
	case api.ActFollow:
		l = append(l, a.Name, strconv.Itoa(a.N))
	}
	return line(l...)
}

// name is the first word of an act's line.
func name(a api.Act) string {
	switch {
	case a.Kind == api.ActCut && a.N == 0:
		return "join"
	case a.Kind == api.ActLay && adds(a.Text):
		return "add"
	case a.Kind < 0 || a.Kind >= len(names):
		return ""
	}
	return names[a.Kind]
}

// command are the words of a text that is to be laid.
func command(text string) []string {
	if c, ok := added(text); ok {
		return []string{c.Name, c.Text}
	}
	return []string{hex(text)}
}

// value is a number's word. A text has none.
func value(v api.Value) string {
	switch v.Kind {
	case api.Whole:
		return strconv.Itoa(v.N)
	case api.Real:
		return realWord(v.F)
	}
	return ""
}

// realWord is a real number's word: its bits.
func realWord(f float64) string {
	s := strconv.FormatUint(math.Float64bits(f), 16)
	return "#" + strings.Repeat("0", 16-len(s)) + s
}

// hex is bytes by their digits.
func hex(s string) string {
	if s == "" {
		return "-"
	}
	var b strings.Builder
	for i := range len(s) {
		b.WriteByte(digits[s[i]>>4])
		b.WriteByte(digits[s[i]&15])
	}
	return b.String()
}
