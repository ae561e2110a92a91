package lex

import (
	"math"
	"math/rand"
	"regexp"
	"slices"
	"strconv"
	"strings"
	"testing"
	"unsafe"

	"auspice/api"
)

// draws is a row of numbers that is the same at each run.
func draws() *rand.Rand { return rand.New(rand.NewSource(1)) }

// Tokens without their places, one at its place, and the end.
func aWord(s string) api.Token            { return api.Token{Kind: api.TokWord, Text: s} }
func aSign(s string) api.Token            { return api.Token{Kind: api.TokSign, Text: s} }
func aNumber(s string, n int) api.Token   { return api.Token{Kind: api.TokNum, Text: s, N: n} }
func aText(s string) api.Token            { return api.Token{Kind: api.TokText, Text: "'" + s + "'", S: s} }
func someBits(s string, n int) api.Token  { return api.Token{Kind: api.TokBits, Text: s, N: n} }
func at(place int, t api.Token) api.Token { t.At = place; return t }
func ending(place int) api.Token          { return api.Token{At: place} }

// scans fails, if a text isn't taken apart as it ought to be.
func scans(t *testing.T, s string, want ...api.Token) {
	t.Helper()
	if l, at, e := Scan(s); !slices.Equal(l, want) || at != 0 || e != api.OK {
		t.Errorf("Scan(%q): %v, %d, %v, want %v", s, l, at, e, want)
	}
}

// one fails, if a text isn't that token alone, wherever it stands among blanks.
func one(t *testing.T, s string, want api.Token) {
	t.Helper()
	scans(t, s, at(0, want), ending(len(s)))
	scans(t, " \t"+s+"\r\n ", at(2, want), ending(len(s)+5))
	scans(t, s+" "+s, at(0, want), at(len(s)+1, want), ending(2*len(s)+1))
}

// fails fails, if a text is taken apart, or is no longer at another place.
func fails(t *testing.T, s string, place int) {
	t.Helper()
	if l, at, e := Scan(s); len(l) > 0 || at != place || e != api.ErrLex {
		t.Errorf("Scan(%q): %v, %d, %v, want ErrLex at %d", s, l, at, e, place)
	}
}

// 9.1

func TestExamples(t *testing.T) {
	scans(t, "a[x>=-1]", at(0, aWord("a")), at(1, aSign("[")), at(2, aWord("x")), at(3, aSign(">=")), at(5, aNumber("-1", -1)), at(7, aSign("]")), ending(8))
	scans(t, "'b c'+", at(0, aText("b c")), at(5, aSign("+")), ending(6))
	fails(t, "01", 0)
}

func TestNothingButBlanks(t *testing.T) {
	for _, s := range []string{"", " ", "\t", "\n", "\r", " \t\n\r \t\n\r"} {
		scans(t, s, ending(len(s)))
	}
}

func TestWords(t *testing.T) {
	for _, s := range []string{"a", "z", "az", "a0", "a9", "a_", "a__", "z09_az", "any", "within", "nan", "x01", strings.Repeat("a", 17), strings.Repeat("z_9", 600)} {
		one(t, s, aWord(s))
	}
	scans(t, "a-1", at(0, aWord("a")), at(1, aNumber("-1", -1)), ending(3))
	scans(t, "a'b'", at(0, aWord("a")), at(1, aText("b")), ending(4))
}

func TestNumbers(t *testing.T) {
	for s, n := range map[string]int{"0": 0, "-0": 0, "1": 1, "9": 9, "-1": -1, "10": 10, "-10": -10, "100": 100, "1234567890": 1234567890,
		"999999999999999999": 1e18 - 1, "-999999999999999999": 1 - 1e18, "100000000000000000": 1e17, "-100000000000000000": -1e17} {
		one(t, s, aNumber(s, n))
	}
	scans(t, "1a", at(0, aNumber("1", 1)), at(1, aWord("a")), ending(2))
	scans(t, "0a0", at(0, aNumber("0", 0)), at(1, aWord("a0")), ending(3))
	scans(t, "1-2", at(0, aNumber("1", 1)), at(1, aNumber("-2", -2)), ending(3))
	scans(t, "1/-3", at(0, aNumber("1", 1)), at(1, aSign("/")), at(2, aNumber("-3", -3)), ending(4))
	scans(t, "0-0", at(0, aNumber("0", 0)), at(1, aNumber("-0", 0)), ending(3))
	scans(t, "0 1", at(0, aNumber("0", 0)), at(2, aNumber("1", 1)), ending(3))
}

func TestNumbersThatMayNotBe(t *testing.T) {
	for _, s := range []string{"01", "00", "-00", "-01", "000", "010", "1000000000000000000", "-1000000000000000000", "9223372036854775807", "0000000000000000000",
		strings.Repeat("9", 19), strings.Repeat("9", 64), strings.Repeat("9", api.MaxSource), "-", "- 1", "--1", "-a", "-'a'"} {
		fails(t, s, 0)
	}
	fails(t, "1 02", 2)
	fails(t, "1--2", 1)
	fails(t, "1-02", 1)
}

func TestTexts(t *testing.T) {
	all := ""
	for b := range 256 {
		if c := byte(b); c != '\'' && c != 10 && c != 13 {
			one(t, "'"+string([]byte{c})+"'", aText(string([]byte{c})))
			all += string([]byte{c})
		}
	}
	for len(all) > 0 {
		n := min(len(all), api.MaxText)
		one(t, "'"+all[:n]+"'", aText(all[:n]))
		all = all[n:]
	}
	for _, s := range []string{"", "b c", " ", "\t", "\"", "#", "\\", strings.Repeat("s", 63), strings.Repeat("s", 64), strings.Repeat("ä", 32), strings.Repeat("\xff", 64)} {
		one(t, "'"+s+"'", aText(s))
	}
	scans(t, "'a''b'", at(0, aText("a")), at(3, aText("b")), ending(6))
	scans(t, "''''", at(0, aText("")), at(2, aText("")), ending(4))
}

func TestTextsThatMayNotBe(t *testing.T) {
	for _, s := range []string{"'", "'a", "'\n'", "'\r'", "'a\nb'", "'a\rb'", "'a\n", "'" + strings.Repeat("s", 65) + "'", "'" + strings.Repeat("ä", 33) + "'", "'" + strings.Repeat("s", 64), "'" + strings.Repeat("s", 1000) + "'"} {
		fails(t, s, 0)
		fails(t, " a "+s, 3)
	}
	fails(t, "'''", 2)
	fails(t, "'a' 'b", 4)
}

func TestBits(t *testing.T) {
	for s, n := range map[string]int{"#0000000000000000": 0, "#0000000000000001": 1, "#3ff0000000000000": 0x3ff0000000000000, "#7ff8000000000001": 0x7ff8000000000001,
		"#7fffffffffffffff": math.MaxInt, "#8000000000000000": math.MinInt, "#ffffffffffffffff": -1, "#fedcba9876543210": -0x0123456789abcdf0, "#0123456789abcdef": 0x0123456789abcdef} {
		one(t, s, someBits(s, n))
		scans(t, s+"g", at(0, someBits(s, n)), at(17, aWord("g")), ending(18))
		scans(t, s+"]", at(0, someBits(s, n)), at(17, aSign("]")), ending(18))
		scans(t, s+s, at(0, someBits(s, n)), at(17, someBits(s, n)), ending(34))
	}
}

func TestBitsThatMayNotBe(t *testing.T) {
	for _, s := range []string{"#", "# ", "#0", "##", "#000000000000000", "#00000000000000000", "#0000000000000000f", "#00000000000000000000000000000000", "#000000000000000g", "#000000000000000F", "#FFFFFFFFFFFFFFFF",
		"#00000000 00000000", "# 0000000000000000", "#-000000000000001", "#0x00000000000000", "#0000000_00000000", "#+000000000000000"} {
		fails(t, s, 0)
		fails(t, "a\n"+s, 2)
	}
	fails(t, "#0000000000000000F", 17)
}

func TestSigns(t *testing.T) {
	for _, s := range []string{"(", ")", "[", "]", "{", "}", ",", ";", "|", "*", "+", "?", "!", "=", "!=", "<", "<=", ">", ">=", "/"} {
		one(t, s, aSign(s))
	}
	for _, c := range []struct{ s, one, two string }{{"<<", "<", "<"}, {"==", "=", "="}, {"=<", "=", "<"}, {"=>", "=", ">"}, {"=!", "=", "!"}, {"!!", "!", "!"}, {"<>", "<", ">"}, {"+=", "+", "="}, {"||", "|", "|"}, {"/=", "/", "="}, {"*=", "*", "="}} {
		scans(t, c.s, at(0, aSign(c.one)), at(1, aSign(c.two)), ending(2))
	}
	for _, c := range []struct{ s, one, two string }{{"<==", "<=", "="}, {">=>", ">=", ">"}, {"!=!", "!=", "!"}, {">==", ">=", "="}} {
		scans(t, c.s, at(0, aSign(c.one)), at(2, aSign(c.two)), ending(3))
	}
	scans(t, "< =", at(0, aSign("<")), at(2, aSign("=")), ending(3))
	scans(t, "!==", at(0, aSign("!=")), at(2, aSign("=")), ending(3))
}

func TestBytesOfNoToken(t *testing.T) {
	const begin = " \t\n\r" + "abcdefghijklmnopqrstuvwxyz" + "0123456789" + "()[]{},;|*+?!=<>/"
	for b := range 256 {
		s := string([]byte{byte(b)})
		if strings.Contains(begin, s) {
			if _, at, e := Scan(s); at != 0 || e != api.OK {
				t.Errorf("Scan(%q): %d, %v", s, at, e)
			}
			continue
		}
		fails(t, s, 0)
		fails(t, "a "+s, 2)
		fails(t, "(\n\n"+s+" a", 3)
	}
}

func TestTheFirstFaultIsTold(t *testing.T) {
	fails(t, "a $ 01", 2)
	fails(t, "a 01 $", 2)
	fails(t, "'a ; $", 0)
	fails(t, "a ; b_$", 6)
	fails(t, "A", 0)
	fails(t, "aB", 1)
	fails(t, "_a", 0)
	fails(t, "a\x00b", 1)
	fails(t, "\vab", 0)
	fails(t, "a\u00a0b", 1)
}

func TestLongTexts(t *testing.T) {
	for _, s := range []string{"a", " ", "(", "$", "'", "\xff"} {
		if l, at, e := Scan(strings.Repeat(s, api.MaxSource+1)); len(l) > 0 || at != 0 || e != api.ErrLong {
			t.Errorf("Scan of 4097 times %q: %d tokens, %d, %v", s, len(l), at, e)
		}
	}
	if l, at, e := Scan(strings.Repeat(" ", 100000) + "$"); len(l) > 0 || at != 0 || e != api.ErrLong {
		t.Errorf("Scan of many blanks: %d tokens, %d, %v", len(l), at, e)
	}
	scans(t, strings.Repeat("a", api.MaxSource), aWord(strings.Repeat("a", api.MaxSource)), ending(api.MaxSource))
	l, place, e := Scan(strings.Repeat("(", api.MaxSource))
	if len(l) != api.MaxSource+1 || l[4095] != at(4095, aSign("(")) || l[4096] != ending(4096) || place != 0 || e != api.OK {
		t.Errorf("Scan of 4096 brackets: %d tokens, %d, %v", len(l), place, e)
	}
	fails(t, strings.Repeat("(", api.MaxSource-1)+"$", api.MaxSource-1)
}

// The library's own patterns of what may stand at the front of a text.
var (
	wordShape   = regexp.MustCompile(`^[a-z][a-z0-9_]*`)
	numberShape = regexp.MustCompile(`^-?[0-9]+`)
	numberRight = regexp.MustCompile(`^-?(0|[1-9][0-9]{0,17})$`)
	textShape   = regexp.MustCompile(`^'([^'\n\r]{0,64})'`)
	bitsShape   = regexp.MustCompile(`^#[0-9a-f]*`)
	signShape   = regexp.MustCompile(`^([!<>]=|[()\[\]{},;|*+?!=<>/])`)
)

// shaped is the token at the front of a text of bytes below 128, and whether there is one, by these patterns.
func shaped(s string) (api.Token, bool) {
	if w := wordShape.FindString(s); w != "" {
		return aWord(w), true
	}
	if n := numberShape.FindString(s); n != "" {
		v, _ := strconv.Atoi(n)
		return aNumber(n, v), numberRight.MatchString(n)
	}
	if l := textShape.FindStringSubmatch(s); l != nil {
		return aText(l[1]), true
	}
	if b := bitsShape.FindString(s); b != "" {
		v, _ := strconv.ParseUint(b[1:], 16, 64)
		return someBits(b, int(v)), len(b) == 17
	}
	w := signShape.FindString(s)
	return aSign(w), w != ""
}

// apart is what Scan ought to answer.
func apart(s string) (l []api.Token, place int, e api.Errno) {
	for at := 0; ; {
		at = len(s) - len(strings.TrimLeft(s[at:], " \t\n\r"))
		if at == len(s) {
			return append(l, ending(at)), 0, api.OK
		}
		t, is := shaped(s[at:])
		if !is {
			return nil, at, api.ErrLex
		}
		t.At = at
		l = append(l, t)
		at += len(t.Text)
	}
}

// pieces are what random texts are made of: tokens, parts of tokens, blanks, and bytes that are none.
func pieces() []string {
	l := []string{"a", "b0", "z_", "any", "within", "0", "7", "10", "-", "123456789", "'", "'a'", "'b c'", "#", "#3ff0000000000000", "00000000", "ff", "f", "g", "G", "$", "\x00", "_", ".", "\"", " ", "  ", "\n", "\t", "\r"}
	for _, c := range "()[]{},;|*+?!=<>/" {
		l = append(l, string(c))
	}
	return append(l, "!=", "<=", ">=")
}

// anyText is a text of so many pieces.
func anyText(r *rand.Rand, l []string, n int) string {
	var b strings.Builder
	for range n {
		b.WriteString(l[r.Intn(len(l))])
	}
	return b.String()
}

func TestAnyTexts(t *testing.T) {
	r, l := draws(), pieces()
	good := 0
	for range 200000 {
		s := anyText(r, l, r.Intn(10))
		got, at, e := Scan(s)
		want, place, f := apart(s)
		if !slices.Equal(got, want) || at != place || e != f {
			t.Fatalf("Scan(%q): %v, %d, %v, want %v, %d, %v", s, got, at, e, want, place, f)
		}
		if e == api.OK {
			good++
		}
	}
	if good < 10000 {
		t.Errorf("only %d texts were of tokens", good)
	}
}

func TestAllPairsAndTriplesOfSigns(t *testing.T) {
	const all = "()[]{},;|*+?!=<>/- a0'"
	for i := range len(all) {
		for j := range len(all) {
			for k := range len(all) {
				s := string([]byte{all[i], all[j], all[k]})
				got, at, e := Scan(s)
				if want, place, f := apart(s); !slices.Equal(got, want) || at != place || e != f {
					t.Errorf("Scan(%q): %v, %d, %v, want %v, %d, %v", s, got, at, e, want, place, f)
				}
			}
		}
	}
}

// 9.2

func TestTokensStandInOrderAmongBlanks(t *testing.T) {
	r, l := draws(), pieces()
	for range 50000 {
		s := anyText(r, l, r.Intn(12))
		tokens, _, e := Scan(s)
		if e != api.OK {
			continue
		}
		behind := 0
		for i, k := range tokens {
			if k.At < behind || strings.Trim(s[behind:k.At], " \t\n\r") != "" || s[k.At:k.At+len(k.Text)] != k.Text {
				t.Fatalf("Scan(%q): %v: the token %d does not stand there", s, tokens, i)
			}
			if (k.Kind == api.TokEnd) != (i == len(tokens)-1) || (k.Text == "") != (k.Kind == api.TokEnd) {
				t.Fatalf("Scan(%q): %v: the token %d ends, or does not", s, tokens, i)
			}
			behind = k.At + len(k.Text)
		}
		if behind != len(s) {
			t.Fatalf("Scan(%q): %v: %d bytes are left", s, tokens, len(s)-behind)
		}
	}
}

func TestBlanksAheadMoveTokens(t *testing.T) {
	r, l := draws(), pieces()
	for range 50000 {
		s := anyText(r, l, r.Intn(12))
		blanks := anyText(r, []string{" ", "\t", "\n", "\r"}, 1+r.Intn(5))
		tokens, place, e := Scan(s)
		for i := range tokens {
			tokens[i].At += len(blanks)
		}
		if e != api.OK {
			place += len(blanks)
		}
		if moved, at, f := Scan(blanks + s); !slices.Equal(moved, tokens) || at != place || f != e {
			t.Fatalf("Scan(%q): %v, %d, %v, want %v, %d, %v", blanks+s, moved, at, f, tokens, place, e)
		}
	}
}

func TestBlanksBetweenTokensCountForNothing(t *testing.T) {
	r, l := draws(), pieces()
	bare := func(tokens []api.Token) []api.Token {
		for i := range tokens {
			tokens[i].At = 0
		}
		return tokens
	}
	for range 50000 {
		s := anyText(r, l, r.Intn(12))
		tokens, _, e := Scan(s)
		if e != api.OK {
			continue
		}
		spread := ""
		for _, k := range tokens {
			spread += k.Text + anyText(r, []string{" ", "\t", "\n", "\r"}, 1+r.Intn(3))
		}
		if again, at, f := Scan(spread); !slices.Equal(bare(again), bare(tokens)) || at != 0 || f != api.OK {
			t.Fatalf("Scan(%q): %v, %d, %v, want %v", spread, again, at, f, tokens)
		}
	}
}

// R1: any bytes.

func TestAnyBytes(t *testing.T) {
	r := draws()
	for range 50000 {
		b := make([]byte, r.Intn(40))
		r.Read(b)
		l, at, e := Scan(string(b))
		if e == api.OK && (at != 0 || len(l) == 0) || e == api.ErrLex && (at >= len(b) || len(l) > 0) || e != api.OK && e != api.ErrLex {
			t.Fatalf("Scan(%q): %v, %d, %v", b, l, at, e)
		}
	}
}

// R3: what is answered shares no memory with what was handed in, nor with another answer.

func TestAnswersAreNewMemory(t *testing.T) {
	b := []byte("word 12 'text' #3ff0000000000000 >=")
	s := unsafe.String(&b[0], len(b))
	one, _, _ := Scan(s)
	two, _, _ := Scan(s)
	for i := range b {
		b[i] = '?'
	}
	two[0] = api.Token{}
	want := []api.Token{at(0, aWord("word")), at(5, aNumber("12", 12)), at(8, aText("text")), at(15, someBits("#3ff0000000000000", 0x3ff0000000000000)), at(33, aSign(">=")), ending(35)}
	if !slices.Equal(one, want) {
		t.Errorf("the tokens became %v", one)
	}
}
