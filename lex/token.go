package lex

import (
	"strconv"
	"strings"

	"auspice/api"
)

const (
	mostDigits = 18                  // whatever they are, the number is one of 64 bits, and can be turned
	bitsDigits = 16                  // of four bits each
	signs      = "()[]{},;|*+?!=<>/" // those of one byte
	longer     = "!<>"               // those that a = behind them makes others
)

// Each of these functions is given what begins as its token does, and answers that token, without its place; or, if it may not be, one without a text.

// word is the word at the front of s.
func word(s string) api.Token {
	return token(api.TokWord, s[:span(s, inWord)])
}

// number is the number at the front of s.
func number(s string) api.Token {
	digits := strings.TrimPrefix(s, "-")
	n := span(digits, digit)
	if n < 1 || n > mostDigits || n > 1 && digits[0] == '0' {
		return api.Token{}
	}
	t := token(api.TokNum, s[:len(s)-len(digits)+n])
	t.N, _ = strconv.Atoi(t.Text)
	return t
}

// text is the text at the front of s.
func text(s string) api.Token {
	inner := s[1:]
	n := span(inner, inText)
	if n > api.MaxText || n == len(inner) || inner[n] != '\'' {
		return api.Token{}
	}
	t := token(api.TokText, s[:n+2])
	t.S = strings.Clone(inner[:n])
	return t
}

// bits are the bits at the front of s.
func bits(s string) api.Token {
	digits := s[1:]
	n := span(digits, inBits)
	if n != bitsDigits {
		return api.Token{}
	}
	b, _ := strconv.ParseUint(digits[:n], 16, 64)
	t := token(api.TokBits, s[:n+1])
	t.N = int(b)
	return t
}

// sign is the sign at the front of s.
func sign(s string) api.Token {
	switch {
	case strings.IndexByte(signs, s[0]) < 0:
		return api.Token{}
	case len(s) > 1 && s[1] == '=' && strings.IndexByte(longer, s[0]) >= 0:
		return token(api.TokSign, s[:2])
	}
	return token(api.TokSign, s[:1])
}

// token is a token that has a copy of the text.
func token(kind int, text string) api.Token {
	return api.Token{Kind: kind, Text: strings.Clone(text)}
}

// span is how many bytes at the front of s are of a sort.
func span(s string, of func(c byte) bool) int {
	for i := range len(s) {
		if !of(s[i]) {
			return i
		}
	}
	return len(s)
}

// blank tells whether a byte counts for nothing between tokens.
func blank(c byte) bool {
	return c == ' ' || c == '\t' || c == '\n' || c == '\r'
}

// letter tells whether a byte begins a word.
func letter(c byte) bool {
	return 'a' <= c && c <= 'z'
}

// digit tells whether a byte is a digit of a number.
func digit(c byte) bool {
	return '0' <= c && c <= '9'
}

// inWord tells whether a byte goes on with a word.
func inWord(c byte) bool {
	return letter(c) || digit(c) || c == '_'
}

// inText tells whether a byte may stand in a text.
func inText(c byte) bool {
	return c != '\'' && c != '\n' && c != '\r'
}

// inBits tells whether a byte is one of those that tell bits.
func inBits(c byte) bool {
	return digit(c) || 'a' <= c && c <= 'f'
}
