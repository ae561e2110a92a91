package parse

import (
	"math/rand"
	"slices"
	"strconv"
	"strings"

	"auspice/api"
	"auspice/lex"
)

// draws is a row of numbers that is the same at each run.
func draws() *rand.Rand { return rand.New(rand.NewSource(1)) }

// grammar is that of the chapter, with a name for each thing that it leaves out or repeats. What is no name of a rule is a token: one of a kind, or that text.
const grammar = `
pattern = alt
pattern = alt within number
alt = seq
alt = alt | seq
seq = part
seq = seq ; part
part = ! atom
part = unit
part = unit times
times = *
times = +
times = ?
times = { number , }
times = { number , number }
unit = ( alt )
unit = atom
atom = word
atom = word [ conds ]
conds = cond
conds = conds , cond
cond = word sign value
sign = =
sign = !=
sign = <
sign = <=
sign = >
sign = >=
value = number
value = number / number
value = text
value = bits
value = nan
value = inf
value = ninf`

// rules are the rows that each name of the grammar stands for.
func rules() map[string][][]string {
	m := map[string][][]string{}
	for _, line := range strings.Split(strings.TrimSpace(grammar), "\n") {
		w := strings.Fields(line)
		m[w[0]] = append(m[w[0]], w[2:])
	}
	return m
}

// spot is how far a row is read that began at a token.
type spot struct {
	name  string
	row   int
	done  int
	begin int
}

// firstMisfit tells the first token with which no text of the grammar goes on, and whether there is one. It keeps all ways to read the tokens so far (Earley's).
func firstMisfit(m map[string][][]string, tokens []api.Token) (int, bool) {
	var sets [][]spot
	set := opened(m, nil, "pattern", 0)
	for i, t := range tokens {
		set = closed(m, append(sets, set), i)
		sets = append(sets, set)
		if t.Kind == api.TokEnd {
			whole := func(s spot) bool { return s.name == "pattern" && s.done == len(m[s.name][s.row]) }
			return i, !slices.ContainsFunc(set, whole)
		}
		var next []spot
		for _, s := range set {
			if row := m[s.name][s.row]; s.done < len(row) && named(t, row[s.done]) {
				s.done++
				next = append(next, s)
			}
		}
		if len(next) == 0 {
			return i, true
		}
		set = next
	}
	panic("no end")
}

// opened are the spots with those at the front of each row of a name.
func opened(m map[string][][]string, set []spot, name string, at int) []spot {
	for row := range m[name] {
		if s := (spot{name, row, 0, at}); !slices.Contains(set, s) {
			set = append(set, s)
		}
	}
	return set
}

// closed is the last one of the sets with all that follows of it without a further token.
func closed(m map[string][][]string, sets [][]spot, at int) []spot {
	set := slices.Clone(sets[at])
	for k := 0; k < len(set); k++ {
		s := set[k]
		row := m[s.name][s.row]
		if s.done < len(row) {
			set = opened(m, set, row[s.done], at)
			continue
		}
		for _, q := range sets[s.begin] {
			if row := m[q.name][q.row]; q.done < len(row) && row[q.done] == s.name {
				q.done++
				if !slices.Contains(set, q) {
					set = append(set, q)
				}
			}
		}
	}
	return set
}

// named tells whether a token is one that a word of the grammar names.
func named(t api.Token, word string) bool {
	kinds := map[string]int{"word": api.TokWord, "number": api.TokNum, "text": api.TokText, "bits": api.TokBits}
	if k, there := kinds[word]; there {
		return t.Kind == k
	}
	return t.Text == word && (t.Kind == api.TokWord || t.Kind == api.TokSign)
}

// told is what Pattern ought to tell of a text that is no pattern's by its tokens: the place and the error.
func told(m map[string][][]string, s string) (int, api.Errno) {
	tokens, at, e := lex.Scan(s)
	if e != api.OK {
		return at, e
	}
	if i, wrong := firstMisfit(m, tokens); wrong {
		return tokens[i].At, api.ErrSyntax
	}
	return 0, api.OK
}

// sprout is a random text of the grammar that grows, as its tokens, with the pattern that it ought to be read as.
type sprout struct {
	*rand.Rand
	tokens []string
	late   bool // whether there is a within behind all
	api.Pattern
}

// sprouted is a sprout of at most that many things within one another.
func sprouted(r *rand.Rand, deep int) *sprout {
	s := &sprout{Rand: r}
	s.alt(deep)
	if s.late = s.Intn(4) == 0; s.late {
		s.Within = s.number([]int{0, 1, 9, api.MaxIndex, -1}, "within")
	}
	return s
}

func (s *sprout) say(l ...string) { s.tokens = append(s.tokens, l...) }

func (s *sprout) lay(n api.Node) int {
	s.Nodes = append(s.Nodes, n)
	return len(s.Nodes) - 1
}

func (s *sprout) alt(deep int) int { return s.row(api.NodeAlt, "|", deep, s.seq) }
func (s *sprout) seq(deep int) int { return s.row(api.NodeSeq, ";", deep, s.part) }

func (s *sprout) row(op int, between string, deep int, one func(deep int) int) int {
	kids := []int{one(deep)}
	for s.Intn(3) == 0 {
		s.say(between)
		kids = append(kids, one(deep))
	}
	if len(kids) == 1 {
		return kids[0]
	}
	return s.lay(api.Node{Op: op, Kids: kids})
}

func (s *sprout) part(deep int) int {
	if s.Intn(12) == 0 {
		s.say("!")
		return s.lay(api.Node{Op: api.NodeNot, Kids: []int{s.atom()}})
	}
	n := api.Node{Op: api.NodeLoop, Kids: []int{s.unit(deep)}}
	switch s.Intn(12) {
	case 0:
		s.say("*")
		n.Hi = -1
	case 1, 2, 3:
		s.say("+")
		n.Lo, n.Hi = 1, -1
	case 4:
		s.say("?")
		n.Hi = 1
	case 5:
		n.Lo, n.Hi = s.number([]int{0, 1, 2, 8, 9}, "{"), -1
		s.say(",", "}")
	case 6:
		n.Lo = s.number([]int{0, 1, 2, 3, -1}, "{")
		n.Hi = s.number([]int{1, 3, 7, 8, -1}, ",")
		s.say("}")
	default:
		return n.Kids[0]
	}
	return s.lay(n)
}

func (s *sprout) unit(deep int) int {
	if deep < 1 || s.Intn(3) > 0 {
		return s.atom()
	}
	s.say("(")
	i := s.alt(deep - 1)
	s.say(")")
	return i
}

func (s *sprout) atom() int {
	n := api.Node{Op: api.NodeAtom, Kind: []string{"a", "b0", "c_", "any", "nan", "abcdefghijklmnop", "inf"}[s.Intn(7)]}
	s.say(n.Kind)
	if n.Kind == "any" {
		n.Kind = ""
	}
	between := "["
	for s.Intn(3) == 0 {
		s.say(between)
		n.Conds = append(n.Conds, s.cond())
		between = ","
	}
	if between == "," {
		s.say("]")
	}
	return s.lay(n)
}

func (s *sprout) cond() api.Cond {
	c := api.Cond{Name: []string{"x", "y1", "any", "within", "nan"}[s.Intn(5)], Op: 1 + s.Intn(6)}
	s.say(c.Name, []string{"", "=", "!=", "<", "<=", ">", ">="}[c.Op])
	v := values()[s.Intn(len(values()))]
	s.say(v.tokens...)
	c.V = v.want
	return c
}

// number says what stands ahead and one of some numbers, which it answers.
func (s *sprout) number(l []int, ahead string) int {
	n := l[s.Intn(len(l))]
	s.say(ahead, strconv.Itoa(n))
	return n
}

// text is the text with some blanks, and no more of them than there must be where the tokens are to be dense.
func (s *sprout) text(dense bool) string {
	var b strings.Builder
	for _, t := range s.tokens {
		if !dense && s.Intn(2) == 0 || t == "within" || strings.HasSuffix(b.String(), "within") {
			b.WriteString([]string{" ", "\t", "\n", "\r", " \n "}[s.Intn(5)])
		}
		b.WriteString(t)
	}
	return b.String()
}
