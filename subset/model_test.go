package subset

import (
	"fmt"
	"math"
	"slices"
	"strconv"
	"strings"
	"testing"

	"tatting/api"
)

// setBy is the set of the bytes that a function tells, bit by bit.
func setBy(in func(b int) bool) api.Set {
	var s api.Set
	for b := range 256 {
		if in(b) {
			s[b/64] |= uint64(1) << (b % 64)
		}
	}
	return s
}

func setOf(l ...byte) api.Set {
	return setBy(func(b int) bool { return slices.Contains(l, byte(b)) })
}

func has(s api.Set, b int) bool { return s[b/64]&(uint64(1)<<(b%64)) != 0 }

// signSet is the set that a sign stands for: - has nothing, # all, ~ all but a; others have themselves.
func signSet(sign byte) api.Set {
	switch sign {
	case '-':
		return api.Set{}
	case '#':
		return setBy(func(int) bool { return true })
	case '~':
		return setBy(func(b int) bool { return b != 'a' })
	}
	return setOf(sign)
}

// stateOf is the state that a word stands for: a>1 goes by a to 1, _>1 at once, ^>1 and $>1 at the ends of a text, |>1,2 is a split, and ! is the final one.
func stateOf(word string) api.State {
	if word == "!" {
		return api.State{Kind: api.StFinal}
	}
	to, other, _ := strings.Cut(word[2:], ",")
	var s api.State
	s.A, _ = strconv.Atoi(to)
	s.B, _ = strconv.Atoi(other)
	switch word[0] {
	case '_':
		s.Kind = api.StEmpty
	case '|':
		s.Kind = api.StSplit
	case '^':
		s.Kind = api.StBegin
	case '$':
		s.Kind = api.StEnd
	default:
		s.Kind = api.StSet
		s.Set = signSet(word[0])
	}
	return s
}

// automaton has a state for each word; Final is the last one that is final.
func automaton(start int, words string) api.Nfa {
	n := api.Nfa{Start: start}
	for i, word := range strings.Fields(words) {
		n.States = append(n.States, stateOf(word))
		if word == "!" {
			n.Final = i
		}
	}
	return n
}

// told is an automaton as a fault tells it: of each state the kind, A and B.
func told(n api.Nfa) string {
	var p strings.Builder
	for i, s := range n.States[:min(len(n.States), 30)] {
		fmt.Fprintf(&p, "%d is %d>%d,%d; ", i, s.Kind, s.A, s.B)
	}
	return fmt.Sprintf("%sfrom %d to %d, of %d states", p.String(), n.Start, n.Final, len(n.States))
}

// spans reads what is written as spans: 96:0 97:1 255:0 is 0 up to the byte 96, 1 of 97, 0 up to 255. The three ends come behind them, each with the next number.
func spans(text string) ([]int, int) {
	var l []int
	for _, word := range strings.Fields(text) {
		last, class, _ := strings.Cut(word, ":")
		hi, _ := strconv.Atoi(last)
		c, _ := strconv.Atoi(class)
		for len(l) <= hi {
			l = append(l, c)
		}
	}
	c := slices.Max(l)
	return append(l, c+1, c+2, c+3), c + 4
}

// table is a decided automaton, written out state by state, with ; between them: where it goes by each class, and a ! behind that, if it accepts.
func table(classes, rows string) api.Dfa {
	class, width := spans(classes)
	d := api.Dfa{Class: class, Width: width}
	for _, row := range strings.Split(rows, ";") {
		words := strings.Fields(row)
		accepts := words[len(words)-1] == "!"
		if accepts {
			words = words[:len(words)-1]
		}
		for _, word := range words {
			to, _ := strconv.Atoi(word)
			d.Next = append(d.Next, to)
		}
		d.Accept = append(d.Accept, accepts)
	}
	return d
}

// brief is a decided automaton as a fault tells it: as a table is written.
func brief(d api.Dfa) string {
	var p strings.Builder
	for s := range min(len(d.Accept), 12) {
		for c := range min(d.Width, 12) {
			if at := s*d.Width + c; at < len(d.Next) {
				fmt.Fprintf(&p, "%d ", d.Next[at])
			}
		}
		if d.Accept[s] {
			p.WriteString("! ")
		}
		p.WriteString("; ")
	}
	return fmt.Sprintf("%sof %d symbols, %d classes, %d places, %d states, from %d", p.String(), len(d.Class), d.Width, len(d.Next), len(d.Accept), d.Start)
}

func same(a, b api.Dfa) bool {
	return slices.Equal(a.Class, b.Class) && a.Width == b.Width && a.Start == b.Start && slices.Equal(a.Next, b.Next) && slices.Equal(a.Accept, b.Accept)
}

// reached tells where one comes at once. It is handed, and answers, a sign for each state, x of those that are in; told in rounds over all states till a round finds nothing.
func reached(n api.Nfa, in string, sym int) string {
	l := []byte(in)
	for before := ""; before != string(l); {
		before = string(l)
		for i, s := range n.States {
			if l[i] != 'x' {
				continue
			}
			begin, end := sym == 256 || sym == 258, sym == 257 || sym == 258
			if s.Kind == api.StEmpty || s.Kind == api.StSplit || s.Kind == api.StBegin && begin || s.Kind == api.StEnd && end {
				l[s.A] = 'x'
			}
			if s.Kind == api.StSplit {
				l[s.B] = 'x'
			}
		}
	}
	return string(l)
}

// goes is where one comes from such states by a symbol.
func goes(n api.Nfa, in string, sym int) string {
	if sym > 255 {
		return reached(n, in, sym)
	}
	l := []byte(strings.Repeat(".", len(in)))
	for i, s := range n.States {
		if in[i] == 'x' && s.Kind == api.StSet && has(s.Set, sym) {
			l[s.A] = 'x'
		}
	}
	return reached(n, string(l), 0)
}

// classesOf has the class of each symbol, by the sets in which it is; of each class a symbol; and how many there are.
func classesOf(n api.Nfa) (class, one []int, width int) {
	var signs []string
	for sym := range 259 {
		sign := "end " + strconv.Itoa(sym)
		if sym < 256 {
			sign = "byte "
			for _, s := range n.States {
				if s.Kind == api.StSet {
					sign += strconv.FormatBool(has(s.Set, sym)) + " "
				}
			}
		}
		c := slices.Index(signs, sign)
		if c < 0 {
			c = len(signs)
			signs, one = append(signs, sign), append(one, sym)
		}
		class = append(class, c)
		// Of those that are alike the last one does as well as the first one.
		one[c] = sym
	}
	return class, one, len(signs)
}

// model is an automaton, decided by what the chapter says of it; false, if it has more than most states.
func model(n api.Nfa, most int) (api.Dfa, bool) {
	class, one, width := classesOf(n)
	start := []byte(strings.Repeat(".", len(n.States)))
	start[n.Start] = 'x'
	sets := []string{reached(n, string(start), 0)}
	d := api.Dfa{Class: class, Width: width}
	for len(d.Accept) < len(sets) {
		set := sets[len(d.Accept)]
		d.Accept = append(d.Accept, set[n.Final] == 'x')
		for c := range width {
			to := goes(n, set, one[c])
			if !slices.Contains(sets, to) {
				sets = append(sets, to)
			}
			d.Next = append(d.Next, slices.Index(sets, to))
		}
		if len(sets) > most {
			return api.Dfa{}, false
		}
	}
	return d, true
}

// word has the symbols of a part of a text.
func word(text string, i, j int) []int {
	if text == "" {
		return []int{258}
	}
	var l []int
	if i == 0 {
		l = append(l, 256)
	}
	for _, b := range []byte(text[i:j]) {
		l = append(l, int(b))
	}
	if j == len(text) {
		l = append(l, 257)
	}
	return l
}

// leads tells whether one comes by some symbols from Start to a state that accepts.
func leads(d api.Dfa, word []int) bool {
	at := d.Start
	for _, sym := range word {
		at = d.Next[at*d.Width+d.Class[sym]]
	}
	return d.Accept[at]
}

// generator tells numbers from 0 to below n, always the same ones.
func generator() func(n int) int {
	x := uint32(11)
	return func(n int) int {
		x = x*1664525 + 1013904223
		return int(x>>8) % n
	}
}

// mixed is an automaton that is right, with so many StSets of some signs in any order, among others of all other kinds, that go anywhere.
func mixed(next func(int) int, signs string, sets, others int) api.Nfa {
	var n api.Nfa
	for range sets {
		n.States = append(n.States, api.State{Kind: api.StSet, Set: signSet(signs[next(len(signs))])})
	}
	for range others {
		n.States = append(n.States, api.State{Kind: []int{api.StEmpty, api.StSplit, api.StBegin, api.StEnd}[next(4)]})
	}
	n.States = append(n.States, api.State{Kind: api.StFinal})
	for i := range n.States {
		j := i + next(len(n.States)-i)
		n.States[i], n.States[j] = n.States[j], n.States[i]
	}
	for i, s := range n.States {
		if s.Kind == api.StFinal {
			n.Final = i
			continue
		}
		n.States[i].A = next(len(n.States))
		if s.Kind == api.StSplit {
			n.States[i].B = next(len(n.States))
		}
	}
	n.Start = next(len(n.States))
	return n
}

// mixedPattern is a pattern of all kinds of parts, by what next tells.
func mixedPattern(next func(int) int, deep int) string {
	if deep == 0 {
		return []string{"a", "b", "a", "b", "[ab]", "[^a]", ".", "^", "$", "()", "c"}[next(11)]
	}
	one := mixedPattern(next, next(deep))
	switch next(7) {
	case 0:
		return "(" + one + "|" + mixedPattern(next, next(deep)) + ")"
	case 1:
		return "(" + one + ")" + []string{"*", "+", "?", "{2}", "{0}", "{1,3}", "{2,}", "{0,2}"}[next(8)]
	}
	return one + mixedPattern(next, deep-1)
}

// textsOf has all texts of at most n of some letters.
func textsOf(letters string, n int) []string {
	all := []string{""}
	for from := 0; len(all[from]) < n; from++ {
		for _, c := range []byte(letters) {
			all = append(all, all[from]+string([]byte{c}))
		}
	}
	return all
}

// edges are numbers that are at the edges of something.
func edges() []int {
	return []int{math.MinInt, math.MinInt + 1, math.MinInt32, -600, -259, -2, -1, 0, 1, 2, 3, 255, 256, 257, 258, 259, 599, 600, 1 << 20, math.MaxInt32, 1 << 32, 1<<32 + 1, math.MaxInt - 1, math.MaxInt}
}

func TestModels(t *testing.T) { // P11.1, P11.3: what the other tests hold the calls against, by hand
	n := automaton(2, "a>3 _>2 |>1,3 ^>4 $>5 !")
	want := api.Nfa{States: []api.State{{Kind: api.StSet, Set: api.Set{0, 1 << ('a' - 64)}, A: 3}, {Kind: api.StEmpty, A: 2}, {Kind: api.StSplit, A: 1, B: 3}, {Kind: api.StBegin, A: 4}, {Kind: api.StEnd, A: 5}, {Kind: api.StFinal}}, Start: 2, Final: 5}
	if !slices.Equal(n.States, want.States) || n.Start != 2 || n.Final != 5 {
		t.Errorf("automaton: %s", told(n))
	}
	if l := []string{reached(n, "..x...", 0), reached(n, "..x...", 256), reached(n, "..x...", 257), reached(n, "..x...", 258), goes(n, "xxx...", 'a'), goes(n, "xxx...", 'b'), goes(n, "....x.", 257)}; !slices.Equal(l, []string{".xxx..", ".xxxx.", ".xxx..", ".xxxxx", "...x..", "......", "....xx"}) {
		t.Errorf("reached, goes: %v", l)
	}
	class, one, width := classesOf(automaton(0, "b>1 ~>2 a>3 !"))
	if l, w := spans("96:0 97:1 98:2 255:0"); !slices.Equal(class, l) || width != w || !slices.Equal(one, []int{255, 97, 98, 256, 257, 258}) {
		t.Errorf("classesOf: %v, %v, %d", class, one, width)
	}
	d := api.Dfa{Width: 5, Next: []int{1, 2, 0, 0, 0, 1, 1, 1, 1, 1, 1, 1, 2, 2, 2}, Accept: []bool{false, false, true}}
	for sym := range 259 {
		d.Class = append(d.Class, map[int]int{97: 1, 256: 2, 257: 3, 258: 4}[sym])
	}
	if a := table("96:0 97:1 255:0", "1 2 0 0 0; 1 1 1 1 1; 1 1 2 2 2 !"); !same(a, d) {
		t.Errorf("table: %s", brief(a))
	}
	if a, ok := model(automaton(0, "a>1 !"), 3); !same(a, d) || !ok {
		t.Errorf("model: %s", brief(a))
	}
	if _, ok := model(automaton(0, "a>1 !"), 2); ok {
		t.Errorf("model: too many states are not told")
	}
	for text, want := range map[string][]int{"": {258}, "x": {256, 120, 257}, "xy": {256, 120, 121, 257}} {
		if l := word(text, 0, len(text)); !slices.Equal(l, want) {
			t.Errorf("word of %q: %v", text, l)
		}
	}
	if l := [][]int{word("xyz", 0, 0), word("xyz", 0, 2), word("xyz", 1, 2), word("xyz", 1, 1), word("xyz", 2, 3), word("xyz", 3, 3)}; !slices.EqualFunc(l, [][]int{{256}, {256, 120, 121}, {121}, {}, {122, 257}, {257}}, slices.Equal) {
		t.Errorf("word: %v", l)
	}
	if !leads(d, []int{256, 97, 257}) || !leads(d, []int{97}) || leads(d, nil) || leads(d, []int{97, 97}) || leads(d, []int{98}) {
		t.Errorf("leads: of %s", brief(d))
	}
	if !slices.Equal(textsOf("ab", 2), []string{"", "a", "b", "aa", "ab", "ba", "bb"}) {
		t.Errorf("textsOf: %q", textsOf("ab", 2))
	}
}
