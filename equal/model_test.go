package equal

import (
	"cmp"
	"fmt"
	"math"
	"slices"
	"strconv"
	"strings"
	"testing"

	"tatting/api"
)

// table is an automaton, written out state by state, with ; between them: where it goes by each class, and a ! behind that, if it accepts. Of so many classes byte b is in the class b modulo their number, and so are the ends, from 256 on.
func table(start int, rows string) api.Dfa {
	d := api.Dfa{Start: start}
	for _, row := range strings.Split(rows, ";") {
		words := strings.Fields(row)
		accepts := words[len(words)-1] == "!"
		if accepts {
			words = words[:len(words)-1]
		}
		d.Width = len(words)
		for _, word := range words {
			to, _ := strconv.Atoi(word)
			d.Next = append(d.Next, to)
		}
		d.Accept = append(d.Accept, accepts)
	}
	return classed(d, turning(d.Width))
}

// turning has classes that come again and again.
func turning(width int) []int {
	var class []int
	for sym := range 259 {
		class = append(class, sym%width)
	}
	return class
}

// classed is an automaton with other classes of its symbols.
func classed(d api.Dfa, class []int) api.Dfa {
	d.Class = class
	return d
}

// wide is an automaton that is right, of so many states and classes, with all states and classes in its lists, if there is room; it starts at the last state.
func wide(states, width int) api.Dfa {
	d := api.Dfa{Class: turning(width), Width: width, Start: states - 1, Accept: make([]bool, states)}
	for i := range states * width {
		d.Next = append(d.Next, (i*7+states-1)%states)
	}
	for s := range states {
		d.Accept[s] = s%3 == 1
	}
	return d
}

// shaped is an automaton of so many states and classes, with what two functions tell.
func shaped(start, states, width int, to func(s, c int) int, accepts func(s int) bool) api.Dfa {
	d := api.Dfa{Class: turning(width), Width: width, Start: start}
	for s := range states {
		for c := range width {
			d.Next = append(d.Next, to(s, c))
		}
		d.Accept = append(d.Accept, accepts(s))
	}
	return d
}

// copied is the same automaton, in lists of its own.
func copied(d api.Dfa) api.Dfa {
	d.Class, d.Next, d.Accept = slices.Clone(d.Class), slices.Clone(d.Next), slices.Clone(d.Accept)
	return d
}

// roomy is the same automaton, in lists of its own, with other entries in the room behind them.
func roomy(d api.Dfa) api.Dfa {
	d.Class = append(slices.Clone(d.Class), -7, 7)[:len(d.Class)]
	d.Next = append(slices.Clone(d.Next), -7, 7)[:len(d.Next)]
	d.Accept = append(slices.Clone(d.Accept), true, false)[:len(d.Accept)]
	return d
}

// brief is an automaton as a fault tells it: as a table is written.
func brief(d api.Dfa) string {
	var p strings.Builder
	for s := range min(len(d.Accept), 12) {
		for c := range min(d.Width, 12) {
			if at := s*d.Width + c; at >= 0 && at < len(d.Next) {
				fmt.Fprintf(&p, "%d ", d.Next[at])
			}
		}
		if d.Accept[s] {
			p.WriteString("! ")
		}
		p.WriteString("; ")
	}
	return fmt.Sprintf("%sof %d symbols (%v), %d classes, %d places, %d states, from %d", p.String(), len(d.Class), d.Class[:min(len(d.Class), 12)], d.Width, len(d.Next), len(d.Accept), d.Start)
}

// same tells whether all entries of two automata are the same.
func same(a, b api.Dfa) bool {
	return slices.Equal(a.Class, b.Class) && a.Width == b.Width && a.Start == b.Start && slices.Equal(a.Next, b.Next) && slices.Equal(a.Accept, b.Accept)
}

// mayBe tells whether an automaton is right, told entry by entry.
func mayBe(d api.Dfa) bool {
	inside := func(x, n int) int {
		if x < 0 || x >= n {
			return 1
		}
		return 0
	}
	faults := inside(d.Width-1, 259) + inside(len(d.Accept)-1, 4096) + inside(d.Start, len(d.Accept))
	if len(d.Class) != 259 || faults > 0 || len(d.Next) != len(d.Accept)*d.Width {
		return false
	}
	for _, c := range d.Class {
		faults += inside(c, d.Width)
	}
	for _, to := range d.Next {
		faults += inside(to, len(d.Accept))
	}
	return faults == 0
}

func goes(d api.Dfa, s, sym int) int { return d.Next[s*d.Width+d.Class[sym]] }

// leads tells whether one comes by some symbols from Start to a state that accepts.
func leads(d api.Dfa, word []int) bool {
	at := d.Start
	for _, sym := range word {
		at = goes(d, at, sym)
	}
	return d.Accept[at]
}

// symbolsOf has the least symbol of each two classes, one of each automaton, that have one together; rising.
func symbolsOf(a, b api.Dfa) []int {
	var l []int
	var met [][2]int
	for sym := range 259 {
		if two := [2]int{a.Class[sym], b.Class[sym]}; !slices.Contains(met, two) {
			l, met = append(l, sym), append(met, two)
		}
	}
	return l
}

// fewest has of each two states, one of each automaton, how many symbols tell them apart at least; -1: none do. Told in rounds over all of them, till a round finds nothing.
func fewest(a, b api.Dfa, symbols []int) [][]int {
	var of [][]int
	for s := range a.Accept {
		of = append(of, nil)
		for r := range b.Accept {
			of[s] = append(of[s], -1)
			if a.Accept[s] != b.Accept[r] {
				of[s][r] = 0
			}
		}
	}
	for round, found := 0, true; found; round++ {
		found = false
		for s := range of {
			for r := range of[s] {
				is := func(sym int) bool { return of[goes(a, s, sym)][goes(b, r, sym)] == round }
				if of[s][r] < 0 && slices.ContainsFunc(symbols, is) {
					of[s][r], found = round+1, true
				}
			}
		}
	}
	return of
}

// wordOf is the model of Apart: symbol by symbol the least one by which one comes nearer.
func wordOf(a, b api.Dfa) ([]int, bool) {
	symbols := symbolsOf(a, b)
	of := fewest(a, b, symbols)
	s, r := a.Start, b.Start
	if of[s][r] < 0 {
		return nil, false
	}
	var word []int
	for of[s][r] > 0 {
		near := func(sym int) bool { return of[goes(a, s, sym)][goes(b, r, sym)] == of[s][r]-1 }
		sym := symbols[slices.IndexFunc(symbols, near)]
		word = append(word, sym)
		s, r = goes(a, s, sym), goes(b, r, sym)
	}
	return word, true
}

// plainly is another model of Apart, for greater automata: it goes over all pairs of states to which one comes from both starts.
func plainly(a, b api.Dfa) ([]int, bool) {
	symbols := symbolsOf(a, b)
	met := make([]bool, len(a.Accept)*len(b.Accept))
	type place struct{ s, r, from, sym int }
	var l []place
	put := func(p place) {
		if at := p.s*len(b.Accept) + p.r; !met[at] {
			met[at] = true
			l = append(l, p)
		}
	}
	put(place{a.Start, b.Start, -1, 0})
	for k := 0; k < len(l); k++ {
		p := l[k]
		if a.Accept[p.s] != b.Accept[p.r] {
			var word []int
			for ; p.from >= 0; p = l[p.from] {
				word = append([]int{p.sym}, word...)
			}
			return word, true
		}
		for _, sym := range symbols {
			put(place{goes(a, p.s, sym), goes(b, p.r, sym), k, sym})
		}
	}
	return nil, false
}

// nothing is the model of Empty: no state to which one comes accepts.
func nothing(d api.Dfa) bool {
	reached := []int{d.Start}
	for k := 0; k < len(reached); k++ {
		if d.Accept[reached[k]] {
			return false
		}
		for sym := range 259 {
			if to := goes(d, reached[k], sym); !slices.Contains(reached, to) {
				reached = append(reached, to)
			}
		}
	}
	return true
}

// trie accepts some words alone. Its classes are numbered as their symbols are met, those of all others are 0; state 0 is left by none, and it starts at 1.
func trie(words ...[]int) api.Dfa {
	d := api.Dfa{Class: make([]int, 259), Width: 1, Start: 1}
	for _, sym := range slices.Concat(words...) {
		if d.Class[sym] == 0 {
			d.Class[sym] = d.Width
			d.Width++
		}
	}
	add := func() int {
		d.Next = append(d.Next, make([]int, d.Width)...)
		d.Accept = append(d.Accept, false)
		return len(d.Accept) - 1
	}
	add()
	add()
	for _, word := range words {
		s := d.Start
		for _, sym := range word {
			at := s*d.Width + d.Class[sym]
			if d.Next[at] == 0 {
				to := add()
				d.Next[at] = to
			}
			s = d.Next[at]
		}
		d.Accept[s] = true
	}
	return d
}

// ahead orders words: by how many symbols they have, then by these.
func ahead(x, y []int) int {
	return cmp.Or(cmp.Compare(len(x), len(y)), slices.Compare(x, y))
}

// firstIn is the first word that is among one of both lists alone.
func firstIn(a, b [][]int) ([]int, bool) {
	var l [][]int
	for _, two := range [][2][][]int{{a, b}, {b, a}} {
		for _, word := range two[0] {
			if !slices.ContainsFunc(two[1], func(x []int) bool { return slices.Equal(x, word) }) {
				l = append(l, word)
			}
		}
	}
	if len(l) == 0 {
		return nil, false
	}
	return slices.MinFunc(l, ahead), true
}

// someWords has some words of some symbols, of up to most symbols each.
func someWords(next func(int) int, symbols []int, most int) [][]int {
	var l [][]int
	for range 1 + next(5) {
		var word []int
		for range next(most + 1) {
			word = append(word, symbols[next(len(symbols))])
		}
		l = append(l, word)
	}
	return l
}

// generator tells numbers from 0 to below n, always the same ones.
func generator() func(n int) int {
	x := uint32(13)
	return func(n int) int {
		x = x*1664525 + 1013904223
		return int(x>>8) % n
	}
}

// mixed is an automaton that is right, of so many states and classes, that goes anywhere; of its states one of so many accepts. Some states go to themselves alone.
func mixed(next func(int) int, states, width, rare int) api.Dfa {
	d := api.Dfa{Width: width, Start: next(states)}
	for range 259 {
		d.Class = append(d.Class, next(width))
	}
	for s := range states {
		stays := next(4) == 0
		for range width {
			to := next(states)
			if stays {
				to = s
			}
			d.Next = append(d.Next, to)
		}
		d.Accept = append(d.Accept, next(rare) == 0)
	}
	return d
}

// mixedPattern is a pattern of all kinds of parts.
func mixedPattern(next func(int) int, deep int) string {
	if deep == 0 {
		return []string{"a", "b", "a", "b", "[ab]", "[^a]", ".", "^", "$", "()", "c"}[next(11)]
	}
	one := mixedPattern(next, next(deep))
	switch next(6) {
	case 0:
		return "(" + one + "|" + mixedPattern(next, next(deep)) + ")"
	case 1:
		return "(" + one + ")" + []string{"*", "+", "?", "{2}", "{0}", "{1,3}", "{2,}", "{0,2}"}[next(8)]
	}
	return "(" + one + mixedPattern(next, deep-1) + ")"
}

// places has the numbers from 0 to below n, in any order.
func places(next func(int) int, n int) []int {
	var l []int
	for i := range n {
		l = append(l, i)
	}
	for i := range l {
		j := i + next(n-i)
		l[i], l[j] = l[j], l[i]
	}
	return l
}

// disguised is an automaton that accepts the same words: of each state there are up to so many, classes are parted, there are some that no symbol has, and states and classes stand in any order.
func disguised(next func(int) int, d api.Dfa, copies int) api.Dfa {
	var of []int
	for s := range d.Accept {
		for range 1 + next(copies) {
			of = append(of, s)
		}
	}
	order := places(next, len(of))
	as := make([]int, len(of))
	own := make([][]int, len(d.Accept))
	for i, s := range of {
		as[order[i]] = s
		own[s] = append(own[s], order[i])
	}
	any := func(s int) int { return own[s][next(len(own[s]))] }
	width := min(2*d.Width+next(3), 259)
	parts := places(next, width)
	class := func(c int) int { return parts[c%d.Width] }
	dis := api.Dfa{Width: width, Start: any(d.Start)}
	for _, c := range d.Class {
		k := class(c)
		if c+d.Width < width && next(2) == 0 {
			k = parts[c+d.Width]
		}
		dis.Class = append(dis.Class, k)
	}
	for _, s := range as {
		row := make([]int, width)
		for i := range width {
			row[parts[i]] = next(len(as))
			if i < 2*d.Width {
				row[parts[i]] = any(d.Next[s*d.Width+i%d.Width])
			}
		}
		dis.Next = append(dis.Next, row...)
		dis.Accept = append(dis.Accept, d.Accept[s])
	}
	return dis
}

// withMore is an automaton with some more states, which go anywhere, and to which none of the others goes.
func withMore(next func(int) int, d api.Dfa, more int) api.Dfa {
	d = copied(d)
	for range more {
		for range d.Width {
			d.Next = append(d.Next, next(len(d.Accept)))
		}
		d.Accept = append(d.Accept, next(2) == 0)
	}
	return d
}

// wordsOf has all words of at most n of some symbols.
func wordsOf(symbols []int, n int) [][]int {
	all := [][]int{nil}
	for from := 0; len(all[from]) < n; from++ {
		for _, sym := range symbols {
			all = append(all, append(slices.Clone(all[from]), sym))
		}
	}
	return all
}

// numbers reads numbers with spaces between them.
func numbers(text string) []int {
	var l []int
	for _, word := range strings.Fields(text) {
		x, _ := strconv.Atoi(word)
		l = append(l, x)
	}
	return l
}

// edges are numbers that are at the edges of something.
func edges() []int {
	return []int{math.MinInt, math.MinInt + 1, math.MinInt32, -4096, -259, -2, -1, 0, 1, 2, 3, 4, 255, 256, 257, 258, 259, 260, 1023, 1024, 4095, 4096, 4097, 1 << 20, math.MaxInt32, 1 << 32, 1<<32 + 1, 1 << 62, math.MaxInt - 1, math.MaxInt}
}

func TestModels(t *testing.T) { // P14.1 to P14.3: what the other tests hold the calls against, by hand
	d := table(1, "1 2 0; 0 1 1 !; 2 2 2")
	if !slices.Equal(d.Next, []int{1, 2, 0, 0, 1, 1, 2, 2, 2}) || !slices.Equal(d.Accept, []bool{false, true, false}) || d.Width != 3 || d.Start != 1 {
		t.Errorf("table: %s", brief(d))
	}
	if len(d.Class) != 259 || !slices.Equal(d.Class[:5], []int{0, 1, 2, 0, 1}) || !slices.Equal(d.Class[255:], []int{0, 1, 2, 0}) {
		t.Errorf("turning: %v", d.Class)
	}
	if e := shaped(1, 3, 2, func(s, c int) int { return c * s }, func(s int) bool { return s == 1 }); !same(e, table(1, "0 0; 0 1 !; 0 2")) {
		t.Errorf("shaped: %s", brief(e))
	}
	if !mayBe(d) || mayBe(api.Dfa{}) || !mayBe(wide(4096, 1)) || mayBe(wide(4097, 1)) || !mayBe(wide(1, 259)) || mayBe(wide(1, 260)) {
		t.Errorf("mayBe")
	}
	if !same(d, roomy(d)) || same(d, table(0, "1 2 0; 0 1 1 !; 2 2 2")) || same(d, table(1, "1 2 0; 0 1 1; 2 2 2")) || same(d, table(1, "1 2 0; 0 1 2 !; 2 2 2")) || same(d, classed(d, turning(2))) {
		t.Errorf("same")
	}
	a, b := table(0, "1 1; 2 1; 2 2 !"), table(0, "1 1 1; 2 1 1; 2 2 2 !")
	if l := symbolsOf(a, b); !slices.Equal(l, []int{0, 1, 2, 3, 4, 5}) {
		t.Errorf("symbolsOf: %v", l)
	}
	if of := fewest(a, b, symbolsOf(a, b)); !slices.EqualFunc(of, [][]int{{2, 1, 0}, {1, 1, 0}, {0, 0, -1}}, slices.Equal) {
		t.Errorf("fewest: %v", of)
	}
	for what, model := range map[string]func(a, b api.Dfa) ([]int, bool){"wordOf": wordOf, "plainly": plainly} {
		if word, is := model(a, b); !is || !slices.Equal(word, []int{0, 2}) {
			t.Errorf("%s: %v, %v", what, word, is)
		}
		if word, is := model(a, a); is || len(word) != 0 {
			t.Errorf("%s of one: %v, %v", what, word, is)
		}
		if word, is := model(a, table(2, "1 1; 2 1; 2 2 !")); !is || len(word) != 0 {
			t.Errorf("%s of another start: %v, %v", what, word, is)
		}
	}
	if !leads(a, []int{7, 2}) || leads(a, []int{7, 3}) || leads(a, nil) || !leads(a, []int{1, 0, 258}) {
		t.Errorf("leads")
	}
	if nothing(a) || nothing(b) || !nothing(table(0, "1; 0; 2 !")) || nothing(table(2, "1; 0; 2 !")) || !nothing(classed(table(0, "0 1; 1 1 !"), make([]int, 259))) {
		t.Errorf("nothing")
	}
	if e := trie([]int{'b', 'a'}, []int{'b'}); e.Class['a'] != 2 || e.Class['b'] != 1 || e.Start != 1 || !slices.Equal(e.Next, []int{0, 0, 0, 0, 2, 0, 0, 0, 3, 0, 0, 0}) || !slices.Equal(e.Accept, []bool{false, false, true, true}) {
		t.Errorf("trie: %s", brief(e))
	}
	if e := trie(); !mayBe(e) || !nothing(e) || nothing(trie(nil)) || !leads(trie(nil), nil) {
		t.Errorf("trie: %s", brief(e))
	}
	if word, is := firstIn([][]int{{1, 2}, {5}, {3, 0, 0}}, [][]int{{5}, {1, 1, 9}, {2, 1}}); !is || !slices.Equal(word, []int{1, 2}) {
		t.Errorf("firstIn: %v, %v", word, is)
	}
	if word, is := firstIn([][]int{{1}, {2}, {1}}, [][]int{{2}, {1}}); is || len(word) != 0 {
		t.Errorf("firstIn: %v, %v", word, is)
	}
	if l := wordsOf([]int{5, 7}, 2); !slices.EqualFunc(l, [][]int{{}, {5}, {7}, {5, 5}, {5, 7}, {7, 5}, {7, 7}}, slices.Equal) {
		t.Errorf("wordsOf: %v", l)
	}
}

// TestModelsAreOne holds both models of Apart against each other, and disguised automata against what they are.
func TestModelsAreOne(t *testing.T) { // P14.1
	next := generator()
	counts := map[bool]int{}
	for range 1000 {
		a := mixed(next, 1+next(6), 1+next(4), 3)
		b := mixed(next, 1+next(6), 1+next(4), 3)
		if next(2) == 0 {
			b = disguised(next, withMore(next, a, next(3)), 3)
			if word, is := wordOf(a, b); is || !mayBe(b) {
				t.Fatalf("%s is disguised as %s: %v", brief(a), brief(b), word)
			}
		}
		word, is := wordOf(a, b)
		other, otherIs := plainly(a, b)
		if is != otherIs || !slices.Equal(word, other) {
			t.Errorf("%s, %s: %v, %v, and %v, %v", brief(a), brief(b), word, is, other, otherIs)
		}
		counts[is]++
	}
	if counts[true] < 300 || counts[false] < 300 {
		t.Errorf("%v", counts)
	}
}
