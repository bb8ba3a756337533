package mini

import (
	"fmt"
	"math"
	"slices"
	"strconv"
	"strings"
	"testing"

	"tatting/api"
)

// table is an automaton, written out state by state, with ; between them: where it goes by each class, and a ! behind that, if it accepts. Of so many classes byte b is in the class b modulo their number, and so are the ends, from 256 on.
func table(start int, rows string) api.Dfa {
	d := api.Dfa{Start: start}
	for _, row := range strings.Split(rows, ";") {
		words := strings.Fields(row)
		accepts := words[len(words)-1] == "!"
		if accepts {
			words = words[:len(words)-1]
		}
		d.Width = len(words)
		for _, word := range words {
			to, _ := strconv.Atoi(word)
			d.Next = append(d.Next, to)
		}
		d.Accept = append(d.Accept, accepts)
	}
	return classed(d, turning(d.Width))
}

// turning has classes that come again and again.
func turning(width int) []int {
	var class []int
	for sym := range 259 {
		class = append(class, sym%width)
	}
	return class
}

// classed is an automaton with other classes of its symbols.
func classed(d api.Dfa, class []int) api.Dfa {
	d.Class = class
	return d
}

// wide is an automaton that is right, of so many states and classes, with all states and classes in its lists, if there is room; it starts at the last state.
func wide(states, width int) api.Dfa {
	d := api.Dfa{Class: turning(width), Width: width, Start: states - 1, Accept: make([]bool, states)}
	for i := range states * width {
		d.Next = append(d.Next, (i*7+states-1)%states)
	}
	for s := range states {
		d.Accept[s] = s%3 == 1
	}
	return d
}

// shaped is an automaton of so many states and classes, with what two functions tell.
func shaped(start, states, width int, to func(s, c int) int, accepts func(s int) bool) api.Dfa {
	d := api.Dfa{Class: turning(width), Width: width, Start: start}
	for s := range states {
		for c := range width {
			d.Next = append(d.Next, to(s, c))
		}
		d.Accept = append(d.Accept, accepts(s))
	}
	return d
}

// copied is the same automaton, in lists of its own.
func copied(d api.Dfa) api.Dfa {
	d.Class, d.Next, d.Accept = slices.Clone(d.Class), slices.Clone(d.Next), slices.Clone(d.Accept)
	return d
}

// roomy is the same automaton, in lists of its own, with other entries in the room behind them.
func roomy(d api.Dfa) api.Dfa {
	d.Class = append(slices.Clone(d.Class), -7, 7)[:len(d.Class)]
	d.Next = append(slices.Clone(d.Next), -7, 7)[:len(d.Next)]
	d.Accept = append(slices.Clone(d.Accept), true, false)[:len(d.Accept)]
	return d
}

// brief is an automaton as a fault tells it: as a table is written.
func brief(d api.Dfa) string {
	var p strings.Builder
	for s := range min(len(d.Accept), 12) {
		for c := range min(d.Width, 12) {
			if at := s*d.Width + c; at >= 0 && at < len(d.Next) {
				fmt.Fprintf(&p, "%d ", d.Next[at])
			}
		}
		if d.Accept[s] {
			p.WriteString("! ")
		}
		p.WriteString("; ")
	}
	return fmt.Sprintf("%sof %d symbols (%v), %d classes, %d places, %d states, from %d", p.String(), len(d.Class), d.Class[:min(len(d.Class), 12)], d.Width, len(d.Next), len(d.Accept), d.Start)
}

// same tells whether all entries of two automata are the same.
func same(a, b api.Dfa) bool {
	return slices.Equal(a.Class, b.Class) && a.Width == b.Width && a.Start == b.Start && slices.Equal(a.Next, b.Next) && slices.Equal(a.Accept, b.Accept)
}

// mayBe tells whether an automaton is right, told entry by entry.
func mayBe(d api.Dfa) bool {
	inside := func(x, n int) int {
		if x < 0 || x >= n {
			return 1
		}
		return 0
	}
	faults := inside(d.Width-1, 259) + inside(len(d.Accept)-1, 4096) + inside(d.Start, len(d.Accept))
	if len(d.Class) != 259 || faults > 0 || len(d.Next) != len(d.Accept)*d.Width {
		return false
	}
	for _, c := range d.Class {
		faults += inside(c, d.Width)
	}
	for _, to := range d.Next {
		faults += inside(to, len(d.Accept))
	}
	return faults == 0
}

func goes(d api.Dfa, s, sym int) int { return d.Next[s*d.Width+d.Class[sym]] }

// oneOfEach has a symbol of each class that has one: the last one.
func oneOfEach(d api.Dfa) []int {
	var l []int
	for sym := range 259 {
		if !slices.Contains(d.Class[sym+1:], d.Class[sym]) {
			l = append(l, sym)
		}
	}
	return l
}

// apart tells of each two states whether they are not alike; told in rounds over all pairs, till a round finds nothing.
func apart(d api.Dfa) [][]bool {
	var is [][]bool
	for s := range d.Accept {
		is = append(is, nil)
		for r := range d.Accept {
			is[s] = append(is[s], d.Accept[s] != d.Accept[r])
		}
	}
	symbols := oneOfEach(d)
	for found := true; found; {
		found = false
		for s := range is {
			for r := range is {
				for k := 0; k < len(symbols) && !is[s][r]; k++ {
					if is[goes(d, s, symbols[k])][goes(d, r, symbols[k])] {
						is[s][r], found = true, true
					}
				}
			}
		}
	}
	return is
}

// blocksOf is the model of Blocks: a state's block is that of the first state that is like it.
func blocksOf(d api.Dfa) ([]int, int) {
	var block []int
	count := 0
	for s, row := range apart(d) {
		first := slices.Index(row, false)
		if first == s {
			block = append(block, count)
			count++
		} else {
			block = append(block, block[first])
		}
	}
	return block, count
}

// reachedOf has the states to which one comes, in any order.
func reachedOf(d api.Dfa) []int {
	l := []int{d.Start}
	for k := 0; k < len(l); k++ {
		for sym := range 259 {
			if to := goes(d, l[k], sym); !slices.Contains(l, to) {
				l = append(l, to)
			}
		}
	}
	return l
}

// leastOf is the model of Of, told from the model of Blocks.
func leastOf(d api.Dfa) api.Dfa {
	block, _ := blocksOf(d)
	reached := reachedOf(d)
	least := api.Dfa{}
	var signs []string
	var one []int
	for sym := range 259 {
		var p strings.Builder
		for _, s := range reached {
			fmt.Fprintf(&p, "%d ", block[goes(d, s, sym)])
		}
		c := slices.Index(signs, p.String())
		if c < 0 {
			c = len(signs)
			signs, one = append(signs, p.String()), append(one, sym)
		}
		// Of those that are alike the last one does as well as the first one.
		one[c] = sym
		least.Class = append(least.Class, c)
	}
	least.Width = len(signs)
	states := []int{d.Start}
	blockIs := func(b int) func(int) bool { return func(s int) bool { return block[s] == b } }
	for len(least.Accept) < len(states) {
		s := states[len(least.Accept)]
		least.Accept = append(least.Accept, d.Accept[s])
		for _, sym := range one {
			to := goes(d, s, sym)
			if !slices.ContainsFunc(states, blockIs(block[to])) {
				states = append(states, to)
			}
			least.Next = append(least.Next, slices.IndexFunc(states, blockIs(block[to])))
		}
	}
	return least
}

// leads tells whether one comes by some symbols from Start to a state that accepts.
func leads(d api.Dfa, word []int) bool {
	at := d.Start
	for _, sym := range word {
		at = goes(d, at, sym)
	}
	return d.Accept[at]
}

// alike tells whether two automata accept the same words: whether there is no word by which one comes to a pair of states of which one accepts alone.
func alike(a, b api.Dfa) bool {
	pairs := [][2]int{{a.Start, b.Start}}
	met := map[[2]int]bool{pairs[0]: true}
	for k := 0; k < len(pairs); k++ {
		if a.Accept[pairs[k][0]] != b.Accept[pairs[k][1]] {
			return false
		}
		for sym := range 259 {
			p := [2]int{goes(a, pairs[k][0], sym), goes(b, pairs[k][1], sym)}
			if !met[p] {
				met[p] = true
				pairs = append(pairs, p)
			}
		}
	}
	return true
}

// generator tells numbers from 0 to below n, always the same ones.
func generator() func(n int) int {
	x := uint32(13)
	return func(n int) int {
		x = x*1664525 + 1013904223
		return int(x>>8) % n
	}
}

// mixed is an automaton that is right, of so many states and classes, that goes anywhere; of its states one of so many accepts. Some states go to themselves alone.
func mixed(next func(int) int, states, width, rare int) api.Dfa {
	d := api.Dfa{Width: width, Start: next(states)}
	for range 259 {
		d.Class = append(d.Class, next(width))
	}
	for s := range states {
		stays := next(4) == 0
		for range width {
			to := next(states)
			if stays {
				to = s
			}
			d.Next = append(d.Next, to)
		}
		d.Accept = append(d.Accept, next(rare) == 0)
	}
	return d
}

// mixedPattern is a pattern of all kinds of parts.
func mixedPattern(next func(int) int, deep int) string {
	if deep == 0 {
		return []string{"a", "b", "a", "b", "[ab]", "[^a]", ".", "^", "$", "()", "c"}[next(11)]
	}
	one := mixedPattern(next, next(deep))
	switch next(6) {
	case 0:
		return "(" + one + "|" + mixedPattern(next, next(deep)) + ")"
	case 1:
		return "(" + one + ")" + []string{"*", "+", "?", "{2}", "{0}", "{1,3}", "{2,}", "{0,2}"}[next(8)]
	}
	return "(" + one + mixedPattern(next, deep-1) + ")"
}

// places has the numbers from 0 to below n, in any order.
func places(next func(int) int, n int) []int {
	var l []int
	for i := range n {
		l = append(l, i)
	}
	for i := range l {
		j := i + next(n-i)
		l[i], l[j] = l[j], l[i]
	}
	return l
}

// disguised is an automaton that accepts the same words: of each state there are up to so many, classes are parted, there are some that no symbol has, and states and classes stand in any order. It tells, too, of each state as which one it goes.
func disguised(next func(int) int, d api.Dfa, copies int) (api.Dfa, []int) {
	var of []int
	for s := range d.Accept {
		for range 1 + next(copies) {
			of = append(of, s)
		}
	}
	order := places(next, len(of))
	as := make([]int, len(of))
	own := make([][]int, len(d.Accept))
	for i, s := range of {
		as[order[i]] = s
		own[s] = append(own[s], order[i])
	}
	any := func(s int) int { return own[s][next(len(own[s]))] }
	width := min(2*d.Width+next(3), 259)
	parts := places(next, width)
	class := func(c int) int { return parts[c%d.Width] }
	dis := api.Dfa{Width: width, Start: any(d.Start)}
	for _, c := range d.Class {
		k := class(c)
		if c+d.Width < width && next(2) == 0 {
			k = parts[c+d.Width]
		}
		dis.Class = append(dis.Class, k)
	}
	for _, s := range as {
		row := make([]int, width)
		for i := range width {
			row[parts[i]] = next(len(as))
			if i < 2*d.Width {
				row[parts[i]] = any(d.Next[s*d.Width+i%d.Width])
			}
		}
		dis.Next = append(dis.Next, row...)
		dis.Accept = append(dis.Accept, d.Accept[s])
	}
	return dis, as
}

// withMore is an automaton with some more states, which go anywhere, and to which none of the others goes.
func withMore(next func(int) int, d api.Dfa, more int) api.Dfa {
	d = copied(d)
	for range more {
		for range d.Width {
			d.Next = append(d.Next, next(len(d.Accept)))
		}
		d.Accept = append(d.Accept, next(2) == 0)
	}
	return d
}

// wordsOf has all words of at most n of some symbols.
func wordsOf(symbols []int, n int) [][]int {
	all := [][]int{nil}
	for from := 0; len(all[from]) < n; from++ {
		for _, sym := range symbols {
			all = append(all, append(slices.Clone(all[from]), sym))
		}
	}
	return all
}

// numbers reads numbers with spaces between them.
func numbers(text string) []int {
	var l []int
	for _, word := range strings.Fields(text) {
		x, _ := strconv.Atoi(word)
		l = append(l, x)
	}
	return l
}

// edges are numbers that are at the edges of something.
func edges() []int {
	return []int{math.MinInt, math.MinInt + 1, math.MinInt32, -4096, -259, -2, -1, 0, 1, 2, 3, 4, 255, 256, 257, 258, 259, 260, 1023, 1024, 4095, 4096, 4097, 1 << 20, math.MaxInt32, 1 << 32, 1<<32 + 1, 1 << 62, math.MaxInt - 1, math.MaxInt}
}

func TestModels(t *testing.T) { // P13.1 to P13.3: what the other tests hold the calls against, by hand
	d := table(1, "1 2 0; 0 1 1 !; 2 2 2")
	if !slices.Equal(d.Next, []int{1, 2, 0, 0, 1, 1, 2, 2, 2}) || !slices.Equal(d.Accept, []bool{false, true, false}) || d.Width != 3 || d.Start != 1 {
		t.Errorf("table: %s", brief(d))
	}
	if len(d.Class) != 259 || !slices.Equal(d.Class[:5], []int{0, 1, 2, 0, 1}) || !slices.Equal(d.Class[255:], []int{0, 1, 2, 0}) {
		t.Errorf("turning: %v", d.Class)
	}
	if e := shaped(1, 3, 2, func(s, c int) int { return c * s }, func(s int) bool { return s == 1 }); !same(e, table(1, "0 0; 0 1 !; 0 2")) {
		t.Errorf("shaped: %s", brief(e))
	}
	if !mayBe(d) || mayBe(api.Dfa{}) || !mayBe(wide(4096, 1)) || mayBe(wide(4097, 1)) || !mayBe(wide(1, 259)) || mayBe(wide(1, 260)) {
		t.Errorf("mayBe")
	}
	if !same(d, roomy(d)) || same(d, table(0, "1 2 0; 0 1 1 !; 2 2 2")) || same(d, table(1, "1 2 0; 0 1 1; 2 2 2")) || same(d, table(1, "1 2 0; 0 1 2 !; 2 2 2")) || same(d, classed(d, turning(2))) {
		t.Errorf("same")
	}
	if l := oneOfEach(d); !slices.Equal(l, []int{256, 257, 258}) {
		t.Errorf("oneOfEach: %v", l)
	}
	e := table(0, "1 2; 3 2; 3 1; 3 3 !; 4 4 !")
	if is := apart(e); !slices.EqualFunc(is, [][]bool{{false, true, true, true, true}, {true, false, false, true, true}, {true, false, false, true, true}, {true, true, true, false, false}, {true, true, true, false, false}}, slices.Equal) {
		t.Errorf("apart: %v", is)
	}
	if block, count := blocksOf(e); !slices.Equal(block, []int{0, 1, 1, 2, 2}) || count != 3 {
		t.Errorf("blocksOf: %v, %d", block, count)
	}
	if l := reachedOf(e); !slices.Equal(l, []int{0, 1, 2, 3}) {
		t.Errorf("reachedOf: %v", l)
	}
	if m := leastOf(e); !same(m, table(0, "1 1; 2 1; 2 2 !")) {
		t.Errorf("leastOf: %s", brief(m))
	}
	if !leads(e, []int{0, 2}) || leads(e, []int{0, 1}) || leads(e, nil) || !leads(e, []int{1, 1, 258}) {
		t.Errorf("leads")
	}
	if !alike(e, leastOf(e)) || alike(e, d) || alike(e, table(1, "1 2; 3 2; 3 1; 3 3 !")) || alike(e, table(0, "1 1; 2 1; 2 0 !")) {
		t.Errorf("alike")
	}
	if l := wordsOf([]int{5, 7}, 2); !slices.EqualFunc(l, [][]int{{}, {5}, {7}, {5, 5}, {5, 7}, {7, 5}, {7, 7}}, slices.Equal) {
		t.Errorf("wordsOf: %v", l)
	}
}

// TestDisguises asks that what is disguised accepts the same words, and looks otherwise.
func TestDisguises(t *testing.T) { // P13.3
	next := generator()
	for range 100 {
		d := mixed(next, 1+next(5), 1+next(4), 2)
		for _, x := range []api.Dfa{withMore(next, d, 3), copied(d)} {
			dis, as := disguised(next, x, 3)
			if !mayBe(dis) || !alike(d, dis) || len(as) != len(dis.Accept) || as[dis.Start] != d.Start {
				t.Fatalf("%s is disguised as %s: %v", brief(x), brief(dis), as)
			}
			for i, s := range as {
				for sym := range 259 {
					if as[goes(dis, i, sym)] != goes(x, s, sym) || dis.Accept[i] != x.Accept[s] {
						t.Fatalf("%d of %s goes otherwise by %d than %d of %s", i, brief(dis), sym, s, brief(x))
					}
				}
			}
		}
	}
}
