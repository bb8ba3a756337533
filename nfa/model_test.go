package nfa

import (
	"fmt"
	"math"
	"math/bits"
	"slices"
	"strconv"
	"strings"
	"testing"

	"tatting/api"
)

// node is the node that a sign stands for: a letter for the set of it, and others as they are written here.
func node(sign byte) api.Node {
	switch sign {
	case '_':
		return api.Node{Kind: api.NdEmpty}
	case '^':
		return api.Node{Kind: api.NdBegin}
	case '$':
		return api.Node{Kind: api.NdEnd}
	case '.':
		return api.Node{Kind: api.NdCat}
	case '|':
		return api.Node{Kind: api.NdOr}
	case '*':
		return rep(0, -1)
	case '+':
		return rep(1, -1)
	case '?':
		return rep(0, 1)
	case '0':
		return rep(0, 0)
	case '1':
		return rep(1, 1)
	case '2':
		return rep(2, 2)
	case '3':
		return rep(1, 3)
	case '4':
		return rep(0, 2)
	case '5':
		return rep(5, -1)
	case '8':
		return rep(32, 32)
	case '9':
		return rep(31, 32)
	}
	return api.Node{Kind: api.NdSet, Set: set(sign)}
}

func rep(lo, hi int) api.Node { return api.Node{Kind: api.NdRep, Lo: lo, Hi: hi} }

// set is the set that a sign stands for: - has nothing, # all, ~ some; others have themselves.
func set(sign byte) api.Set {
	switch sign {
	case '-':
		return api.Set{}
	case '#':
		return api.Set{math.MaxUint64, math.MaxUint64, math.MaxUint64, math.MaxUint64}
	case '~':
		return setOf('b', 'c', 0, 255)
	}
	return setOf(sign)
}

// setOf is the set of some bytes, told bit by bit.
func setOf(l ...byte) api.Set {
	var s api.Set
	for _, b := range l {
		s[b/64] |= uint64(1) << (b % 64)
	}
	return s
}

func has(s api.Set, b byte) bool { return s[b/64]&(uint64(1)<<(b%64)) != 0 }

// list has a node for each sign, each behind its arguments: ab.c. is the tree of abc.
func list(signs string) []api.Node {
	l := []api.Node{}
	for _, s := range []byte(signs) {
		l = append(l, node(s))
	}
	return l
}

// arguments is how many a kind has, written out apart from the package tree; -1: it is none.
func arguments(kind int) int {
	switch kind {
	case api.NdSet, api.NdEmpty, api.NdBegin, api.NdEnd:
		return 0
	case api.NdRep:
		return 1
	case api.NdCat, api.NdOr:
		return 2
	}
	return -1
}

// brief is a list as a fault tells it: of each node the kind, the set's words, and how often.
func brief(l []api.Node) string {
	var p strings.Builder
	for _, n := range l[:min(len(l), 40)] {
		fmt.Fprintf(&p, "%d", n.Kind)
		if n.Kind == api.NdSet || n.Set != (api.Set{}) {
			fmt.Fprintf(&p, ":%x", n.Set)
		}
		if n.Kind == api.NdRep || n.Lo != 0 || n.Hi != 0 {
			fmt.Fprintf(&p, ":%d:%d", n.Lo, n.Hi)
		}
		p.WriteByte(' ')
	}
	return fmt.Sprintf("%sof %d nodes", p.String(), len(l))
}

// stateOf is the state that a word stands for: a>1 goes by a to 1, _>1 at once, ^>1 and $>1 at the ends of a text, |>1,2 is a split, and ! is the final one.
func stateOf(word string) api.State {
	if word == "!" {
		return api.State{Kind: api.StFinal}
	}
	var s api.State
	switch word[0] {
	case '_':
		s.Kind = api.StEmpty
	case '|':
		s.Kind = api.StSplit
	case '^':
		s.Kind = api.StBegin
	case '$':
		s.Kind = api.StEnd
	default:
		s.Kind = api.StSet
		s.Set = set(word[0])
	}
	to, other, split := strings.Cut(word[2:], ",")
	s.A, _ = strconv.Atoi(to)
	if split {
		s.B, _ = strconv.Atoi(other)
	}
	return s
}

// automaton has a state for each word; Final is the last one that is final.
func automaton(start int, words string) api.Nfa {
	n := api.Nfa{Start: start}
	for i, word := range strings.Fields(words) {
		n.States = append(n.States, stateOf(word))
		if word == "!" {
			n.Final = i
		}
	}
	return n
}

// told is an automaton as a fault tells it: of each state the kind, A and B, and the set's words.
func told(n api.Nfa) string {
	var p strings.Builder
	for i, s := range n.States[:min(len(n.States), 40)] {
		fmt.Fprintf(&p, "%d is %d>%d,%d", i, s.Kind, s.A, s.B)
		if s.Kind == api.StSet || s.Set != (api.Set{}) {
			fmt.Fprintf(&p, ":%x", s.Set)
		}
		p.WriteString("; ")
	}
	return fmt.Sprintf("%sfrom %d to %d, of %d states", p.String(), n.Start, n.Final, len(n.States))
}

func same(a, b api.Nfa) bool {
	return slices.Equal(a.States, b.States) && a.Start == b.Start && a.Final == b.Final
}

// piece is the states of a part, with places from 0 on; what is not told is -1.
type piece struct {
	states      []api.State
	first, last int
}

// add copies a piece behind the states of another one, and tells its ends there.
func (p *piece) add(q piece) (first, last int) {
	n := len(p.states)
	for _, s := range q.states {
		if s.A >= 0 {
			s.A += n
		}
		if s.B >= 0 {
			s.B += n
		}
		p.states = append(p.states, s)
	}
	return q.first + n, q.last + n
}

// one adds a single state, of which nothing is told but its kind.
func (p *piece) one(kind int) int {
	p.states = append(p.states, api.State{Kind: kind, A: -1, B: -1})
	return len(p.states) - 1
}

// laid reads the part of a tree that ends with a list, by what the chapter says of it. It tells its states, and the nodes ahead of it.
func laid(l []api.Node) (p piece, ahead []api.Node) {
	n, ahead := l[len(l)-1], l[:len(l)-1]
	var one, other piece
	switch n.Kind {
	case api.NdCat, api.NdOr:
		other, ahead = laid(ahead)
		one, ahead = laid(ahead)
	case api.NdRep:
		// What comes no times is only read over: its own states could be too many.
		if n.Hi == 0 {
			return one.again(0, 0), readOver(ahead)
		}
		one, ahead = laid(ahead)
		return one.again(n.Lo, n.Hi), ahead
	}
	switch n.Kind {
	case api.NdCat:
		first, end := p.add(one)
		begin, last := p.add(other)
		p.states[end].A = begin
		p.first, p.last = first, last
	case api.NdOr:
		begin, end := p.add(one)
		begin2, end2 := p.add(other)
		p.first, p.last = p.one(api.StSplit), p.one(api.StEmpty)
		p.states[p.first].A, p.states[p.first].B = begin, begin2
		p.states[end].A, p.states[end2].A = p.last, p.last
	default:
		kinds := map[int]int{api.NdSet: api.StSet, api.NdEmpty: api.StEmpty, api.NdBegin: api.StBegin, api.NdEnd: api.StEnd}
		p.first, p.last = p.one(kinds[n.Kind]), p.one(api.StEmpty)
		p.states[0].Set, p.states[0].A = n.Set, 1
	}
	return p, ahead
}

// readOver is the nodes ahead of the part of a tree that ends with a list.
func readOver(l []api.Node) []api.Node {
	for missing := 1; missing > 0; l = l[:len(l)-1] {
		missing += arguments(l[len(l)-1].Kind) - 1
	}
	return l
}

// again is a piece that comes lo to hi times.
func (p piece) again(lo, hi int) piece {
	var q piece
	ahead := q.one(api.StEmpty)
	for range lo {
		begin, end := q.add(p)
		q.states[ahead].A, ahead = begin, end
	}
	var splits []int
	for k := lo; k < hi || hi == -1; k++ {
		begin, end := q.add(p)
		split := q.one(api.StSplit)
		splits = append(splits, split)
		q.states[ahead].A = split
		q.states[split].A = begin
		if ahead = end; hi == -1 {
			q.states[end].A = split
			break
		}
	}
	q.last = q.one(api.StEmpty)
	if hi != -1 {
		q.states[ahead].A = q.last
	}
	for _, split := range splits {
		q.states[split].B = q.last
	}
	return q
}

// model is the automaton of a tree.
func model(l []api.Node) api.Nfa {
	p, _ := laid(l)
	for i := range p.states {
		p.states[i].A, p.states[i].B = max(p.states[i].A, 0), max(p.states[i].B, 0)
	}
	p.states[p.last].Kind = api.StFinal
	return api.Nfa{States: p.states, Start: p.first, Final: p.last}
}

// mayBe tells whether an automaton is right, field by field.
func mayBe(n api.Nfa) bool {
	size := len(n.States)
	wrong := size == 0 || size > 600
	final := []int{}
	for i, s := range n.States {
		places, noughts := []int{s.A}, []int{s.B}
		switch s.Kind {
		case api.StSet:
			s.Set = api.Set{}
		case api.StSplit:
			places, noughts = []int{s.A, s.B}, nil
		case api.StFinal:
			places, noughts = nil, []int{s.A, s.B}
			final = append(final, i)
		case api.StEmpty, api.StBegin, api.StEnd:
		default:
			wrong = true
		}
		for _, to := range places {
			wrong = wrong || to < 0 || to > size-1
		}
		wrong = wrong || slices.ContainsFunc(noughts, func(to int) bool { return to != 0 }) || s.Set != api.Set{}
	}
	return !wrong && slices.Equal(final, []int{n.Final}) && slices.Contains(placesOf(n), n.Start)
}

// placesOf has the places of all states.
func placesOf(n api.Nfa) []int {
	var l []int
	for i := range n.States {
		l = append(l, i)
	}
	return l
}

// reached is where one comes at once, told in rounds over all states till a round finds nothing.
func reached(n api.Nfa, from []int, sym int) []int {
	in := map[int]int{}
	for _, at := range from {
		if 0 <= at && at < len(n.States) {
			in[at] = 1
		}
	}
	for before := -1; before < len(in); {
		before = len(in)
		for i, s := range n.States {
			if in[i] == 0 {
				continue
			}
			if s.Kind == api.StEmpty || s.Kind == api.StSplit || s.Kind == api.StBegin && (sym == 256 || sym == 258) || s.Kind == api.StEnd && (sym == 257 || sym == 258) {
				in[s.A] = 1
			}
			if s.Kind == api.StSplit {
				in[s.B] = 1
			}
		}
	}
	var l []int
	for i := range n.States {
		if in[i] == 1 {
			l = append(l, i)
		}
	}
	return l
}

// stepped is where one comes by a byte.
func stepped(n api.Nfa, from []int, b byte) []int {
	var l []int
	for i, s := range n.States {
		if s.Kind == api.StSet && has(s.Set, b) && slices.Contains(from, i) {
			l = append(l, s.A)
		}
	}
	return reached(n, l, 0)
}

// leads tells whether one comes from Start at place i to Final at place j, by a search for states at places: at each one all steps but those by a byte are asked for alone.
func leads(n api.Nfa, text string, i, j int) bool {
	type spot struct{ state, place int }
	seen := map[spot]int{}
	var look func(s spot) bool
	look = func(s spot) bool {
		if seen[s] == 1 {
			return false
		}
		seen[s] = 1
		x := n.States[s.state]
		switch x.Kind {
		case api.StFinal:
			return s.place == j
		case api.StSet:
			return s.place < j && has(x.Set, text[s.place]) && look(spot{x.A, s.place + 1})
		case api.StBegin:
			return s.place == 0 && look(spot{x.A, s.place})
		case api.StEnd:
			return s.place == len(text) && look(spot{x.A, s.place})
		case api.StSplit:
			return look(spot{x.B, s.place}) || look(spot{x.A, s.place})
		}
		return look(spot{x.A, s.place})
	}
	return 0 <= i && i <= j && j <= len(text) && look(spot{n.Start, i})
}

// treesOf hands all trees of n nodes to a function, made of some nodes.
func treesOf(n int, nodes []api.Node, f func(l []api.Node)) {
	var grow func(l []api.Node, free int)
	grow = func(l []api.Node, free int) {
		if len(l) == n {
			if free == 1 {
				f(slices.Clone(l))
			}
			return
		}
		for _, x := range nodes {
			if a := arguments(x.Kind); a <= free {
				grow(append(l, x), free+1-a)
			}
		}
	}
	grow(nil, 0)
}

// generator tells numbers from 0 to below n, always the same ones.
func generator() func(n int) int {
	x := uint32(9)
	return func(n int) int {
		x = x*1664525 + 1013904223
		return int(x>>8) % n
	}
}

// grown is a tree of just n nodes, by what next tells, with some repeats. The lower the slope, the longer its leaves wait for a node of two arguments; the more seldom, the fewer of its nodes are repeats.
func grown(next func(int) int, n, slope, seldom int, repeats string) []api.Node {
	var l []api.Node
	for free := 0; len(l) < n; {
		sign := "aaaaabbbbc~~~-__^$"[next(18)]
		switch left := n - len(l); {
		case free > 1 && (free >= left || next(10) < slope):
			sign = "..|"[next(3)]
		case free == left || free > 0 && next(seldom) == 0:
			sign = repeats[next(len(repeats))]
		}
		l = append(l, node(sign))
		free += 1 - arguments(node(sign).Kind)
	}
	return l
}

// mixed is a text of some letters, by what next tells.
func mixed(next func(int) int, n int) string {
	var p strings.Builder
	for range n {
		p.WriteByte("aaabbc\x00\xff"[next(8)])
	}
	return p.String()
}

// textsOf has all texts of at most n of some letters.
func textsOf(letters string, n int) []string {
	all := []string{""}
	for from := 0; len(all[from]) < n; from++ {
		for _, c := range []byte(letters) {
			all = append(all, all[from]+string([]byte{c}))
		}
	}
	return all
}

// parts are parts of a text: bit j of entry i is the one from i to j.
type parts []uint64

// has says whether the part from i to j is one of them.
func (p parts) has(i, j int) bool { return p[i]&(1<<j) != 0 }

// fits tells which parts of a text fit a tree, by facts' definition.
func fits(l []api.Node, text string) parts {
	var open []parts
	for _, n := range l {
		k := len(open) - arguments(n.Kind)
		open = append(open[:k], fitsNode(n, open[k:], text))
	}
	return open[0]
}

// fitsNode is the same of a node, by what fits its arguments.
func fitsNode(n api.Node, args []parts, text string) parts {
	p := make(parts, len(text)+1)
	for i := range p {
		switch n.Kind {
		case api.NdSet:
			if i < len(text) && has(n.Set, text[i]) {
				p[i] = 1 << (i + 1)
			}
		case api.NdEmpty:
			p[i] = 1 << i
		case api.NdBegin:
			if i == 0 {
				p[i] = 1
			}
		case api.NdEnd:
			if i == len(text) {
				p[i] = 1 << i
			}
		case api.NdCat:
			p[i] = args[1].from(args[0][i])
		case api.NdOr:
			p[i] = args[0][i] | args[1][i]
		case api.NdRep:
			p[i] = args[0].often(i, n.Lo, n.Hi)
		}
	}
	return p
}

// from is where the parts end that begin at some places.
func (p parts) from(places uint64) uint64 {
	ends := uint64(0)
	for ; places > 0; places &= places - 1 {
		ends |= p[bits.TrailingZeros64(places)]
	}
	return ends
}

// often is where lo to hi parts end, one behind the other, the first of which begins at i. Without bound as many more as the text has bytes are enough: of more than that one is empty.
func (p parts) often(i, lo, hi int) uint64 {
	if hi == -1 {
		hi = lo + len(p) - 1
	}
	ends := uint64(0)
	places := uint64(1) << i
	for k := 0; ; k++ {
		if k >= lo {
			ends |= places
		}
		if k == hi {
			return ends
		}
		places = p.from(places)
	}
}

// TestModels holds the models against what was told by hand: so what the other tests ask of them is not asked of nothing.
func TestModels(t *testing.T) { // P9.1 to P9.5
	for _, x := range []struct {
		signs, text, want string // each part as the places of its two ends
	}{
		{"a", "aba", "01 23"}, {"~", "abc\x00", "12 23 34"}, {"-", "a", ""}, {"#", "\x00\xff", "01 12"},
		{"_", "ab", "00 11 22"}, {"^", "ab", "00"}, {"$", "ab", "22"}, {"^", "", "00"}, {"$", "", "00"},
		{"ab.", "abab", "02 24"}, {"ab.", "ba", ""}, {"ab|", "ab", "01 12"}, {"a^.", "aa", ""}, {"^a.", "aa", "01"}, {"a$.", "aa", "12"}, {"^$.", "", "00"}, {"$^.", "", "00"}, {"^$.", "a", ""},
		{"a*", "aab", "00 01 02 11 12 22 33"}, {"a+", "aab", "01 02 12"}, {"a?", "ab", "00 01 11 22"}, {"a0", "a", "00 11"}, {"a2", "aaa", "02 13"}, {"a3", "aaaa", "01 02 03 12 13 14 23 24 34"}, {"a5", "aaaaaa", "05 06 16"},
		{"_8", "a", "00 11"}, {"a?9", "aa", "00 01 02 11 12 22"}, {"-*", "a", "00 11"}, {"-+", "a", ""}, {"^*", "a", "00 11"}, {"^+", "a", "00"}, {"ab.c|+", "abcb", "02 03 23"},
	} {
		var got, led []string
		p, n := fits(list(x.signs), x.text), model(list(x.signs))
		for i := range len(x.text) + 1 {
			for j := range len(x.text) + 1 {
				if p.has(i, j) {
					got = append(got, fmt.Sprintf("%d%d", i, j))
				}
				if leads(n, x.text, i, j) {
					led = append(led, fmt.Sprintf("%d%d", i, j))
				}
			}
		}
		if strings.Join(got, " ") != x.want || !slices.Equal(got, led) || !mayBe(n) {
			t.Errorf("%s, %q: %v, %v; not %s", x.signs, x.text, got, led, x.want)
		}
	}
	n := api.Nfa{States: []api.State{{Kind: api.StSet, Set: api.Set{0, 1 << ('a' - 64)}, A: 3}, {Kind: api.StEmpty, A: 2}, {Kind: api.StSplit, A: 1, B: 3}, {Kind: api.StBegin, A: 4}, {Kind: api.StEnd, A: 5}, {Kind: api.StFinal}}, Start: 2, Final: 5}
	if !same(automaton(2, "a>3 _>2 |>1,3 ^>4 $>5 !"), n) || !same(model(list("a*")), automaton(0, "_>3 a>2 _>3 |>1,4 !")) {
		t.Errorf("%s; %s", told(automaton(2, "a>3 _>2 |>1,3 ^>4 $>5 !")), told(model(list("a*"))))
	}
	if l := reached(n, []int{2, -1, 6}, 0); !slices.Equal(l, []int{1, 2, 3}) || !slices.Equal(reached(n, l, 256), []int{1, 2, 3, 4}) || !slices.Equal(reached(n, l, 258), []int{1, 2, 3, 4, 5}) || !slices.Equal(reached(n, []int{4, 3}, 257), []int{3, 4, 5}) {
		t.Errorf("reached: %v", l)
	}
	if l := stepped(n, []int{0, 1}, 'a'); !slices.Equal(l, []int{3}) || len(stepped(n, l, 'a')) > 0 || len(stepped(n, []int{0}, 'b')) > 0 {
		t.Errorf("stepped: %v", l)
	}
}
