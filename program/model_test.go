package program

import (
	"fmt"
	"math"
	"math/bits"
	"slices"
	"strconv"
	"strings"
	"testing"

	"tatting/api"
	"tatting/mini"
	"tatting/nfa"
	"tatting/subset"
)

// node is the node that a sign stands for: a letter for the set of it, and others as they are written here.
func node(sign byte) api.Node {
	switch sign {
	case '_':
		return api.Node{Kind: api.NdEmpty}
	case '^':
		return api.Node{Kind: api.NdBegin}
	case '$':
		return api.Node{Kind: api.NdEnd}
	case '.':
		return api.Node{Kind: api.NdCat}
	case '|':
		return api.Node{Kind: api.NdOr}
	case '*':
		return rep(0, -1)
	case '+':
		return rep(1, -1)
	case '?':
		return rep(0, 1)
	case '0':
		return rep(0, 0)
	case '1':
		return rep(1, 1)
	case '2':
		return rep(2, 2)
	case '3':
		return rep(1, 3)
	}
	return api.Node{Kind: api.NdSet, Set: signSet(sign)}
}

func rep(lo, hi int) api.Node { return api.Node{Kind: api.NdRep, Lo: lo, Hi: hi} }

// signSet is the set that a sign stands for: - has nothing, # all, ~ some; others have themselves.
func signSet(sign byte) api.Set {
	switch sign {
	case '-':
		return api.Set{}
	case '#':
		return api.Set{math.MaxUint64, math.MaxUint64, math.MaxUint64, math.MaxUint64}
	case '~':
		return setOf('b', 'c', 0, 255)
	}
	return setOf(sign)
}

// setOf is the set of some bytes, told bit by bit.
func setOf(l ...byte) api.Set {
	var s api.Set
	for _, b := range l {
		s[b/64] |= uint64(1) << (b % 64)
	}
	return s
}

func has(s api.Set, b byte) bool { return s[b/64]&(uint64(1)<<(b%64)) != 0 }

// list has a node for each sign, each behind its arguments: ab.c. is the tree of abc.
func list(signs string) []api.Node {
	l := []api.Node{}
	for _, s := range []byte(signs) {
		l = append(l, node(s))
	}
	return l
}

// arguments is how many a kind has, written out apart from the package tree; -1: it is none.
func arguments(kind int) int {
	switch kind {
	case api.NdSet, api.NdEmpty, api.NdBegin, api.NdEnd:
		return 0
	case api.NdRep:
		return 1
	case api.NdCat, api.NdOr:
		return 2
	}
	return -1
}

// isTree tells whether a list is a tree, by reading it as one, part by part, from its end.
func isTree(l []api.Node) bool {
	if len(l) > 512 {
		return false
	}
	missing := 1
	for k := len(l) - 1; k >= 0; k-- {
		n := l[k]
		some := n.Lo != 0 || n.Hi != 0
		if n.Kind == api.NdRep {
			some = n.Lo < 0 || n.Lo > 32 || n.Hi > 32 || n.Hi < n.Lo && n.Hi != -1
		}
		if missing == 0 || some || arguments(n.Kind) < 0 || n.Kind != api.NdSet && n.Set != (api.Set{}) {
			return false
		}
		missing += arguments(n.Kind) - 1
	}
	return missing == 0
}

// anyThen is the model of Any.
func anyThen(l []api.Node) []api.Node {
	return slices.Concat(list("#*"), l, list("."))
}

// turnedOf is a tree, turned around.
func turnedOf(l []api.Node) []api.Node {
	turned, _ := turnedPart(l)
	return turned
}

// turnedPart reads the part of a tree that ends with a list. It tells that part turned, and the nodes ahead of it.
func turnedPart(l []api.Node) (turned, ahead []api.Node) {
	n, ahead := l[len(l)-1], l[:len(l)-1]
	var first, second []api.Node
	switch n.Kind {
	case api.NdBegin:
		n = node('$')
	case api.NdEnd:
		n = node('^')
	case api.NdRep:
		first, ahead = turnedPart(ahead)
	case api.NdOr:
		second, ahead = turnedPart(ahead)
		first, ahead = turnedPart(ahead)
	case api.NdCat:
		first, ahead = turnedPart(ahead)
		second, ahead = turnedPart(ahead)
	}
	return slices.Concat(first, second, []api.Node{n}), ahead
}

// treesOf has the trees of a program's automata.
func treesOf(l []api.Node) [3][]api.Node {
	return [3][]api.Node{l, anyThen(l), anyThen(turnedOf(l))}
}

// oneOf is the model of One: what three layers tell, one behind the other.
func oneOf(l []api.Node, most int) (api.Dfa, api.Errno) {
	n, e := nfa.Build(l)
	if e != api.OK {
		return api.Dfa{}, e
	}
	d, e := subset.Build(n, most)
	if e != api.OK {
		return api.Dfa{}, e
	}
	return mini.Of(d)
}

// partsOf is a program, part by part: a tree's automata, and the first error of them.
func partsOf(l []api.Node, most int) (api.Program, api.Errno) {
	if !isTree(l) {
		return api.Program{}, api.ErrForm
	}
	p := api.Program{Tree: slices.Clone(l)}
	for k, own := range treesOf(l) {
		d, e := oneOf(own, most)
		if e != api.OK {
			return api.Program{}, e
		}
		*automata(&p)[k] = d
	}
	return p, api.OK
}

// automata has a program's automata, in order.
func automata(p *api.Program) [3]*api.Dfa { return [3]*api.Dfa{&p.Forward, &p.Search, &p.Back} }

// sizes is how many states each automaton has ahead of mini.
func sizes(l []api.Node) [3]int {
	var sizes [3]int
	for k, own := range treesOf(l) {
		n, _ := nfa.Build(own)
		sizes[k] = subset.Count(n, 1<<14)
	}
	return sizes
}

// greatest is the most that lets a tree's program be, at least.
func greatest(l []api.Node) int {
	all := sizes(l)
	return slices.Max(all[:])
}

// isRight is the model of Right.
func isRight(p api.Program) bool {
	want, e := partsOf(p.Tree, 1024)
	return e == api.OK && same(p, want)
}

// table is an automaton, written out: its classes, as 96:0 97:1 for 0 up to 96 and 1 of 97, and state by state, with ; between them, where it goes by each class, and a ! behind that, if it accepts.
func table(classes, rows string) api.Dfa {
	var d api.Dfa
	for _, word := range strings.Fields(classes) {
		last, class, _ := strings.Cut(word, ":")
		hi, _ := strconv.Atoi(last)
		c, _ := strconv.Atoi(class)
		for len(d.Class) <= hi {
			d.Class = append(d.Class, c)
		}
		d.Width = max(d.Width, c+1)
	}
	for _, row := range strings.Split(rows, ";") {
		to, _, accepts := strings.Cut(row, "!")
		for _, word := range strings.Fields(to) {
			at, _ := strconv.Atoi(word)
			d.Next = append(d.Next, at)
		}
		d.Accept = append(d.Accept, accepts)
	}
	return d
}

func sameDfa(a, b api.Dfa) bool {
	return slices.Equal(a.Class, b.Class) && a.Width == b.Width && a.Start == b.Start && slices.Equal(a.Next, b.Next) && slices.Equal(a.Accept, b.Accept)
}

func same(a, b api.Program) bool {
	return slices.Equal(a.Tree, b.Tree) && sameDfa(a.Forward, b.Forward) && sameDfa(a.Search, b.Search) && sameDfa(a.Back, b.Back)
}

func copiedDfa(d api.Dfa) api.Dfa {
	d.Class, d.Next, d.Accept = slices.Clone(d.Class), slices.Clone(d.Next), slices.Clone(d.Accept)
	return d
}

// copied is the same program, in lists of its own.
func copied(p api.Program) api.Program {
	return api.Program{Tree: slices.Clone(p.Tree), Forward: copiedDfa(p.Forward), Search: copiedDfa(p.Search), Back: copiedDfa(p.Back)}
}

// briefTree is a list as a fault tells it: of each node the kind, the set's words, and how often.
func briefTree(l []api.Node) string {
	var p strings.Builder
	for _, n := range l[:min(len(l), 40)] {
		fmt.Fprintf(&p, "%d", n.Kind)
		if n.Kind == api.NdSet || n.Set != (api.Set{}) {
			fmt.Fprintf(&p, ":%x", n.Set)
		}
		if n.Kind == api.NdRep || n.Lo != 0 || n.Hi != 0 {
			fmt.Fprintf(&p, ":%d:%d", n.Lo, n.Hi)
		}
		p.WriteByte(' ')
	}
	return fmt.Sprintf("%sof %d nodes", p.String(), len(l))
}

// briefDfa is an automaton as a fault tells it: as a table is written.
func briefDfa(d api.Dfa) string {
	var p strings.Builder
	for at, to := range d.Next[:min(len(d.Next), 60)] {
		if at > 0 && d.Width > 0 && at%d.Width == 0 {
			p.WriteString("; ")
		}
		fmt.Fprintf(&p, "%d ", to)
	}
	return fmt.Sprintf("%sof %d symbols, %d classes, %d places, accepting %v, from %d", p.String(), len(d.Class), d.Width, len(d.Next), d.Accept[:min(len(d.Accept), 20)], d.Start)
}

func brief(p api.Program) string {
	return fmt.Sprintf("tree %s; forward %s; search %s; back %s", briefTree(p.Tree), briefDfa(p.Forward), briefDfa(p.Search), briefDfa(p.Back))
}

// parts are parts of a text: bit j of entry i is the one from i to j.
type parts []uint64

func (p parts) has(i, j int) bool { return p[i]>>j&1 == 1 }

// fits tells which parts of a text fit a tree, by facts' definition.
func fits(l []api.Node, text string) parts {
	var open []parts
	for _, n := range l {
		k := len(open) - arguments(n.Kind)
		open = append(open[:k], fitsNode(n, open[k:], text))
	}
	return open[0]
}

// fitsNode is the same of a node, by what fits its arguments.
func fitsNode(n api.Node, args []parts, text string) parts {
	p := make(parts, len(text)+1)
	for i := range p {
		switch n.Kind {
		case api.NdSet:
			if i < len(text) && has(n.Set, text[i]) {
				p[i] = 1 << (i + 1)
			}
		case api.NdEmpty:
			p[i] = 1 << i
		case api.NdBegin:
			if i == 0 {
				p[i] = 1
			}
		case api.NdEnd:
			if i == len(text) {
				p[i] = 1 << i
			}
		case api.NdCat:
			p[i] = args[1].from(args[0][i])
		case api.NdOr:
			p[i] = args[0][i] | args[1][i]
		case api.NdRep:
			p[i] = args[0].often(i, n.Lo, n.Hi)
		}
	}
	return p
}

// from is where the parts end that begin at some places.
func (p parts) from(places uint64) uint64 {
	ends := uint64(0)
	for ; places > 0; places &= places - 1 {
		ends |= p[bits.TrailingZeros64(places)]
	}
	return ends
}

// often is where lo to hi parts end, one behind the other, the first of which begins at i. Without bound as many more as the text has bytes are enough: of more than that one is empty.
func (p parts) often(i, lo, hi int) uint64 {
	if hi == -1 {
		hi = lo + len(p) - 1
	}
	ends := uint64(0)
	places := uint64(1) << i
	for k := 0; ; k++ {
		if k >= lo {
			ends |= places
		}
		if k == hi {
			return ends
		}
		places = p.from(places)
	}
}

// symbols are those of a part of a text: its ends stand for more than the bytes.
func symbols(text string, i, j int) []int {
	if text == "" {
		return []int{258}
	}
	var l []int
	if i == 0 {
		l = append(l, 256)
	}
	for k := i; k < j; k++ {
		l = append(l, int(text[k]))
	}
	if j == len(text) {
		l = append(l, 257)
	}
	return l
}

// leads tells whether one comes by some symbols from where an automaton starts to a state that accepts.
func leads(d api.Dfa, word []int) bool {
	at := d.Start
	for _, sym := range word {
		at = d.Next[at*d.Width+d.Class[sym]]
	}
	return d.Accept[at]
}

// backwards is a text, told byte by byte from its end.
func backwards(s string) string {
	var p strings.Builder
	for i := len(s); i > 0; i-- {
		p.WriteByte(s[i-1])
	}
	return p.String()
}

// textsOf has all texts of at most n of some letters.
func textsOf(letters string, n int) []string {
	all := []string{""}
	for from := 0; len(all[from]) < n; from++ {
		for _, c := range []byte(letters) {
			all = append(all, all[from]+string([]byte{c}))
		}
	}
	return all
}

// smallTrees hands all trees of n nodes to a function, made of some signs.
func smallTrees(n int, signs string, f func(l []api.Node)) {
	var grow func(l []api.Node, free int)
	grow = func(l []api.Node, free int) {
		if len(l) == n {
			if free == 1 {
				f(slices.Clone(l))
			}
			return
		}
		for _, x := range list(signs) {
			if a := arguments(x.Kind); a <= free {
				grow(append(l, x), free+1-a)
			}
		}
	}
	grow(nil, 0)
}

// generator tells numbers from 0 to below n, always the same ones.
func generator() func(n int) int {
	x := uint32(15)
	return func(n int) int {
		x = x*1664525 + 1013904223
		return int(x>>8) % n
	}
}

// grown is a tree of just n nodes, by what next tells. The lower the slope, the longer its leaves wait for a node of two arguments.
func grown(next func(int) int, n, slope int) []api.Node {
	var l []api.Node
	for free := 0; len(l) < n; {
		sign := "aaaaabbbbc~~~-__^$"[next(18)]
		switch left := n - len(l); {
		case free > 1 && (free >= left || next(10) < slope):
			sign = "..|"[next(3)]
		case free == left || free > 0 && next(5) == 0:
			sign = "**??+0123"[next(9)]
		}
		l = append(l, node(sign))
		free += 1 - arguments(node(sign).Kind)
	}
	return l
}

// mixedPattern is a pattern of all kinds of parts.
func mixedPattern(next func(int) int, deep int) string {
	if deep == 0 {
		return []string{"a", "b", "a", "b", "[ab]", "[^a]", ".", "^", "$", "()", "c"}[next(11)]
	}
	one := mixedPattern(next, next(deep))
	switch next(6) {
	case 0:
		return "(" + one + "|" + mixedPattern(next, next(deep)) + ")"
	case 1:
		return "(" + one + ")" + []string{"*", "+", "?", "{2}", "{0}", "{1,3}", "{2,}", "{0,2}"}[next(8)]
	}
	return one + mixedPattern(next, deep-1)
}

// places has the numbers from 0 to below n, in any order.
func places(next func(int) int, n int) []int {
	var l []int
	for i := range n {
		l = append(l, i)
	}
	for i := range l {
		j := i + next(n-i)
		l[i], l[j] = l[j], l[i]
	}
	return l
}

// renumbered is an automaton that accepts the same words, with other numbers of its states.
func renumbered(d api.Dfa, state []int) api.Dfa {
	other := copiedDfa(d)
	other.Start = state[d.Start]
	for s, to := range state {
		other.Accept[to] = d.Accept[s]
		for c := range d.Width {
			other.Next[to*d.Width+c] = state[d.Next[s*d.Width+c]]
		}
	}
	return other
}

// reclassed is an automaton that accepts the same words, with other numbers of its classes.
func reclassed(d api.Dfa, class []int) api.Dfa {
	other := copiedDfa(d)
	for sym, c := range d.Class {
		other.Class[sym] = class[c]
	}
	for s := range d.Accept {
		for c, to := range class {
			other.Next[s*d.Width+to] = d.Next[s*d.Width+c]
		}
	}
	return other
}

// edges are numbers that are at the edges of something.
func edges() []int {
	return []int{math.MinInt, math.MinInt + 1, math.MinInt32, -1024, -2, -1, 0, 1, 2, 3, 32, 33, 258, 259, 260, 512, 600, 1023, 1024, 1025, 4096, 4097, 1 << 20, math.MaxInt32, 1 << 32, 1<<32 + 1, math.MaxInt - 1, math.MaxInt}
}

func TestModels(t *testing.T) { // P15.1 to P15.4: what the other tests hold the calls against, by hand
	if l := list("ab.*"); !slices.Equal(l, []api.Node{{Kind: api.NdSet, Set: api.Set{0, 1 << 33}}, {Kind: api.NdSet, Set: api.Set{0, 1 << 34}}, {Kind: api.NdCat}, {Kind: api.NdRep, Hi: -1}}) {
		t.Errorf("list: %s", briefTree(l))
	}
	if all := node('#').Set; !has(all, 0) || !has(all, 63) || !has(all, 64) || !has(all, 255) || has(setOf(64), 0) || !has(setOf(64), 64) {
		t.Errorf("sets")
	}
	for signs, is := range map[string]bool{"": false, "a": true, "ab": false, "ab.": true, "a.": false, ".ab": false, "ab.c|*": true, "*a": false, "^$._|": true, "abc..": true, "ab..c": false} {
		if isTree(list(signs)) != is {
			t.Errorf("isTree: %s", signs)
		}
	}
	if l := anyThen(list("ab.")); !slices.Equal(l, list("#*ab..")) {
		t.Errorf("anyThen: %s", briefTree(l))
	}
	if l := turnedOf(list("^ab.*.c|")); !slices.Equal(l, list("ba.*$.c|")) {
		t.Errorf("turnedOf: %s", briefTree(l))
	}
	d := table("96:0 97:1 255:0 258:2", "1 2 0; 1 1 1; 1 1 2 !")
	if one, e := oneOf(list("a"), 3); e != api.OK || !sameDfa(one, d) || len(d.Class) != 259 || d.Width != 3 || len(d.Next) != 9 || !slices.Equal(d.Accept, []bool{false, false, true}) {
		t.Errorf("oneOf: %d, %s", e, briefDfa(one))
	}
	if l := sizes(list("a")); l != [3]int{3, 3, 3} || greatest(list("aa.")) != 4 {
		t.Errorf("sizes: %v", l)
	}
	for _, state := range [][]int{{0, 1, 2}, {2, 0, 1}} {
		one, two := renumbered(d, state), reclassed(d, state)
		for k, word := range [][]int{{97}, {256, 97, 258}, nil, {98}, {97, 97}} {
			if is := k < 2; leads(d, word) != is || leads(one, word) != is || leads(two, word) != is {
				t.Errorf("leads: %v", word)
			}
		}
		if is := state[0] == 0; sameDfa(one, d) != is || sameDfa(two, d) != is {
			t.Errorf("renumbered, reclassed: %s, %s", briefDfa(one), briefDfa(two))
		}
	}
	p, _ := partsOf(list("a"), 9)
	if q := copied(p); !same(p, q) || !isRight(q) || isRight(api.Program{}) {
		t.Errorf("%s", brief(p))
	}
	for k := range 3 {
		q := copied(p)
		automata(&q)[k].Accept[0] = true
		if same(p, q) || isRight(q) {
			t.Errorf("same: %s", brief(q))
		}
	}
	for text, want := range map[string][]int{"": {258}, "x": {256, 120, 257}, "xy": {256, 120, 121, 257}} {
		if l := symbols(text, 0, len(text)); !slices.Equal(l, want) {
			t.Errorf("symbols of %q: %v", text, l)
		}
	}
	if l := [][]int{symbols("xyz", 0, 0), symbols("xyz", 0, 2), symbols("xyz", 1, 1), symbols("xyz", 2, 3)}; !slices.EqualFunc(l, [][]int{{256}, {256, 120, 121}, {}, {122, 257}}, slices.Equal) || backwards("abc\x00") != "\x00cba" {
		t.Errorf("symbols: %v", l)
	}
	if x := fits(list("^a*."), "aab"); !slices.Equal(x, parts{7, 0, 0, 0}) || !x.has(0, 2) || x.has(0, 3) || x.has(1, 2) {
		t.Errorf("fits: %v", x)
	}
	if x := fits(list("ab|2$|"), "aab"); !slices.Equal(x, parts{4, 8, 0, 8}) {
		t.Errorf("fits: %v", x)
	}
	n := 0
	smallTrees(3, "a*.", func(l []api.Node) {
		if !isTree(l) {
			t.Errorf("smallTrees: %s", briefTree(l))
		}
		n++
	})
	if n != 2 {
		t.Errorf("%d small trees", n)
	}
}
