package turn

import (
	"fmt"
	"math"
	"math/bits"
	"slices"
	"strings"
	"testing"

	"tatting/api"
)

// node is the node that a sign stands for: a letter for the set of it, and others as they are written here.
func node(sign byte) api.Node {
	switch sign {
	case '-':
		return api.Node{Kind: api.NdSet}
	case '#':
		return api.Node{Kind: api.NdSet, Set: api.Set{math.MaxUint64, math.MaxUint64, math.MaxUint64, math.MaxUint64}}
	case '~':
		return api.Node{Kind: api.NdSet, Set: setOf('b', 'c', 0, 255)}
	case '_':
		return api.Node{Kind: api.NdEmpty}
	case '^':
		return api.Node{Kind: api.NdBegin}
	case '$':
		return api.Node{Kind: api.NdEnd}
	case '.':
		return api.Node{Kind: api.NdCat}
	case '|':
		return api.Node{Kind: api.NdOr}
	case '*':
		return rep(0, -1)
	case '+':
		return rep(1, -1)
	case '?':
		return rep(0, 1)
	case '0':
		return rep(0, 0)
	case '1':
		return rep(1, 1)
	case '2':
		return rep(2, 2)
	case '3':
		return rep(1, 3)
	case '5':
		return rep(5, -1)
	case '8':
		return rep(32, -1)
	case '9':
		return rep(31, 32)
	}
	return api.Node{Kind: api.NdSet, Set: setOf(sign)}
}

func rep(lo, hi int) api.Node { return api.Node{Kind: api.NdRep, Lo: lo, Hi: hi} }

// setOf is the set of some bytes, told bit by bit.
func setOf(l ...byte) api.Set {
	var s api.Set
	for _, b := range l {
		s[b/64] |= uint64(1) << (b % 64)
	}
	return s
}

func has(s api.Set, b byte) bool { return s[b/64]&(uint64(1)<<(b%64)) != 0 }

// list has a node for each sign, each behind its arguments: ab.c. is the tree of abc.
func list(signs string) []api.Node {
	l := []api.Node{}
	for _, s := range []byte(signs) {
		l = append(l, node(s))
	}
	return l
}

// arguments is how many a kind has, written out apart from the package tree; -1: it is none.
func arguments(kind int) int {
	switch kind {
	case api.NdSet, api.NdEmpty, api.NdBegin, api.NdEnd:
		return 0
	case api.NdRep:
		return 1
	case api.NdCat, api.NdOr:
		return 2
	}
	return -1
}

// brief is a list as a fault tells it: of each node the kind, the set's words, and how often.
func brief(l []api.Node) string {
	var p strings.Builder
	for _, n := range l[:min(len(l), 40)] {
		fmt.Fprintf(&p, "%d", n.Kind)
		if n.Kind == api.NdSet || n.Set != (api.Set{}) {
			fmt.Fprintf(&p, ":%x", n.Set)
		}
		if n.Kind == api.NdRep || n.Lo != 0 || n.Hi != 0 {
			fmt.Fprintf(&p, ":%d:%d", n.Lo, n.Hi)
		}
		p.WriteByte(' ')
	}
	return fmt.Sprintf("%sof %d nodes", p.String(), len(l))
}

// model reads the part of a tree that ends with a list, by what the chapter says of it. It tells that part turned, and the nodes ahead of it.
func model(l []api.Node) (turned, ahead []api.Node) {
	n, ahead := l[len(l)-1], l[:len(l)-1]
	var first, second []api.Node
	switch n.Kind {
	case api.NdBegin:
		n = node('$')
	case api.NdEnd:
		n = node('^')
	case api.NdRep:
		first, ahead = model(ahead)
	case api.NdOr:
		second, ahead = model(ahead)
		first, ahead = model(ahead)
	case api.NdCat:
		first, ahead = model(ahead)
		second, ahead = model(ahead)
	}
	return slices.Concat(first, second, []api.Node{n}), ahead
}

// treesOf hands all trees of n nodes to a function, made of some nodes.
func treesOf(n int, nodes []api.Node, f func(l []api.Node)) {
	var grow func(l []api.Node, free int)
	grow = func(l []api.Node, free int) {
		if len(l) == n {
			if free == 1 {
				f(slices.Clone(l))
			}
			return
		}
		for _, x := range nodes {
			if a := arguments(x.Kind); a <= free {
				grow(append(l, x), free+1-a)
			}
		}
	}
	grow(nil, 0)
}

// generator tells numbers from 0 to below n, always the same ones.
func generator() func(n int) int {
	x := uint32(8)
	return func(n int) int {
		x = x*1664525 + 1013904223
		return int(x>>8) % n
	}
}

// grown is a tree of just n nodes, by what next tells. The lower the slope, the longer its leaves wait for a node of two arguments.
func grown(next func(int) int, n, slope int) []api.Node {
	var l []api.Node
	for free := 0; len(l) < n; {
		sign := "aaaaabbbbc~~~-__^$"[next(18)]
		switch left := n - len(l); {
		case free > 1 && (free >= left || next(10) < slope):
			sign = "..|"[next(3)]
		case free == left || free > 0 && next(3) == 0:
			sign = "**??+012359"[next(11)]
		}
		l = append(l, node(sign))
		free += 1 - arguments(node(sign).Kind)
	}
	return l
}

// mixed is a text of some letters, by what next tells.
func mixed(next func(int) int, n int) string {
	var p strings.Builder
	for range n {
		p.WriteByte("aaabbc\x00\xff"[next(8)])
	}
	return p.String()
}

// textsOf has all texts of at most n of some letters.
func textsOf(letters string, n int) []string {
	all := []string{""}
	for from := 0; len(all[from]) < n; from++ {
		for _, c := range []byte(letters) {
			all = append(all, all[from]+string([]byte{c}))
		}
	}
	return all
}

// parts are parts of a text: bit j of entry i is the one from i to j.
type parts []uint64

// fits tells which parts of a text fit a tree, by facts' definition.
func fits(l []api.Node, text string) parts {
	var open []parts
	for _, n := range l {
		k := len(open) - arguments(n.Kind)
		open = append(open[:k], fitsNode(n, open[k:], text))
	}
	return open[0]
}

// fitsNode is the same of a node, by what fits its arguments.
func fitsNode(n api.Node, args []parts, text string) parts {
	p := make(parts, len(text)+1)
	for i := range p {
		switch n.Kind {
		case api.NdSet:
			if i < len(text) && has(n.Set, text[i]) {
				p[i] = 1 << (i + 1)
			}
		case api.NdEmpty:
			p[i] = 1 << i
		case api.NdBegin:
			if i == 0 {
				p[i] = 1
			}
		case api.NdEnd:
			if i == len(text) {
				p[i] = 1 << i
			}
		case api.NdCat:
			p[i] = args[1].from(args[0][i])
		case api.NdOr:
			p[i] = args[0][i] | args[1][i]
		case api.NdRep:
			p[i] = args[0].often(i, n.Lo, n.Hi)
		}
	}
	return p
}

// from is where the parts end that begin at some places.
func (p parts) from(places uint64) uint64 {
	ends := uint64(0)
	for ; places > 0; places &= places - 1 {
		ends |= p[bits.TrailingZeros64(places)]
	}
	return ends
}

// often is where lo to hi parts end, one behind the other, the first of which begins at i. Without bound as many more as the text has bytes are enough: of more than that one is empty.
func (p parts) often(i, lo, hi int) uint64 {
	if hi == -1 {
		hi = lo + len(p) - 1
	}
	ends := uint64(0)
	places := uint64(1) << i
	for k := 0; ; k++ {
		if k >= lo {
			ends |= places
		}
		if k == hi {
			return ends
		}
		places = p.from(places)
	}
}

// turned are the parts of the turned text: that from i to j is the one from n - j to n - i.
func (p parts) turned() parts {
	n := len(p) - 1
	q := make(parts, n+1)
	for i := range p {
		for j := i; j <= n; j++ {
			if p[i]&(1<<j) != 0 {
				q[n-j] |= 1 << (n - i)
			}
		}
	}
	return q
}

// count is how many parts there are.
func (p parts) count() int {
	n := 0
	for _, ends := range p {
		n += bits.OnesCount64(ends)
	}
	return n
}

// backwards is a text, told byte by byte from its end.
func backwards(s string) string {
	var p strings.Builder
	for i := len(s); i > 0; i-- {
		p.WriteByte(s[i-1])
	}
	return p.String()
}

// TestFits holds what fits against parts that were told by hand: so what the other tests ask of it is not asked of nothing.
func TestFits(t *testing.T) { // P8.2
	for _, x := range []struct {
		signs, text, want string // each part as the places of its two ends
	}{
		{"a", "aba", "01 23"}, {"~", "abc\x00", "12 23 34"}, {"-", "a", ""}, {"#", "\x00\xff", "01 12"},
		{"_", "ab", "00 11 22"}, {"^", "ab", "00"}, {"$", "ab", "22"}, {"^", "", "00"}, {"$", "", "00"},
		{"ab.", "abab", "02 24"}, {"ab.", "ba", ""}, {"ab|", "ab", "01 12"}, {"a^.", "aa", ""}, {"^a.", "aa", "01"}, {"a$.", "aa", "12"}, {"^$.", "", "00"}, {"^$.", "a", ""},
		{"a*", "aab", "00 01 02 11 12 22 33"}, {"a+", "aab", "01 02 12"}, {"a?", "ab", "00 01 11 22"}, {"a0", "a", "00 11"}, {"a2", "aaa", "02 13"}, {"a3", "aaaa", "01 02 03 12 13 14 23 24 34"}, {"a5", "aaaaaa", "05 06 16"},
		{"_8", "a", "00 11"}, {"a?9", "aa", "00 01 02 11 12 22"}, {"-*", "a", "00 11"}, {"-+", "a", ""}, {"^*", "a", "00 11"}, {"^+", "a", "00"}, {"ab.c|+", "abcb", "02 03 23"},
	} {
		var got []string
		for i, ends := range fits(list(x.signs), x.text) {
			for j := range len(x.text) + 1 {
				if ends&(1<<j) != 0 {
					got = append(got, fmt.Sprintf("%d%d", i, j))
				}
			}
		}
		if strings.Join(got, " ") != x.want {
			t.Errorf("%s, %q: %v; not %s", x.signs, x.text, got, x.want)
		}
	}
	p := fits(list("ab."), "cab").turned()
	if !slices.Equal(p, parts{1 << 2, 0, 0, 0}) {
		t.Errorf("turned: %v", p)
	}
}
