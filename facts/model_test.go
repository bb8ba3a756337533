package facts

import (
	"fmt"
	"math"
	"math/big"
	"math/bits"
	"slices"
	"strings"
	"testing"

	"tatting/api"
	"tatting/tree"
)

// brief is a list as a fault tells it: of each node the kind, the bytes, and how often.
func brief(l []api.Node) string {
	var p strings.Builder
	for _, n := range l[:min(len(l), 40)] {
		fmt.Fprintf(&p, "%d", n.Kind)
		if n.Kind == api.NdSet || n.Set != (api.Set{}) {
			fmt.Fprintf(&p, ":%q", members(n.Set))
		}
		if n.Kind == api.NdRep || n.Lo != 0 || n.Hi != 0 {
			fmt.Fprintf(&p, ":%d:%d", n.Lo, n.Hi)
		}
		p.WriteByte(' ')
	}
	return fmt.Sprintf("%sof %d nodes", p.String(), len(l))
}

// members are a set's bytes.
func members(s api.Set) string {
	var l []byte
	for b := range 256 {
		if has(s, byte(b)) {
			l = append(l, byte(b))
		}
	}
	return string(l)
}

func has(s api.Set, b byte) bool { return s[b/64]&(uint64(1)<<(b%64)) != 0 }

// branch is a tree by what it is made of.
type branch struct {
	node api.Node
	args []branch
}

func (b branch) list() []api.Node {
	var l []api.Node
	for _, a := range b.args {
		l = append(l, a.list()...)
	}
	return append(l, b.node)
}

// branchOf is the branch of a tree.
func branchOf(t *testing.T, l []api.Node) branch {
	t.Helper()
	var rest []branch
	for _, n := range l {
		k := len(rest) - map[int]int{api.NdCat: 2, api.NdOr: 2, api.NdRep: 1}[n.Kind]
		rest = append(rest[:k:k], branch{n, slices.Clone(rest[k:])})
	}
	if len(rest) != 1 {
		t.Fatalf("no tree: %s", brief(l))
	}
	return rest[0]
}

// model is what a branch tells, in numbers without a bound: how long what fits may be (nil: without bound), with which bytes it begins, how many states there are.
type model struct {
	fits        bool
	least, most *big.Int
	first       map[byte]int
	size        *big.Int
}

func number(n int) *big.Int { return big.NewInt(int64(n)) }

func sum(a, b *big.Int) *big.Int { return new(big.Int).Add(a, b) }

// nothing is what is empty, without a state.
func nothing() model {
	return model{true, number(0), number(0), map[byte]int{}, number(0)}
}

// model makes a repeat of one copy behind the other, as many as there must be and as there may be.
func (b branch) model() model {
	switch b.node.Kind {
	case api.NdCat:
		return joined(b.args[0].model(), b.args[1].model())
	case api.NdOr:
		return sided(b.args[0].model(), b.args[1].model())
	case api.NdRep:
		return b.args[0].model().repeated(b.node.Lo, b.node.Hi)
	}
	m := nothing()
	m.size = number(2)
	if b.node.Kind == api.NdSet {
		m.least, m.most = number(1), number(1)
		for _, c := range []byte(members(b.node.Set)) {
			m.first[c] = 1
		}
		m.fits = len(m.first) > 0
	}
	return m
}

// joined is the one and the other behind it.
func joined(a, b model) model {
	m := model{a.fits && b.fits, sum(a.least, b.least), nil, map[byte]int{}, sum(a.size, b.size)}
	if a.most != nil && b.most != nil {
		m.most = sum(a.most, b.most)
	}
	for c := range a.first {
		m.first[c] = 1
	}
	for c := range b.first {
		if a.least.Sign() == 0 {
			m.first[c] = 1
		}
	}
	return m
}

// sided is either.
func sided(a, b model) model {
	size := sum(sum(a.size, b.size), number(2))
	switch {
	case !a.fits:
		b.size = size
		return b
	case !b.fits:
		a.size = size
		return a
	}
	m := model{true, a.least, nil, map[byte]int{}, size}
	if b.least.Cmp(a.least) < 0 {
		m.least = b.least
	}
	if a.most != nil && b.most != nil {
		m.most = a.most
		if b.most.Cmp(a.most) > 0 {
			m.most = b.most
		}
	}
	for _, from := range []map[byte]int{a.first, b.first} {
		for c := range from {
			m.first[c] = 1
		}
	}
	return m
}

func (m model) repeated(lo, hi int) model {
	all := nothing()
	for range lo {
		all = joined(all, m)
	}
	all.size = sum(all.size, number(2))
	maybe := m
	maybe.least = number(0)
	maybe.size = sum(m.size, number(1))
	if !m.fits {
		maybe = nothing()
		maybe.size = sum(m.size, number(1))
	}
	if hi == -1 {
		if maybe.most == nil || maybe.most.Sign() > 0 {
			maybe.most = nil
		}
		return joined(all, maybe)
	}
	for range hi - lo {
		all = joined(all, maybe)
	}
	return all
}

// bounded is a number as it is told.
func bounded(n *big.Int) int {
	if n == nil {
		return -1
	}
	if n.Cmp(number(limit)) > 0 {
		return limit
	}
	return int(n.Int64())
}

// facts is what a model tells of a list.
func (m model) facts(l []api.Node) api.Facts {
	f := api.Facts{Never: !m.fits}
	for _, n := range l {
		f.Ends = f.Ends || n.Kind == api.NdBegin || n.Kind == api.NdEnd
	}
	if m.fits {
		f.Least, f.Most = bounded(m.least), bounded(m.most)
		for c := range m.first {
			f.First[c/64] |= uint64(1) << (c % 64)
		}
	}
	return f
}

// againstModel holds what is told of a tree against the model.
func againstModel(t *testing.T, l []api.Node) {
	t.Helper()
	m := branchOf(t, l).model()
	wantFacts(t, l, m.facts(l))
	wantSize(t, l, bounded(m.size))
}

// ways is where a part that fits may end, for each place of a text at which it begins: bit j of the one for i, if the part from i to j fits.
type ways []uint64

// ways goes by the chapter's definition of what fits.
func (b branch) ways(text string) ways {
	w := make(ways, len(text)+1)
	switch b.node.Kind {
	case api.NdSet:
		for i := range len(text) {
			if has(b.node.Set, text[i]) {
				w[i] = 1 << (i + 1)
			}
		}
	case api.NdEmpty:
		return stay(len(text))
	case api.NdBegin:
		w[0] = 1
	case api.NdEnd:
		w[len(text)] = 1 << len(text)
	case api.NdCat:
		return b.args[0].ways(text).then(b.args[1].ways(text))
	case api.NdOr:
		return b.args[0].ways(text).with(b.args[1].ways(text))
	case api.NdRep:
		return b.args[0].ways(text).often(b.node.Lo, b.node.Hi)
	}
	return w
}

// stay is what fits where it is empty.
func stay(n int) ways {
	w := make(ways, n+1)
	for i := range w {
		w[i] = 1 << i
	}
	return w
}

func (w ways) then(v ways) ways {
	x := make(ways, len(w))
	for i := range w {
		for ends := w[i]; ends > 0; ends &= ends - 1 {
			x[i] |= v[bits.TrailingZeros64(ends)]
		}
	}
	return x
}

func (w ways) with(v ways) ways {
	x := slices.Clone(w)
	for i := range x {
		x[i] |= v[i]
	}
	return x
}

// often is lo to hi parts. Without bound it is enough to look at as many parts more as the text has bytes: of more than that one is empty and can be left out.
func (w ways) often(lo, hi int) ways {
	if hi == -1 {
		hi = lo + len(w) - 1
	}
	at := stay(len(w) - 1)
	x := make(ways, len(w))
	for k := 0; ; k++ {
		if k >= lo {
			x = x.with(at)
		}
		if k == hi {
			return x
		}
		at = at.then(w)
	}
}

// seen is what the parts that fit in some texts were like.
type seen struct {
	least, most int // -1: none fits
	first       api.Set
}

// wantAllThatFits asks of each part of some texts that fits: its length may be, and its first byte is one of First.
func wantAllThatFits(t *testing.T, b branch, f api.Facts, texts []string) seen {
	t.Helper()
	s := seen{-1, -1, api.Set{}}
	for _, text := range texts {
		for i, fits := range b.ways(text) {
			for ; fits > 0; fits &= fits - 1 {
				n := bits.TrailingZeros64(fits) - i
				if !Can(f, n) || n > 0 && !has(f.First, text[i]) {
					t.Errorf("%s, %+v: from %d to %d of %q fits", brief(b.list()), f, i, i+n, text)
					return s
				}
				if s.least == -1 || n < s.least {
					s.least = n
				}
				s.most = max(s.most, n)
				if n > 0 {
					s.first[text[i]/64] |= uint64(1) << (text[i] % 64)
				}
			}
		}
	}
	return s
}

// allTexts has all texts of at most n of some letters.
func allTexts(letters string, n int) []string {
	all := []string{""}
	for from := 0; len(all[from]) < n; from++ {
		for _, c := range []byte(letters) {
			all = append(all, all[from]+string([]byte{c}))
		}
	}
	return all
}

// ofSize has all branches of n nodes, with some leaves and repeats.
func ofSize(n int, leaves []api.Node, repeats [][2]int) []branch {
	var all []branch
	if n == 1 {
		for _, l := range leaves {
			all = append(all, branch{node: l})
		}
		return all
	}
	for _, a := range ofSize(n-1, leaves, repeats) {
		for _, r := range repeats {
			all = append(all, branch{api.Node{Kind: api.NdRep, Lo: r[0], Hi: r[1]}, []branch{a}})
		}
	}
	for first := 1; first < n-1; first++ {
		for _, a := range ofSize(first, leaves, repeats) {
			for _, b := range ofSize(n-1-first, leaves, repeats) {
				all = append(all, branch{api.Node{Kind: api.NdCat}, []branch{a, b}}, branch{api.Node{Kind: api.NdOr}, []branch{a, b}})
			}
		}
	}
	return all
}

// TestAllSmallTrees holds small trees of all kinds against all parts of short texts, and against the model.
func TestAllSmallTrees(t *testing.T) { // P7.1 to P7.4
	leaves := slices.Concat(set("a"), set("bc"), set(""), leaf(api.NdEmpty), leaf(api.NdBegin), leaf(api.NdEnd))
	repeats := [][2]int{{0, -1}, {0, 0}, {1, 2}, {2, 2}, {1, -1}, {0, 1}}
	texts := allTexts("abc", 4)
	count := 0
	for n := 1; n <= 5; n++ {
		if n == 5 {
			repeats, texts = repeats[:3], allTexts("ab", 4)
		}
		for _, b := range ofSize(n, leaves, repeats) {
			l := b.list()
			f, e := Of(l)
			if e != api.OK {
				t.Errorf("%s: %d", brief(l), e)
			}
			againstModel(t, l)
			s := wantAllThatFits(t, b, f, texts)
			if !f.Ends {
				wantSharp(t, l, f, s, texts)
			}
			count++
		}
	}
	if count < 9000 {
		t.Errorf("only %d trees", count)
	}
}

// wantSharp asks of a small tree without ends of the text that all that may be is there, as far as the texts go: no bound is looser than it must be.
func wantSharp(t *testing.T, l []api.Node, f api.Facts, s seen, texts []string) {
	t.Helper()
	longest, letters := len(texts[len(texts)-1]), api.Set{}
	for _, text := range texts {
		for _, c := range []byte(text) {
			letters[c/64] |= uint64(1) << (c % 64)
		}
	}
	if f.Never || f.Least > longest {
		if s.least != -1 {
			t.Errorf("%s, %+v: %+v", brief(l), f, s)
		}
		return
	}
	for i := range letters {
		letters[i] &= f.First[i]
	}
	short := f.Most == -1 || f.Most > longest
	if s.least != f.Least || s.first != letters || !short && s.most != f.Most || short && s.most < longest-1 {
		t.Errorf("%s, %+v: %+v", brief(l), f, s)
	}
}

// generator tells numbers from 0 to below n, always the same ones.
func generator() func(n int) int {
	x := uint32(5)
	return func(n int) int {
		x = x*1664525 + 1013904223
		return int(x>>8) % n
	}
}

// grown is a branch of just n nodes, by what next tells.
func grown(next func(int) int, n int) branch {
	if n == 1 {
		sets := []string{"a", "b", "ab", "bc", "", "\x00\xff", "a\x80"}
		l := [][]api.Node{set(sets[next(7)]), set(sets[next(4)]), set(sets[next(3)]), leaf(api.NdEmpty), leaf(api.NdEmpty), leaf([]int{api.NdBegin, api.NdEnd}[next(2)])}
		return branch{node: l[next(6)][0]}
	}
	if n == 2 || next(3) == 0 {
		lo := next(1 + next(33))
		hi := lo + next(33-lo)
		if next(2) == 0 {
			hi = -1
		}
		if next(2) == 0 {
			b := [][2]int{{0, 0}, {0, -1}, {0, 1}, {1, -1}, {0, 2}, {0, 32}, {1, 1}}[next(7)]
			lo, hi = b[0], b[1]
		}
		return branch{api.Node{Kind: api.NdRep, Lo: lo, Hi: hi}, []branch{grown(next, n-1)}}
	}
	first := 1 + next(n-2)
	return branch{api.Node{Kind: api.NdCat + next(2)}, []branch{grown(next, first), grown(next, n-1-first)}}
}

// mixed is a text of some letters, by what next tells.
func mixed(next func(int) int, n int) string {
	var p strings.Builder
	for range n {
		p.WriteByte("aaabbbc\x00\x80\xff"[next(10)])
	}
	return p.String()
}

// TestMixedTrees holds trees of up to 60 nodes against the model, and against texts.
func TestMixedTrees(t *testing.T) { // P7.1 to P7.4
	next := generator()
	kinds := map[string]int{}
	for range 5000 {
		b := grown(next, 1+next(60))
		l := b.list()
		againstModel(t, l)
		f, _ := Of(l)
		s := wantAllThatFits(t, b, f, []string{"", mixed(next, 1+next(4)), mixed(next, 12)})
		switch {
		case f.Never:
			kinds["never"]++
		case f.Most == -1:
			kinds["without bound"]++
		case f.Most == 0:
			kinds["empty"]++
		default:
			kinds["bounded"]++
		}
		if s.most > 0 {
			kinds["that fit"]++
		}
	}
	for _, kind := range []string{"never", "without bound", "empty", "bounded", "that fit"} {
		if kinds[kind] < 50 {
			t.Errorf("only %d %s", kinds[kind], kind)
		}
	}
}

// TestGreatTrees holds trees of 512 nodes against the model, and against a text of some length.
func TestGreatTrees(t *testing.T) { // P7.1 to P7.4
	next := generator()
	fit := 0
	for range 100 {
		b := grown(next, 512)
		l := b.list()
		againstModel(t, l)
		f, _ := Of(l)
		if s := wantAllThatFits(t, b, f, []string{mixed(next, 24)}); s.most >= 0 {
			fit++
		}
		wantNone(t, append(l, api.Node{Kind: api.NdRep}))
	}
	if fit < 10 {
		t.Errorf("only %d fit anything", fit)
	}
}

// TestRepeatsWithinRepeats holds all pairs of some repeats against the model, with all that is told apart within them.
func TestRepeatsWithinRepeats(t *testing.T) { // P7.1, P7.3
	bounds := [][2]int{{0, 0}, {0, -1}, {0, 1}, {0, 32}, {1, -1}, {1, 1}, {1, 2}, {2, 2}, {3, 7}, {31, 32}, {32, 32}, {32, -1}}
	for _, p := range []string{"[]", "()", "^", "a", "ab?", "a?", "a*", "aa+", "a[]|()"} {
		for _, x := range bounds {
			for _, y := range bounds {
				for _, z := range bounds {
					againstModel(t, rep(rep(rep(of(t, p), x[0], x[1]), y[0], y[1]), z[0], z[1]))
				}
			}
		}
	}
}

// TestGreatestLengths: a text of 2^20 bytes, and what fits all of it.
func TestGreatestLengths(t *testing.T) { // P7.4
	for _, l := range [][]api.Node{
		times(set("a"), limit),
		rep(times(set("a"), limit-1), 1, 2),
		rep(tower(set("a"), 5, 32, 32), 0, -1),
		tower(set("a"), 5, 0, 32),
		tower(set("a"), 4, 31, 32),
		cat(times(set("a"), limit-1), rep(set("a"), 0, 3)),
		cat(rep(times(set("a"), limit), 0, 1), times(rep(set("a"), 0, 1), limit)),
		rep(set("a"), 32, -1),
	} {
		f, e := Of(l)
		if !Can(f, limit) || f.First != bytesOf("a") || e != api.OK {
			t.Errorf("%s: %+v, %d", brief(l), f, e)
		}
	}
}

// TestRawLists: any numbers end without a panic, and what is no tree is ErrForm.
func TestRawLists(t *testing.T) { // P1, rule 5
	next := generator()
	numbers := []int{0, 0, 0, 1, 2, 3, 4, 5, 6, 7, 1, 5, 6, 7, 8, -1, -1, 32, 33, math.MinInt, math.MaxInt}
	made := 0
	for range 100000 {
		l := make([]api.Node, next(9))
		for i := range l {
			l[i].Kind = numbers[3+next(11+next(2)*next(8))]
			if l[i].Kind == api.NdRep || next(20) == 0 {
				l[i].Lo, l[i].Hi = numbers[next(8)], numbers[next(21)]
			}
			if l[i].Kind == api.NdSet || next(20) == 0 {
				l[i].Set = api.Set{0, uint64(next(1 << 20))}
			}
		}
		if tree.Right(l) {
			made++
			againstModel(t, l)
		} else {
			wantNone(t, l)
		}
		f := api.Facts{Never: next(2) == 0, Least: numbers[next(21)], Most: numbers[next(21)]}
		n := numbers[next(21)]
		if want := !f.Never && n >= f.Least && (n <= f.Most || f.Most < 0); Can(f, n) != want {
			t.Errorf("Can(%+v, %d) is not %v", f, n, want)
		}
	}
	if made < 2000 {
		t.Errorf("only %d were made", made)
	}
}
