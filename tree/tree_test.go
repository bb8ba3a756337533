package tree

import (
	"math"
	"slices"
	"testing"

	"tatting/api"
)

func set(bits uint64) api.Node { return api.Node{Kind: api.NdSet, Set: api.Set{bits}} }

func rep(lo, hi int) api.Node { return api.Node{Kind: api.NdRep, Lo: lo, Hi: hi} }

func of(kind int) api.Node { return api.Node{Kind: kind} }

// list has a node of each kind, with nothing in its fields: for that is right in all kinds.
func list(kinds ...int) []api.Node {
	var l []api.Node
	for _, k := range kinds {
		l = append(l, of(k))
	}
	return l
}

// arity is how many arguments each kind has, written out apart from the package.
func arity() map[int]int {
	return map[int]int{api.NdSet: 0, api.NdEmpty: 0, api.NdBegin: 0, api.NdEnd: 0, api.NdCat: 2, api.NdOr: 2, api.NdRep: 1}
}

// noKinds are kinds that are none.
func noKinds() []int {
	return []int{0, 8, 9, -1, -7, 255, 256 + api.NdSet, 1<<32 + api.NdCat, math.MaxInt, math.MinInt}
}

// wantTree asks whether a list is a tree, and how deep it is.
func wantTree(t *testing.T, l []api.Node, depth int) {
	t.Helper()
	if !Right(l) {
		t.Errorf("no tree: %v", l)
	}
	if d := Depth(l); d != depth {
		t.Errorf("Depth %d, not %d: %v", d, depth, l)
	}
}

// wantNone asks that a list is no tree.
func wantNone(t *testing.T, l []api.Node) {
	t.Helper()
	if Right(l) {
		t.Errorf("a tree: %v", l)
	}
	if d := Depth(l); d != 0 {
		t.Errorf("Depth of no tree is %d: %v", d, l)
	}
}

// wantPart asks for what is told of node i.
func wantPart(t *testing.T, l []api.Node, i, first int, kids ...int) {
	t.Helper()
	if f := First(l, i); f != first {
		t.Errorf("First(%d) is %d, not %d: %v", i, f, first, l)
	}
	if k := Kids(l, i); !slices.Equal(k, kids) {
		t.Errorf("Kids(%d) are %v, not %v: %v", i, k, kids, l)
	}
	var part []api.Node
	if first >= 0 {
		part = l[first : i+1]
	}
	if p := Part(l, i); !slices.Equal(p, part) {
		t.Errorf("Part(%d) is %v, not %v: %v", i, p, part, l)
	}
}

// wantNowhere asks that there is no part whose last node is i.
func wantNowhere(t *testing.T, l []api.Node, i int) {
	t.Helper()
	wantPart(t, l, i, -1)
}

func TestArgs(t *testing.T) { // P4.1
	if len(arity()) != 7 {
		t.Fatalf("%d kinds", len(arity()))
	}
	for kind, n := range arity() {
		if a := Args(kind); a != n {
			t.Errorf("Args(%d) is %d, not %d", kind, a, n)
		}
	}
	for kind := -300; kind <= 300; kind++ {
		if a := Args(kind); (kind < 1 || kind > 7) && a != -1 {
			t.Errorf("Args(%d) is %d", kind, a)
		}
	}
	for _, kind := range noKinds() {
		if a := Args(kind); a != -1 {
			t.Errorf("Args(%d) is %d", kind, a)
		}
	}
}

func TestEmptyList(t *testing.T) { // P4.1 to P4.3
	for _, l := range [][]api.Node{nil, {}} {
		wantNone(t, l)
		for _, i := range []int{math.MinInt, -2, -1, 0, 1, math.MaxInt} {
			wantNowhere(t, l, i)
		}
	}
}

func TestEachKindAlone(t *testing.T) { // P4.1 to P4.3
	for kind, n := range arity() {
		l := list(kind)
		if n > 0 {
			wantNone(t, l)
			wantNowhere(t, l, 0)
			continue
		}
		wantTree(t, l, 1)
		wantPart(t, l, 0, 0)
	}
	for _, kind := range noKinds() {
		wantNone(t, list(kind))
		wantNowhere(t, list(kind), 0)
	}
}

func TestEachKindWithArguments(t *testing.T) { // P4.1 to P4.3
	for kind, n := range arity() {
		for have := range 5 {
			l := append(slices.Repeat(list(api.NdEmpty), have), of(kind))
			switch {
			case have == n && n == 0:
				wantTree(t, l, 1)
			case have == n:
				wantTree(t, l, 2)
			default:
				wantNone(t, l)
			}
			switch {
			case have < n:
				wantNowhere(t, l, have)
			case n == 0:
				wantPart(t, l, have, have)
			case n == 1:
				wantPart(t, l, have, have-1, have-1)
			case n == 2:
				wantPart(t, l, have, have-2, have-2, have-1)
			}
		}
	}
}

func TestNoKinds(t *testing.T) { // P4.1 to P4.3
	for _, kind := range noKinds() {
		for have := range 4 {
			l := append(slices.Repeat(list(api.NdEmpty), have), of(kind))
			wantNone(t, l)
			wantNowhere(t, l, have)
		}
		// Ahead of a tree, and within it.
		wantNone(t, list(kind, api.NdSet))
		wantNone(t, list(kind, api.NdSet, api.NdRep))
		wantNone(t, list(api.NdSet, kind, api.NdSet, api.NdCat))
		wantNone(t, list(api.NdSet, api.NdSet, kind, api.NdCat))
		wantNone(t, list(api.NdSet, kind, api.NdRep))
		wantNone(t, list(api.NdSet, api.NdRep, kind))
	}
}

func TestArgumentsThatAreNotAllThere(t *testing.T) { // P4.1, P4.2
	for _, l := range [][]api.Node{
		list(api.NdRep),
		list(api.NdCat),
		list(api.NdOr),
		list(api.NdSet, api.NdCat),
		list(api.NdSet, api.NdOr),
		list(api.NdSet, api.NdSet, api.NdCat, api.NdCat),
		list(api.NdSet, api.NdRep, api.NdCat),
		list(api.NdSet, api.NdRep, api.NdOr),
		list(api.NdSet, api.NdEmpty, api.NdOr, api.NdOr),
		list(api.NdRep, api.NdSet, api.NdCat),
		list(api.NdRep, api.NdSet, api.NdSet, api.NdCat, api.NdCat),
		list(api.NdSet, api.NdCat, api.NdSet, api.NdCat),
	} {
		wantNone(t, l)
		wantNowhere(t, l, len(l)-1)
	}
	// A node that lacks an argument is there, though what follows would do for it.
	wantNone(t, list(api.NdRep, api.NdSet))
	wantNone(t, list(api.NdCat, api.NdSet, api.NdSet))
	wantNone(t, list(api.NdSet, api.NdCat, api.NdSet))
	wantNone(t, list(api.NdSet, api.NdOr, api.NdSet))
}

func TestSeveralThatAreNobodysArgument(t *testing.T) { // P4.1, P4.2
	for _, l := range [][]api.Node{
		list(api.NdSet, api.NdSet),
		list(api.NdEmpty, api.NdEmpty),
		list(api.NdBegin, api.NdEnd),
		list(api.NdSet, api.NdSet, api.NdSet, api.NdCat),
		list(api.NdSet, api.NdSet, api.NdCat, api.NdSet),
		list(api.NdSet, api.NdSet, api.NdRep),
		list(api.NdSet, api.NdRep, api.NdSet),
		list(api.NdSet, api.NdRep, api.NdSet, api.NdRep),
		list(api.NdSet, api.NdSet, api.NdOr, api.NdSet, api.NdSet, api.NdCat),
		slices.Repeat(list(api.NdSet), 512),
	} {
		wantNone(t, l)
		if First(l, len(l)-1) <= 0 {
			t.Errorf("First of the last one is %d: %v", First(l, len(l)-1), l)
		}
	}
}

// TestSetOfOtherKinds puts each bit into the set of a node that has none.
func TestSetOfOtherKinds(t *testing.T) { // P4.1
	l := list(api.NdBegin, api.NdSet, api.NdRep, api.NdCat, api.NdEmpty, api.NdOr, api.NdEnd, api.NdCat)
	wantTree(t, l, 5)
	for i := range l {
		for b := range 256 {
			bad := slices.Clone(l)
			bad[i].Set[b/64] = 1 << (b % 64)
			if bad[i].Kind == api.NdSet {
				wantTree(t, bad, 5)
			} else {
				wantNone(t, bad)
			}
		}
	}
	for kind := range arity() {
		n := api.Node{Kind: kind, Set: api.Set{1, 2, 4, 8}}
		l := append(slices.Repeat(list(api.NdEmpty), arity()[kind]), n)
		if Right(l) != (kind == api.NdSet) {
			t.Errorf("kind %d with a set: %v", kind, Right(l))
		}
	}
	wantTree(t, []api.Node{{Kind: api.NdSet, Set: api.Set{math.MaxUint64, math.MaxUint64, math.MaxUint64, math.MaxUint64}}}, 1)
}

// TestBoundsOfOtherKinds puts numbers into the Lo and Hi of a node that has none.
func TestBoundsOfOtherKinds(t *testing.T) { // P4.1
	l := list(api.NdBegin, api.NdSet, api.NdCat, api.NdEmpty, api.NdOr, api.NdEnd, api.NdCat)
	wantTree(t, l, 4)
	for i := range l {
		for _, x := range []int{-33, -2, -1, 1, 2, 32, 33, math.MinInt, math.MaxInt} {
			for _, b := range [][2]int{{x, 0}, {0, x}, {x, x}, {x, -1}, {x, -x}} {
				bad := slices.Clone(l)
				bad[i].Lo, bad[i].Hi = b[0], b[1]
				wantNone(t, bad)
			}
		}
	}
}

func TestBoundsOfRepeats(t *testing.T) { // P4.1
	for lo := -3; lo <= 36; lo++ {
		for hi := -3; hi <= 36; hi++ {
			l := []api.Node{set(1), rep(lo, hi), of(api.NdRep)}
			if 0 <= lo && lo <= 32 && (hi == -1 || lo <= hi && hi <= 32) {
				wantTree(t, l, 3)
			} else {
				wantNone(t, l)
			}
		}
	}
	for _, b := range [][2]int{
		{-1, -1}, {-1, 0}, {33, -1}, {33, 33}, {33, 34}, {0, 33}, {32, 33}, {0, -2}, {1, 0}, {32, 31}, {5, 4}, {32, 0},
		{math.MinInt, -1}, {math.MinInt, math.MinInt}, {math.MaxInt, -1}, {math.MaxInt, math.MaxInt}, {0, math.MaxInt}, {0, math.MinInt}, {1 << 32, 1 << 32}, {0, 1 << 32},
	} {
		wantNone(t, []api.Node{set(1), rep(b[0], b[1])})
	}
	for _, b := range [][2]int{{0, -1}, {1, -1}, {32, -1}, {0, 0}, {0, 1}, {0, 32}, {32, 32}, {31, 32}, {7, 7}} {
		wantTree(t, []api.Node{set(1), rep(b[0], b[1])}, 2)
	}
}

// tall is a set and repeats about it, n nodes in all: no tree of n nodes is deeper.
func tall(n int) []api.Node {
	return append([]api.Node{set(1)}, slices.Repeat([]api.Node{rep(2, 5)}, n-1)...)
}

// leaning has n nodes, an odd number: each one of two arguments has a leaf as its second one.
func leaning(n int) []api.Node {
	return append(list(api.NdSet), slices.Repeat(list(api.NdSet, api.NdCat), n/2)...)
}

// heaped has n nodes, an odd number: each one of two arguments has a leaf as its first one.
func heaped(n int) []api.Node {
	return append(slices.Repeat(list(api.NdSet), n/2+1), slices.Repeat(list(api.NdOr), n/2)...)
}

func TestMostNodes(t *testing.T) { // P4.1, P4.3
	for _, n := range []int{1, 2, 3, 510, 511, 512} {
		wantTree(t, tall(n), n)
	}
	for _, n := range []int{513, 514, 1000, 1 << 20} {
		wantNone(t, tall(n))
	}
	for _, n := range []int{1, 3, 5, 509, 511} {
		wantTree(t, leaning(n), n/2+1)
		wantTree(t, heaped(n), n/2+1)
		wantTree(t, append(leaning(n), rep(0, -1)), n/2+2)
		wantTree(t, append(heaped(n), rep(0, -1)), n/2+2)
	}
	for _, n := range []int{513, 515, 1001} {
		wantNone(t, leaning(n))
		wantNone(t, heaped(n))
	}
	wantNone(t, append(leaning(511), rep(0, 1), rep(0, 1)))
}

// TestPartsOfLongLists: the bound of a tree is none of lists that are asked for parts.
func TestPartsOfLongLists(t *testing.T) { // P4.2
	for _, n := range []int{511, 513, 1001} {
		for _, i := range []int{2, 510, n - 1} {
			wantPart(t, leaning(n), i, 0, i-2, i-1)
		}
		wantPart(t, heaped(n), n-1, 0, 0, n-2)
		wantPart(t, heaped(n), n-2, 1, 1, n-3)
		wantPart(t, heaped(n), n/2, n/2)
	}
	for _, n := range []int{512, 513, 1 << 20} {
		wantPart(t, tall(n), n-1, 0, n-2)
		wantPart(t, tall(n)[1:], 0, -1)
		wantNowhere(t, tall(n)[1:], n-2)
		wantNowhere(t, slices.Repeat(list(api.NdCat), n), n-1)
		wantPart(t, slices.Repeat(list(api.NdSet), n), n-1, n-1)
	}
}

func TestNodesThatAreNotThere(t *testing.T) { // P4.2
	for _, l := range [][]api.Node{
		list(api.NdSet),
		list(api.NdSet, api.NdSet, api.NdCat),
		list(api.NdSet, api.NdSet),
		list(api.NdCat, api.NdRep),
		list(0, 8),
		tall(512),
		tall(513),
	} {
		n := len(l)
		for _, i := range []int{-1, -2, -n, -n - 1, math.MinInt, math.MinInt + 1, n, n + 1, 2 * n, 1 << 32, math.MaxInt - 1, math.MaxInt} {
			wantNowhere(t, l, i)
		}
	}
	// What stands behind the list in the same memory is no node of it.
	whole := list(api.NdSet, api.NdSet, api.NdCat, api.NdEnd)
	wantNowhere(t, whole[:2], 2)
	wantNowhere(t, whole[:3], 3)
	wantNowhere(t, whole[:0], 0)
	// Nor what stands ahead of it.
	wantNowhere(t, whole[1:3], 1)
	wantNowhere(t, whole[2:3], 0)
	wantPart(t, whole[1:], 2, 2)
}

func TestBehindAKindThatIsNone(t *testing.T) { // P4.2
	for _, kind := range noKinds() {
		l := list(kind, api.NdSet, api.NdRep, api.NdCat, api.NdOr, api.NdSet, api.NdRep)
		wantNowhere(t, l, 0)
		wantPart(t, l, 1, 1)
		wantPart(t, l, 2, 1, 1) // all arguments are there ahead of the kind that is none
		wantNowhere(t, l, 3)
		wantNowhere(t, l, 4)
		wantPart(t, l, 5, 5)
		wantPart(t, l, 6, 5, 5)

		l = list(api.NdSet, api.NdSet, kind, api.NdRep, api.NdSet, api.NdCat, api.NdSet, api.NdSet, api.NdOr)
		wantPart(t, l, 1, 1)
		wantNowhere(t, l, 2)
		wantNowhere(t, l, 3)
		wantPart(t, l, 4, 4)
		wantNowhere(t, l, 5)
		wantPart(t, l, 8, 6, 6, 7)
	}
}

func TestWhereTheListEnds(t *testing.T) { // P4.2
	l := list(api.NdSet, api.NdCat, api.NdRep, api.NdSet, api.NdOr, api.NdEmpty, api.NdEnd, api.NdCat, api.NdRep)
	wantPart(t, l, 0, 0)
	wantNowhere(t, l, 1)
	wantNowhere(t, l, 2)
	wantPart(t, l, 3, 3)
	wantNowhere(t, l, 4)
	wantPart(t, l, 5, 5)
	wantPart(t, l, 6, 6)
	wantPart(t, l, 7, 5, 5, 6)
	wantPart(t, l, 8, 5, 7)
}

// TestPartsOfNoTrees: no field but Kind counts where parts are asked for.
func TestPartsOfNoTrees(t *testing.T) { // P4.2
	l := []api.Node{
		{Kind: api.NdEmpty, Set: api.Set{1, 2, 3, 4}, Lo: 7, Hi: -9},
		{Kind: api.NdSet, Lo: math.MinInt, Hi: math.MaxInt},
		{Kind: api.NdRep, Set: api.Set{5}, Lo: 40, Hi: 3},
		{Kind: api.NdCat, Set: api.Set{0, 0, 0, 1}, Lo: -1, Hi: -1},
		{Kind: api.NdEnd},
		{Kind: api.NdOr, Lo: 1},
		{Kind: api.NdBegin},
	}
	wantNone(t, l)
	wantPart(t, l, 0, 0)
	wantPart(t, l, 1, 1)
	wantPart(t, l, 2, 1, 1)
	wantPart(t, l, 3, 0, 0, 2)
	wantPart(t, l, 4, 4)
	wantPart(t, l, 5, 0, 3, 4)
	wantPart(t, l, 6, 6)
	wantNone(t, Part(l, 3))
	wantTree(t, Part(l, 4), 1)
}

func TestDepth(t *testing.T) { // P4.3
	for _, x := range []struct {
		l     []api.Node
		depth int
	}{
		{[]api.Node{set(1)}, 1},
		{[]api.Node{set(1), set(2), of(api.NdCat)}, 2},
		{[]api.Node{set(1), rep(0, -1)}, 2},
		{list(api.NdSet, api.NdRep, api.NdSet, api.NdCat), 3},
		{list(api.NdSet, api.NdSet, api.NdRep, api.NdCat), 3},
		{list(api.NdSet, api.NdRep, api.NdSet, api.NdRep, api.NdOr), 3},
		{list(api.NdSet, api.NdRep, api.NdRep, api.NdSet, api.NdRep, api.NdOr), 4},
		{list(api.NdSet, api.NdRep, api.NdSet, api.NdRep, api.NdRep, api.NdOr), 4},
		{list(api.NdSet, api.NdSet, api.NdSet, api.NdSet, api.NdCat, api.NdCat, api.NdCat), 4},
		{list(api.NdSet, api.NdSet, api.NdCat, api.NdSet, api.NdSet, api.NdCat, api.NdCat), 3},
		{list(api.NdSet, api.NdSet, api.NdCat, api.NdSet, api.NdCat, api.NdSet, api.NdCat), 4},
		{append(append(tall(200), tall(100)...), of(api.NdCat)), 201},
		{append(append(tall(100), tall(200)...), of(api.NdOr)), 201},
		{append(append(tall(255), tall(255)...), of(api.NdOr), rep(0, 1)), 257},
	} {
		wantTree(t, x.l, x.depth)
	}
}

// branch is a tree by its shape, apart from any list.
type branch struct {
	node api.Node
	args []*branch
}

// shape is a tree of just n nodes, by what next tells.
func shape(n int, next func(int) int) *branch {
	if n == 1 {
		return &branch{node: []api.Node{set(uint64(next(9))), of(api.NdEmpty), of(api.NdBegin), of(api.NdEnd)}[next(4)]}
	}
	if n == 2 || next(4) == 0 {
		lo := next(33)
		hi := lo + next(33-lo)
		if next(3) == 0 {
			hi = -1
		}
		return &branch{rep(lo, hi), []*branch{shape(n-1, next)}}
	}
	first := 1 + next(n-2)
	return &branch{of(api.NdCat + next(2)), []*branch{shape(first, next), shape(n-1-first, next)}}
}

// told is what is asked of a branch's last node in a list.
type told struct {
	first int
	kids  []int
}

// lay lays a branch behind a list, with what is to be told of each node, and says how deep the branch is.
func lay(b *branch, l *[]api.Node, tells *[]told) int {
	x := told{first: len(*l)}
	deep := 0
	for _, a := range b.args {
		deep = max(deep, lay(a, l, tells))
		x.kids = append(x.kids, len(*l)-1)
	}
	*l = append(*l, b.node)
	*tells = append(*tells, x)
	return deep + 1
}

// generator tells numbers from 0 to below n, always the same ones.
func generator() func(n int) int {
	x := uint32(5)
	return func(n int) int {
		x = x*1664525 + 1013904223
		return int(x>>8) % n
	}
}

func TestTreesByTheirShapes(t *testing.T) { // P4.1 to P4.4
	next := generator()
	for range 3000 {
		var l []api.Node
		var tells []told
		deep := lay(shape(1+next(60), next), &l, &tells)
		wantTree(t, l, deep)
		for i, x := range tells {
			wantPart(t, l, i, x.first, x.kids...)
			wantPartIsATree(t, l, i)
		}
		// With one node more behind it it is no tree any more, but its root's part is one still.
		root := len(l) - 1
		l = append(l, set(1))
		wantNone(t, l)
		wantPart(t, l, root, 0, tells[root].kids...)
	}
}

func TestGreatTreesByTheirShapes(t *testing.T) { // P4.1 to P4.4
	next := generator()
	for range 20 {
		var l []api.Node
		var tells []told
		deep := lay(shape(512, next), &l, &tells)
		wantTree(t, l, deep)
		for i, x := range tells {
			wantPart(t, l, i, x.first, x.kids...)
			wantPartIsATree(t, l, i)
		}
		wantNone(t, append(l, rep(0, 1)))
	}
}

// wantPartIsATree asks that the part of a tree's node i, alone, is a tree, and that it has as many nodes as its arguments and it.
func wantPartIsATree(t *testing.T, l []api.Node, i int) {
	t.Helper()
	part := Part(l, i)
	if !Right(part) {
		t.Errorf("Part(%d) is no tree: %v", i, l)
	}
	n, deep := 1, 0
	for _, k := range Kids(l, i) {
		n += len(Part(l, k))
		deep = max(deep, Depth(Part(l, k)))
	}
	if n != len(part) {
		t.Errorf("node %d and its arguments have %d nodes, its part %d: %v", i, n, len(part), l)
	}
	if Depth(part) != deep+1 {
		t.Errorf("Part(%d) is %d deep, its arguments %d: %v", i, Depth(part), deep, l)
	}
}

// back is where the part of node i begins, by what the chapter says of one argument behind the other; -1: nowhere.
func back(l []api.Node, i int) int {
	if i < 0 || i >= len(l) {
		return -1
	}
	n, ok := arity()[l[i].Kind]
	if !ok {
		return -1
	}
	first := i
	for range n {
		if first = back(l, first-1); first < 0 {
			return -1
		}
	}
	return first
}

// owners is how often each node is an argument, if each node's arguments are all there.
func owners(l []api.Node) ([]int, bool) {
	count := make([]int, len(l))
	for i := range l {
		first := back(l, i)
		if first < 0 {
			return nil, false
		}
		for at := i - 1; at >= first; at = back(l, at) - 1 {
			count[at]++
		}
	}
	return count, true
}

// lone says whether each node's arguments are there, and the last node is the only one that is nobody's argument.
func lone(l []api.Node) bool {
	count, ok := owners(l)
	if !ok || len(l) == 0 {
		return false
	}
	for i, n := range count {
		if (n == 0) != (i == len(l)-1) {
			return false
		}
	}
	return true
}

// allLists tells f all lists of some kinds with at most n nodes.
func allLists(kinds []int, n int, f func(l []api.Node)) {
	var grow func(l []api.Node)
	grow = func(l []api.Node) {
		f(l)
		if len(l) == n {
			return
		}
		for _, k := range kinds {
			grow(append(slices.Clip(l), of(k)))
		}
	}
	grow(nil)
}

// TestAllShortLists holds all lists of few nodes against what the chapter says of each node.
func TestAllShortLists(t *testing.T) { // P4.1, P4.2, P4.4
	trees, others := 0, 0
	allLists([]int{api.NdSet, api.NdRep, api.NdCat, api.NdOr, 0}, 6, func(l []api.Node) {
		if lone(l) != Right(l) {
			t.Errorf("Right is %v: %v", Right(l), l)
		}
		for i := -1; i <= len(l); i++ {
			first := back(l, i)
			var kids []int
			for at := i - 1; first >= 0 && at >= first; at = back(l, at) - 1 {
				kids = append([]int{at}, kids...)
			}
			wantPart(t, l, i, first, kids...)
		}
		if !Right(l) {
			others++
			wantNone(t, l)
			return
		}
		trees++
		for i := range l {
			wantPartIsATree(t, l, i)
		}
	})
	if trees < 50 || others < 10000 {
		t.Errorf("%d trees, %d others", trees, others)
	}
}

func TestWhatIsHandedInStays(t *testing.T) { // P2, rule 4
	for _, l := range [][]api.Node{leaning(21), tall(20), heaped(9), list(api.NdSet, 0, api.NdCat), append(leaning(5), set(3))} {
		l = slices.Grow(l, 10) // room behind the list, in which nothing must be put
		room := l[:cap(l)]
		keep := slices.Clone(room)
		Right(l)
		Depth(l)
		for i := -1; i <= len(l); i++ {
			First(l, i)
			kids := Kids(l, i)
			part := Part(l, i)
			for k := range kids {
				kids[k] = -5
			}
			for k := range part {
				part[k] = rep(9, 9)
			}
			_ = append(part, rep(8, 8))
			if !slices.Equal(room, keep) {
				t.Fatalf("node %d: the list is %v, was %v", i, room, keep)
			}
		}
	}
}

func TestAnswersAreNew(t *testing.T) { // P2, rule 4
	l := list(api.NdSet, api.NdSet, api.NdCat)
	part, kids := Part(l, 2), Kids(l, 2)
	for i := range part {
		part[i] = rep(9, 9)
	}
	for i := range kids {
		kids[i] = -5
	}
	wantPart(t, l, 2, 0, 0, 1)
	part = Part(l, 2)
	l[1] = rep(7, 7)
	if part[1] != of(api.NdSet) {
		t.Errorf("the part goes with the list: %v", part)
	}
}

func TestAnyListsEndWithoutAPanic(t *testing.T) { // P1
	next := generator()
	for range 20000 {
		l := make([]api.Node, next(12))
		for i := range l {
			l[i].Kind = next(10) - 1
			if next(6) == 0 {
				l[i] = api.Node{Kind: next(10) - 1, Set: api.Set{uint64(next(2))}, Lo: next(36) - 2, Hi: next(36) - 2}
			}
		}
		i := next(len(l)+4) - 2
		if f := First(l, i); f != back(l, i) {
			t.Errorf("First(%d) is %d, not %d: %v", i, f, back(l, i), l)
		}
		if Right(l) && !lone(l) {
			t.Errorf("a tree: %v", l)
		}
		Kids(l, i)
		Part(l, i)
		Depth(l)
	}
}

func TestExample(t *testing.T) { // the chapter's example
	l := []api.Node{set(1), set(2), of(api.NdCat)}
	wantTree(t, l, 2)
	wantPart(t, l, 2, 0, 0, 1)
}
