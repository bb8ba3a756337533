package facts

import (
	"math"
	"slices"
	"strings"
	"testing"

	"tatting/api"
	"tatting/parse"
	"tatting/tree"
)

const limit = 1048576 // 2^20, written out apart from the package

// bytesOf is the set of a text's bytes, told bit by bit.
func bytesOf(text string) api.Set {
	var s api.Set
	for _, b := range []byte(text) {
		s[b/64] |= uint64(1) << (b % 64)
	}
	return s
}

// full is the set of all bytes.
func full() api.Set {
	return api.Set{math.MaxUint64, math.MaxUint64, math.MaxUint64, math.MaxUint64}
}

func set(text string) []api.Node { return []api.Node{{Kind: api.NdSet, Set: bytesOf(text)}} }

func leaf(kind int) []api.Node { return []api.Node{{Kind: kind}} }

func cat(a, b []api.Node) []api.Node { return slices.Concat(a, b, leaf(api.NdCat)) }

func or(a, b []api.Node) []api.Node { return slices.Concat(a, b, leaf(api.NdOr)) }

func rep(a []api.Node, lo, hi int) []api.Node {
	return append(slices.Clone(a), api.Node{Kind: api.NdRep, Lo: lo, Hi: hi})
}

// tower is a tree within some repeats, all alike.
func tower(a []api.Node, n, lo, hi int) []api.Node {
	return append(slices.Clone(a), slices.Repeat([]api.Node{{Kind: api.NdRep, Lo: lo, Hi: hi}}, n)...)
}

// times is a tree that comes just n times, one behind the other.
func times(a []api.Node, n int) []api.Node {
	if n <= 32 {
		return rep(a, n, n)
	}
	l := rep(times(a, n/32), 32, 32)
	if n%32 > 0 {
		l = cat(l, rep(a, n%32, n%32))
	}
	return l
}

// of is the tree of a pattern.
func of(t *testing.T, p string) []api.Node {
	t.Helper()
	l, at, e := parse.Pattern(p)
	if e != api.OK {
		t.Fatalf("%s is wrong at %d: %d", p, at, e)
	}
	return l
}

func some(least, most int, first string) api.Facts {
	return api.Facts{Least: least, Most: most, First: bytesOf(first)}
}

func ends(f api.Facts) api.Facts {
	f.Ends = true
	return f
}

func never() api.Facts { return api.Facts{Never: true} }

func wantFacts(t *testing.T, l []api.Node, want api.Facts) {
	t.Helper()
	if f, e := Of(l); f != want || e != api.OK {
		t.Errorf("Of(%s): %+v, %d; not %+v", brief(l), f, e, want)
	}
}

func wantSize(t *testing.T, l []api.Node, want int) {
	t.Helper()
	if n := Size(l); n != want {
		t.Errorf("Size(%s): %d; not %d", brief(l), n, want)
	}
}

// wantNone asks for what is told of a list that is no tree.
func wantNone(t *testing.T, l []api.Node) {
	t.Helper()
	if f, e := Of(l); f != (api.Facts{}) || e != api.ErrForm {
		t.Errorf("Of(%s): %+v, %d; not ErrForm alone", brief(l), f, e)
	}
	wantSize(t, l, -1)
}

func TestEachKindAlone(t *testing.T) { // P7.1, P7.3
	for _, x := range []struct {
		l []api.Node
		f api.Facts
	}{
		{set(""), never()},
		{set("a"), some(1, 1, "a")},
		{set("\x00"), some(1, 1, "\x00")},
		{set("\xff"), some(1, 1, "\xff")},
		{set("az"), some(1, 1, "az")},
		{set("\x00\x3f\x40\x7f\x80\xbf\xc0\xff"), some(1, 1, "\x00\x3f\x40\x7f\x80\xbf\xc0\xff")},
		{[]api.Node{{Kind: api.NdSet, Set: full()}}, api.Facts{Least: 1, Most: 1, First: full()}},
		{leaf(api.NdEmpty), some(0, 0, "")},
		{leaf(api.NdBegin), ends(some(0, 0, ""))},
		{leaf(api.NdEnd), ends(some(0, 0, ""))},
	} {
		wantFacts(t, x.l, x.f)
		wantSize(t, x.l, 2)
	}
	for b := range 256 {
		s := string([]byte{byte(b)})
		wantFacts(t, set(s), some(1, 1, s))
	}
}

// TestCatOfEachTwo has pairs of: nothing, 1 to 2 bytes, 0 to 1, 0 and more, 2 and more; and each of them with what never fits.
func TestCatOfEachTwo(t *testing.T) { // P7.1: NdCat
	parts := []string{"()", "ab?", "c?", "d*", "ff+"}
	for i, row := range [][]api.Facts{
		{some(0, 0, ""), some(1, 2, "a"), some(0, 1, "c"), some(0, -1, "d"), some(2, -1, "f")},
		{some(1, 2, "a"), some(2, 4, "a"), some(1, 3, "a"), some(1, -1, "a"), some(3, -1, "a")},
		{some(0, 1, "c"), some(1, 3, "ac"), some(0, 2, "c"), some(0, -1, "cd"), some(2, -1, "cf")},
		{some(0, -1, "d"), some(1, -1, "ad"), some(0, -1, "cd"), some(0, -1, "d"), some(2, -1, "df")},
		{some(2, -1, "f"), some(3, -1, "f"), some(2, -1, "f"), some(2, -1, "f"), some(4, -1, "f")},
	} {
		for k, f := range row {
			wantFacts(t, cat(of(t, parts[i]), of(t, parts[k])), f)
		}
		wantFacts(t, cat(of(t, parts[i]), set("")), never())
		wantFacts(t, cat(set(""), of(t, parts[i])), never())
	}
	wantFacts(t, cat(set(""), set("")), never())
}

// TestOrOfEachTwo has the same pairs.
func TestOrOfEachTwo(t *testing.T) { // P7.1: NdOr
	parts := []string{"()", "ab?", "c?", "d*", "ff+"}
	for i, row := range [][]api.Facts{
		{some(0, 0, ""), some(0, 2, "a"), some(0, 1, "c"), some(0, -1, "d"), some(0, -1, "f")},
		{some(0, 2, "a"), some(1, 2, "a"), some(0, 2, "ac"), some(0, -1, "ad"), some(1, -1, "af")},
		{some(0, 1, "c"), some(0, 2, "ac"), some(0, 1, "c"), some(0, -1, "cd"), some(0, -1, "cf")},
		{some(0, -1, "d"), some(0, -1, "ad"), some(0, -1, "cd"), some(0, -1, "d"), some(0, -1, "df")},
		{some(0, -1, "f"), some(1, -1, "af"), some(0, -1, "cf"), some(0, -1, "df"), some(2, -1, "f")},
	} {
		for k, f := range row {
			wantFacts(t, or(of(t, parts[i]), of(t, parts[k])), f)
		}
		wantFacts(t, or(of(t, parts[i]), set("")), row[i])
		wantFacts(t, or(set(""), of(t, parts[i])), row[i])
	}
	wantFacts(t, or(set(""), set("")), never())
}

// TestFirstOfCat: what stands behind counts only where all ahead of it may be empty.
func TestFirstOfCat(t *testing.T) { // P7.1: NdCat
	for _, x := range []struct {
		p     string
		first string
	}{
		{"ab", "a"}, {"a?b", "ab"}, {"a?b?", "ab"}, {"a?b?c", "abc"}, {"a?bc?", "ab"}, {"(a?b)c", "ab"}, {"(ab?)c", "a"}, {"a?(b?c?)", "abc"}, {"a?(bc?)", "ab"}, {"a(b?c?)", "a"},
		{"()a", "a"}, {"a()", "a"}, {"^a", "a"}, {"$a", "a"}, {"^$a?b", "ab"}, {"(a|b*)c", "abc"}, {"(aa|b)c", "ab"}, {"(aa|)c", "ac"}, {"(a{0})b", "b"}, {"[]*a", "a"}, {"a{0,3}b", "ab"}, {"a{1,3}b", "a"}, {"(a?){5}b", "ab"}, {"[ab]?[bc]", "abc"}, {"[ab]?[ab]", "ab"}, {"[ab][cd]", "ab"}, {"[^\\x00-\\xfd]?\\x00", "\x00\xfe\xff"},
	} {
		f, e := Of(of(t, x.p))
		if f.First != bytesOf(x.first) || e != api.OK {
			t.Errorf("First of %s: %x, %d; not %x", x.p, f.First, e, bytesOf(x.first))
		}
	}
}

// TestRepeats has repeats of all parts that the chapter tells apart.
func TestRepeats(t *testing.T) { // P7.1: NdRep
	bounds := [][2]int{{0, 0}, {0, -1}, {0, 1}, {0, 32}, {1, -1}, {1, 1}, {1, 3}, {2, 2}, {2, 5}, {31, 32}, {32, 32}, {32, -1}}
	for _, x := range []struct {
		p    string
		want string // of each of these: from, to, with - for without bound; or x for never
	}{
		{"[]", "0,0 0,0 0,0 0,0 x x x x x x x x"},
		{"a[]", "0,0 0,0 0,0 0,0 x x x x x x x x"},
		{"()", "0,0 0,0 0,0 0,0 0,0 0,0 0,0 0,0 0,0 0,0 0,0 0,0"},
		{"a", "0,0 0,- 0,1 0,32 1,- 1,1 1,3 2,2 2,5 31,32 32,32 32,-"},
		{"ab?", "0,0 0,- 0,2 0,64 1,- 1,2 1,6 2,4 2,10 31,64 32,64 32,-"},
		{"a?", "0,0 0,- 0,1 0,32 0,- 0,1 0,3 0,2 0,5 0,32 0,32 0,-"},
		{"a*", "0,0 0,- 0,- 0,- 0,- 0,- 0,- 0,- 0,- 0,- 0,- 0,-"},
		{"a+", "0,0 0,- 0,- 0,- 1,- 1,- 1,- 2,- 2,- 31,- 32,- 32,-"},
		{"aa+", "0,0 0,- 0,- 0,- 2,- 2,- 2,- 4,- 4,- 62,- 64,- 64,-"},
		{"()()", "0,0 0,0 0,0 0,0 0,0 0,0 0,0 0,0 0,0 0,0 0,0 0,0"},
		{"()|()", "0,0 0,0 0,0 0,0 0,0 0,0 0,0 0,0 0,0 0,0 0,0 0,0"},
		{"a{0}", "0,0 0,0 0,0 0,0 0,0 0,0 0,0 0,0 0,0 0,0 0,0 0,0"},
		{"[]*", "0,0 0,0 0,0 0,0 0,0 0,0 0,0 0,0 0,0 0,0 0,0 0,0"},
		{"[]|()", "0,0 0,0 0,0 0,0 0,0 0,0 0,0 0,0 0,0 0,0 0,0 0,0"},
		{"(()|a{3})", "0,0 0,- 0,3 0,96 0,- 0,3 0,9 0,6 0,15 0,96 0,96 0,-"},
	} {
		for i, want := range strings.Fields(x.want) {
			first := ""
			if want != "0,0" {
				first = "a"
			}
			wantFacts(t, rep(of(t, x.p), bounds[i][0], bounds[i][1]), spoken(want, first))
		}
	}
	for _, p := range []string{"^", "$", "^$", "^|$", "(^)*", "($){0}"} {
		for _, b := range bounds {
			wantFacts(t, rep(of(t, p), b[0], b[1]), ends(some(0, 0, "")))
		}
	}
}

// spoken is what a short word says: from, to; or never.
func spoken(word, first string) api.Facts {
	if word == "x" {
		return never()
	}
	least, most, _ := strings.Cut(word, ",")
	if most == "-" {
		return some(decimal(least), -1, first)
	}
	return some(decimal(least), decimal(most), first)
}

func decimal(digits string) int {
	n := 0
	for _, d := range digits {
		n = 10*n + int(d-'0')
	}
	return n
}

// TestNeverHasNothingElse: wherever it comes from, all else but Ends is zero.
func TestNeverHasNothingElse(t *testing.T) { // P7.1
	for _, p := range []string{"[]", "a[]", "[]a", "a+[]", "[]a+", "(ab|c)+[]", "a{32}{32}{32}{32}{32}[]", "[]|[]", "a[]|[]b", "([]a)+", "(a[]){1}", "[]{32}", "[]{1,}", "[]{2,5}", "([]|[]){1,2}", "([]{1}|a[])b*"} {
		wantFacts(t, of(t, p), never())
	}
	for _, p := range []string{"^[]", "[]$", "a(^[])", "([]^|[])b", "([]$)+", "^*[]", "($){0}[]", "([]^){2}a"} {
		wantFacts(t, of(t, p), ends(never()))
	}
	// It is gone where it need not be.
	wantFacts(t, of(t, "a[]|b"), some(1, 1, "b"))
	wantFacts(t, of(t, "bc|[]a"), some(2, 2, "b"))
	wantFacts(t, of(t, "(a[])?b"), some(1, 1, "b"))
	wantFacts(t, of(t, "(a[])*"), some(0, 0, ""))
	wantFacts(t, of(t, "b(a+[]){0}"), some(1, 1, "b"))
	wantFacts(t, of(t, "([]{0}a)+"), some(1, -1, "a"))
}

func TestEnds(t *testing.T) { // P7.1
	for _, p := range []string{"^", "$", "^a", "a^", "$a", "a$", "a|^", "$|a", "(^)*", "($){0}", "(^){0,0}", "a(b(c|d^)*)", "[]|^", "^|[]", "[]^", "$[]", "([]^){0}", "([]$)*", "(a^b){0}c", "((a|b$)+c){3}", "(^){0}{0}", "(^|a)|b"} {
		if f, e := Of(of(t, p)); !f.Ends || e != api.OK {
			t.Errorf("%s: %+v, %d", p, f, e)
		}
	}
	for _, p := range []string{"", "a", "[]", "\\^", "\\$", "[$]", "[a^]", "a|b", "ab", "a*", "a{0}", "[]a", "(a|)*", "()"} {
		if f, e := Of(of(t, p)); f.Ends || e != api.OK {
			t.Errorf("%s: %+v, %d", p, f, e)
		}
	}
	// One end, in the place of each leaf.
	for _, p := range []string{"(a(b|c)*d|e{0}f[]|g{2,3})+", "[](a|(b|c)){0}(d(e(f)))", "((((a)b|c)d|e)f)?", "a[]|b[]"} {
		l := of(t, p)
		f, _ := Of(l)
		if f.Ends {
			t.Errorf("%s: %+v", p, f)
		}
		for i, n := range l {
			if tree.Args(n.Kind) > 0 {
				continue
			}
			for _, kind := range []int{api.NdBegin, api.NdEnd} {
				l[i] = api.Node{Kind: kind}
				if f, e := Of(l); !f.Ends || e != api.OK {
					t.Errorf("Of(%s): %+v, %d", brief(l), f, e)
				}
			}
			l[i] = n
		}
	}
}

// TestSumsAtTheLimit has sums of two parts just below, at and above 2^20.
func TestSumsAtTheLimit(t *testing.T) { // P7.1: at most 2^20
	a, maybe, b := set("a"), rep(set("a"), 0, 1), set("b")
	for _, total := range []int{limit - 2, limit - 1, limit, limit + 1, limit + 2, limit + 33, 2*limit - 2, 2 * limit} {
		told := min(total, limit)
		for _, second := range []int{1, 2, 31, 32, 33, total / 2} {
			first := total - second
			wantFacts(t, cat(times(a, first), times(b, second)), some(told, told, "a"))
			wantFacts(t, cat(times(a, second), times(b, first)), some(told, told, "a"))
			wantFacts(t, cat(times(maybe, first), times(b, second)), some(second, told, "ab"))
			wantFacts(t, cat(times(b, second), times(maybe, first)), some(second, told, "b"))
			wantFacts(t, cat(times(maybe, first), times(maybe, second)), some(0, told, "a"))
			wantFacts(t, cat(rep(times(a, first), 1, -1), times(b, second)), some(told, -1, "a"))
			wantFacts(t, cat(times(a, first), rep(times(b, second), 1, -1)), some(told, -1, "a"))
		}
		// Of either no sum is made.
		wantFacts(t, or(times(a, total), times(b, total-1)), some(min(total-1, limit), told, "ab"))
		wantFacts(t, or(times(a, 1), times(b, total)), some(1, told, "ab"))
		wantFacts(t, or(times(a, total), rep(times(b, total), 1, -1)), some(told, -1, "ab"))
	}
}

// TestProductsAtTheLimit has products just below, at and above 2^20.
func TestProductsAtTheLimit(t *testing.T) { // P7.1: at most 2^20
	seen := map[int]int{}
	for k := 2; k <= 32; k++ {
		for product := limit - 3; product <= limit+3; product++ {
			if product%k > 0 {
				continue
			}
			seen[product-limit]++
			told := min(product, limit)
			l := times(set("a"), product/k)
			wantFacts(t, rep(l, k, k), some(told, told, "a"))
			wantFacts(t, rep(l, k, -1), some(told, -1, "a"))
			wantFacts(t, rep(l, 0, k), some(0, told, "a"))
			wantFacts(t, rep(l, 1, k), some(product/k, told, "a"))
			wantFacts(t, rep(rep(l, 1, -1), k, k), some(told, -1, "a"))
			wantFacts(t, rep(times(rep(set("a"), 0, 1), product/k), k, -1), some(0, -1, "a"))
			wantFacts(t, rep(times(rep(set("a"), 0, 1), product/k), k, k), some(0, told, "a"))
			// The lesser bound below the limit, the greater one above it.
			most := some(min((k-1)*(product/k), limit), told, "a")
			wantFacts(t, rep(l, k-1, k), most)
		}
	}
	if seen[-1] == 0 || seen[0] != 5 || seen[1] == 0 {
		t.Errorf("products less 2^20: %v", seen)
	}
}

// TestTowers has repeats within repeats, until their products are far above 2^20.
func TestTowers(t *testing.T) { // P7.1, P7.3
	again := func(base, n int) int {
		p := 1
		for range n {
			p = min(p*base, limit)
		}
		return p
	}
	for _, n := range []int{0, 1, 2, 3, 4, 5, 6, 10, 18, 19, 20, 21, 22, 100, 511} {
		wantFacts(t, tower(set("a"), n, 32, 32), some(again(32, n), again(32, n), "a"))
		wantFacts(t, tower(set("a"), n, 2, 2), some(again(2, n), again(2, n), "a"))
		wantFacts(t, tower(set("a"), n, 1, 2), some(1, again(2, n), "a"))
		wantFacts(t, tower(set("a"), n, 2, 3), some(again(2, n), again(3, n), "a"))
		wantFacts(t, tower(set("a"), n, 31, 32), some(again(31, n), again(32, n), "a"))
		wantFacts(t, tower(set("a"), n, 1, 1), some(1, 1, "a"))
		wantFacts(t, tower(rep(set("a"), 1, -1), min(n, 510), 4, 4), some(again(4, min(n, 510)), -1, "a"))
		wantFacts(t, tower(leaf(api.NdEmpty), n, 32, 32), some(0, 0, ""))
		wantFacts(t, tower(leaf(api.NdEmpty), n, 1, -1), some(0, 0, ""))
		wantFacts(t, tower(set(""), n, 32, 32), never())
		wantFacts(t, tower(leaf(api.NdEnd), n, 32, -1), ends(some(0, 0, "")))
		wantSize(t, tower(set("a"), n, 1, 1), 2+2*n)
		wantSize(t, tower(set("a"), n, 0, -1), 2+3*n)
		wantSize(t, tower(set("a"), n, 0, 1), 2+3*n)
	}
	// What was above the limit is handed on as the limit, and comes below it again only where it need not be.
	high := tower(set("a"), 5, 32, 32)
	wantFacts(t, high, some(limit, limit, "a"))
	wantFacts(t, rep(high, 0, 1), some(0, limit, "a"))
	wantFacts(t, rep(high, 0, 0), some(0, 0, ""))
	wantFacts(t, rep(high, 0, -1), some(0, -1, "a"))
	wantFacts(t, rep(high, 1, -1), some(limit, -1, "a"))
	wantFacts(t, or(high, set("b")), some(1, limit, "ab"))
	wantFacts(t, or(high, high), some(limit, limit, "a"))
	wantFacts(t, cat(high, high), some(limit, limit, "a"))
	wantFacts(t, cat(rep(high, 0, 0), set("b")), some(1, 1, "b"))
	wantFacts(t, cat(high, set("")), never())
	wantSize(t, high, limit)
	wantSize(t, rep(high, 0, 0), 2)
	wantSize(t, rep(rep(high, 0, 0), 2, 2), 6)
}

func TestListsThatAreNoTrees(t *testing.T) { // P7.1, P7.3
	a, e := leaf(api.NdSet), leaf(api.NdEmpty)
	for _, l := range [][]api.Node{
		nil, {},
		// An argument too few.
		leaf(api.NdCat), leaf(api.NdOr), leaf(api.NdRep),
		slices.Concat(a, leaf(api.NdCat)), slices.Concat(a, leaf(api.NdOr)), slices.Concat(leaf(api.NdRep), a),
		slices.Concat(a, a, leaf(api.NdCat), leaf(api.NdOr)), slices.Concat(rep(a, 0, 1), leaf(api.NdCat)), slices.Concat(leaf(api.NdCat), a, a),
		slices.Concat(a, leaf(api.NdCat), a), slices.Concat(a, leaf(api.NdOr), a),
		// One too many.
		slices.Concat(a, a), slices.Concat(e, e), slices.Concat(a, cat(a, a)), slices.Concat(cat(a, a), a), slices.Concat(a, rep(a, 0, 1)), slices.Concat(rep(a, 0, 1), a), slices.Concat(leaf(api.NdBegin), leaf(api.NdEnd)), slices.Concat(a, a, or(e, e)),
	} {
		wantNone(t, l)
	}
	for _, kind := range []int{0, 8, 9, -1, -7, 255, 256 + api.NdSet, 1<<32 + api.NdCat, math.MinInt, math.MaxInt} {
		odd := leaf(kind)
		for _, l := range [][]api.Node{odd, slices.Concat(odd, a), slices.Concat(a, odd), slices.Concat(a, a, odd), cat(odd, a), or(a, odd), rep(odd, 0, 1), slices.Concat(a, odd, rep(a, 0, 1))} {
			wantNone(t, l)
		}
	}
	for _, n := range []int{513, 514, 1025, 1 << 18} {
		wantNone(t, tower(set("a"), n-1, 0, 1))
		wantNone(t, slices.Repeat(a, n))
		wantNone(t, slices.Repeat(leaf(api.NdCat), n))
		wantNone(t, slices.Concat(slices.Repeat(a, n), slices.Repeat(leaf(api.NdOr), n-1)))
	}
}

// TestFieldsOfNoTrees puts into each node of a tree what may not be in it.
func TestFieldsOfNoTrees(t *testing.T) { // P7.1, P7.3
	l := of(t, "(^a|())*b{2,5}$")
	wantFacts(t, l, ends(some(2, -1, "ab")))
	wantSize(t, l, 28)
	for i := range l {
		for _, change := range []func(n *api.Node){
			func(n *api.Node) { n.Set[0] = math.MaxUint64 },
			func(n *api.Node) { n.Set[3] = 1 << 63 },
			func(n *api.Node) { n.Lo = 1 },
			func(n *api.Node) { n.Hi = 1 },
			func(n *api.Node) { n.Hi = -1 },
			func(n *api.Node) { n.Lo, n.Hi = 33, 33 },
			func(n *api.Node) { n.Lo, n.Hi = 33, -1 },
			func(n *api.Node) { n.Lo, n.Hi = -1, 3 },
			func(n *api.Node) { n.Lo, n.Hi = -1, -1 },
			func(n *api.Node) { n.Lo, n.Hi = 3, 2 },
			func(n *api.Node) { n.Lo, n.Hi = 1, 0 },
			func(n *api.Node) { n.Lo, n.Hi = 0, 33 },
			func(n *api.Node) { n.Lo, n.Hi = 0, -2 },
			func(n *api.Node) { n.Lo, n.Hi = math.MinInt, math.MaxInt },
			func(n *api.Node) { n.Lo, n.Hi = math.MaxInt, -1 },
		} {
			odd := slices.Clone(l)
			change(&odd[i])
			if tree.Right(odd) {
				againstModel(t, odd)
				continue
			}
			wantNone(t, odd)
			wantNone(t, odd[:i+1])
		}
	}
}

func TestCan(t *testing.T) { // P7.2
	for _, x := range []struct {
		f       api.Facts
		yes, no []int
	}{
		{some(2, 5, "a"), []int{2, 3, 4, 5}, []int{math.MinInt, -1, 0, 1, 6, 7, 100, math.MaxInt}},
		{some(0, 0, ""), []int{0}, []int{-2, -1, 1, 2, math.MinInt, math.MaxInt}},
		{some(1, 1, "a"), []int{1}, []int{-1, 0, 2}},
		{some(0, 3, "a"), []int{0, 1, 2, 3}, []int{-1, 4}},
		{some(0, -1, "a"), []int{0, 1, 2, limit, limit + 1, 1 << 40, math.MaxInt}, []int{-1, -2, math.MinInt}},
		{some(3, -1, "a"), []int{3, 4, 1 << 40, math.MaxInt}, []int{2, 1, 0, -1, -3, math.MinInt}},
		{some(3, -2, "a"), []int{3, 4, math.MaxInt}, []int{2, 0, -1, -2}},
		{some(3, math.MinInt, "a"), []int{3, 4, math.MaxInt}, []int{2, 0, -1, math.MinInt}},
		{some(limit, limit, "a"), []int{limit}, []int{limit - 1, limit + 1, 0}},
		{some(math.MaxInt, math.MaxInt, ""), []int{math.MaxInt}, []int{math.MaxInt - 1, 0, -1}},
		{some(math.MaxInt, -1, ""), []int{math.MaxInt}, []int{math.MaxInt - 1, 0, -1}},
		// No tree tells these, but they may be asked for.
		{some(5, 2, "a"), nil, []int{1, 2, 3, 4, 5, 6}},
		{some(-3, 1, "a"), []int{-3, -2, -1, 0, 1}, []int{-4, 2}},
		{some(math.MinInt, -1, ""), []int{math.MinInt, -1, 0, math.MaxInt}, nil},
	} {
		for _, n := range x.yes {
			wantCan(t, x.f, n, true)
		}
		for _, n := range x.no {
			wantCan(t, x.f, n, false)
		}
	}
}

// wantCan asks of some facts, and of those with what Can does not hang on: and of what never fits.
func wantCan(t *testing.T, f api.Facts, n int, want bool) {
	t.Helper()
	for _, first := range []api.Set{f.First, {}, full()} {
		for _, end := range []bool{false, true} {
			f.First, f.Ends, f.Never = first, end, false
			if Can(f, n) != want {
				t.Errorf("Can(%+v, %d) is not %v", f, n, want)
			}
			f.Never = true
			if Can(f, n) {
				t.Errorf("Can(%+v, %d)", f, n)
			}
		}
	}
}

func TestSizes(t *testing.T) { // P7.3
	for p, want := range map[string]int{
		"a": 2, "[]": 2, ".": 2, "()": 2, "^": 2, "$": 2,
		"ab": 4, "a()": 4, "^$": 4, "a(bc)": 6, "abc": 6,
		"a|b": 6, "a|": 6, "^|$": 6, "a|b|c": 10, "a|(b|c)": 10, "ab|c": 8, "(a|b)c": 8, "(a|b)(c|d)": 12,
		"a{0}": 2, "(abc){0}": 2, "a{1}": 4, "a{2}": 6, "a{3}": 8, "a{32}": 66, "(ab){2}": 10, "(ab){32}": 130, "(a|b){3}": 20,
		"a?": 5, "a{0,2}": 8, "a{0,32}": 98, "a{1,2}": 7, "a{1,32}": 97, "a{2,3}": 9, "a{31,32}": 67, "(ab)?": 7, "(ab){2,3}": 15, "(ab){1,3}": 16, "(a|b){0,2}": 16,
		"a*": 5, "a+": 7, "a{2,}": 9, "a{32,}": 69, "(ab)*": 7, "(ab)+": 11, "(ab){32,}": 135, "(a|b)*": 9, "(a|b)+": 15,
		"a**": 8, "a*+": 13, "a{2}{2}": 14, "a{2}{2}{2}": 30, "a?{0}": 2, "a{0}{2}": 6, "a{0}*": 5, "a{2}?": 9, "a?{2,3}": 18,
		"([]b){0,3}": 17, "(ab|c)+": 19, "(a(b|c)*d|e{0}f[]|g{2,3})+": 2*(13+6+9+4) + 3,
	} {
		wantSize(t, of(t, p), want)
	}
	// Each repeat, of one node and of three.
	for lo := 0; lo <= 32; lo++ {
		for hi := -1; hi <= 32; hi++ {
			if hi != -1 && hi < lo {
				continue
			}
			small, great := 2+2*lo, 2+6*lo
			for range hi - lo {
				small, great = small+3, great+7
			}
			if hi == -1 {
				small, great = small+3, great+7
			}
			wantSize(t, rep(set("a"), lo, hi), small)
			wantSize(t, rep(or(set("a"), set("b")), lo, hi), great)
		}
	}
}

// TestSizesHangOnNodesAlone: neither a set's bytes nor what never fits count.
func TestSizesHangOnNodesAlone(t *testing.T) { // P7.3
	for _, p := range []string{"xx", "(x|x)*", "x{2,5}x?", "(x|xx){2,}|x"} {
		want := Size(of(t, p))
		for _, s := range []string{"[]", ".", "[a-z]", "^", "$", "()"} {
			wantSize(t, of(t, strings.ReplaceAll(p, "x", s)), want)
		}
	}
}

// sized is a tree of just so many states: 2, 4, or more (no tree has 1 or 3).
func sized(n int) []api.Node {
	switch {
	case n == 2:
		return set("a")
	case n == 5:
		return rep(set("a"), 0, 1)
	case n < 200: // so what each of 32 copies has is never 1 or 3
		return cat(set("a"), sized(n-2))
	}
	// The rest of what 32 copies leave over must be such as a tree has.
	rest := (n - 2) % 32
	if rest == 1 || rest == 3 {
		rest += 32
	}
	l := rep(sized((n-2-rest)/32), 32, 32)
	if rest > 0 {
		l = cat(l, sized(rest))
	}
	return l
}

// TestSizesAtTheLimit has sizes just below, at and above 2^20, by each way in which a size is told.
func TestSizesAtTheLimit(t *testing.T) { // P7.3: at most 2^20
	repeats := 0
	for total := limit - 4; total <= limit+4; total++ {
		told := min(total, limit)
		wantSize(t, sized(total), told)
		for _, second := range []int{2, 5, 66, 97, total / 2} {
			wantSize(t, cat(sized(total-second), sized(second)), told)
			wantSize(t, cat(sized(second), sized(total-second)), told)
			wantSize(t, or(sized(total-second-2), sized(second)), told)
			wantSize(t, or(sized(second), sized(total-second-2)), told)
		}
		for lo := 0; lo <= 32; lo++ {
			for hi := -1; hi <= 32; hi++ {
				if hi != -1 && hi < lo || hi == 0 {
					continue
				}
				// Lo copies and, of the others, one with 1 more each.
				others := hi - lo
				if hi == -1 {
					others = 1
				}
				if rest := total - 2 - others; rest%(lo+others) == 0 {
					wantSize(t, rep(sized(rest/(lo+others)), lo, hi), told)
					repeats++
				}
			}
		}
	}
	if repeats < 300 {
		t.Errorf("only %d repeats", repeats)
	}
	// Far above, and on from there.
	for _, n := range []int{4, 5, 20, 100, 510, 511} {
		for _, b := range [][2]int{{32, 32}, {31, 32}, {0, 32}, {32, -1}} {
			wantSize(t, tower(set("a"), n, b[0], b[1]), limit)
			wantSize(t, rep(tower(set("a"), n-1, b[0], b[1]), 0, 0), 2)
		}
	}
	high := sized(limit + 1)
	for _, l := range [][]api.Node{cat(high, high), or(high, high), cat(high, set("a")), or(set("a"), high), rep(high, 0, 1), rep(high, 0, -1), rep(high, 1, 1), rep(high, 32, 32)} {
		wantSize(t, l, limit)
	}
}

// TestMostNodes has lists of 512 nodes: they are trees, and with one node more they are none.
func TestMostNodes(t *testing.T) { // P7.1, P7.3
	row, sides := slices.Concat(slices.Repeat(set("a"), 256), slices.Repeat(leaf(api.NdCat), 255)), set("b")
	var every []byte
	for b := range 255 {
		sides = or(sides, set(string([]byte{byte(b)})))
		every = append(every, byte(b))
	}
	hats := leaf(api.NdBegin)
	for range 255 {
		hats = cat(hats, leaf(api.NdEnd))
	}
	for _, x := range []struct {
		l    []api.Node
		f    api.Facts
		size int
	}{
		{rep(row, 0, 1), some(0, 256, "a"), 512 + 3},
		{rep(row, 2, 2), some(512, 512, "a"), 2*512 + 2},
		{rep(row, 32, 32), some(8192, 8192, "a"), 32*512 + 2},
		{rep(row, 1, -1), some(256, -1, "a"), 2*512 + 3},
		{rep(sides, 0, -1), some(0, -1, string(every)), 2*256 + 2*255 + 3},
		{rep(sides, 3, 7), some(3, 7, string(every)), 3*1022 + 4*1023 + 2},
		{rep(hats, 2, 3), ends(some(0, 0, "")), 2*512 + 513 + 2},
		{tower(set("a"), 511, 0, -1), some(0, -1, "a"), 2 + 3*511},
		{tower(set("a"), 511, 0, 0), some(0, 0, ""), 2},
		{tower(set(""), 511, 1, 1), never(), 2 + 2*511},
		{tower(leaf(api.NdBegin), 511, 32, 32), ends(some(0, 0, "")), limit},
	} {
		if len(x.l) != 512 {
			t.Fatalf("%d nodes", len(x.l))
		}
		wantFacts(t, x.l, x.f)
		wantSize(t, x.l, x.size)
		wantNone(t, rep(x.l, 0, 1))
	}
}

func TestExamples(t *testing.T) { // the chapter's examples
	wantFacts(t, of(t, "(ab|c)+"), some(1, -1, "ac"))
	wantSize(t, of(t, "a{2,3}"), 9)
}

func TestWhatIsHandedInStays(t *testing.T) { // P2, rule 4
	for _, l := range [][]api.Node{
		nil, set("a"), of(t, "(ab|c)+^"), slices.Concat(set("a"), set("b")), tower(set("a"), 511, 32, 32), tower(set("a"), 600, 0, 1), slices.Concat(leaf(api.NdCat), set("a"), leaf(8)),
	} {
		l = slices.Grow(l, 10) // room behind the list, in which nothing must be put
		room := l[:cap(l)]
		before := slices.Clone(room)
		first, e := Of(l)
		size := Size(l)
		if !slices.Equal(room, before) {
			t.Errorf("changed: %s", brief(before))
		}
		// Once more, and of other memory: the same is told.
		second, again := Of(slices.Clone(l))
		if first != second || e != again || Size(slices.Clone(l)) != size {
			t.Errorf("told unlike: %s", brief(l))
		}
	}
}
