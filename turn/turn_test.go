package turn

import (
	"math"
	"slices"
	"strings"
	"testing"
	"unicode/utf8"

	"tatting/api"
	"tatting/facts"
	"tatting/parse"
	"tatting/show"
	"tatting/tree"
)

// wantTurned asks for a tree turned, and for that one turned again.
func wantTurned(t *testing.T, l, want []api.Node) {
	t.Helper()
	for _, x := range [][2][]api.Node{{l, want}, {want, l}} {
		if m, e := Of(x[0]); !slices.Equal(m, x[1]) || e != api.OK {
			t.Errorf("Of(%s): %s, %d; not %s", brief(x[0]), brief(m), e, brief(x[1]))
		}
	}
}

// wantSigns asks for the same of trees that are written as signs.
func wantSigns(t *testing.T, signs, want string) {
	t.Helper()
	if l := list(signs); !tree.Right(l) {
		t.Fatalf("%s is no tree", signs)
	}
	wantTurned(t, list(signs), list(want))
}

// wantNone asks for what is told of a list that is no tree.
func wantNone(t *testing.T, l []api.Node) {
	t.Helper()
	if m, e := Of(l); len(m) != 0 || e != api.ErrForm {
		t.Errorf("Of(%s): %s, %d; not ErrForm alone", brief(l), brief(m), e)
	}
}

// againstModel asks of a tree what the model tells, and what follows of it. It answers the tree turned.
func againstModel(t *testing.T, l []api.Node) []api.Node {
	t.Helper()
	want, _ := model(l)
	m, e := Of(l)
	if !slices.Equal(m, want) || e != api.OK {
		// What follows would be asked of what is no tree.
		t.Fatalf("Of(%s): %s, %d; not %s", brief(l), brief(m), e, brief(want))
	}
	wantTurned(t, m, l)
	wantSameFacts(t, l, m)
	return m
}

// wantSameFacts asks that a tree and it turned tell the same.
func wantSameFacts(t *testing.T, l, turned []api.Node) {
	t.Helper()
	f, _ := facts.Of(l)
	g, e := facts.Of(turned)
	if f.Never != g.Never || f.Least != g.Least || f.Most != g.Most || f.Ends != g.Ends || e != api.OK {
		t.Errorf("%s: %+v, turned %+v, %d", brief(l), f, g, e)
	}
	if n, m := facts.Size(l), facts.Size(turned); n != m || n < 0 {
		t.Errorf("%s: Size %d, turned %d", brief(l), n, m)
	}
}

// wantTurnedParts asks that just those parts of a turned text fit a turned tree which do unturned. It tells how many fit.
func wantTurnedParts(t *testing.T, l, turned []api.Node, text string) int {
	t.Helper()
	p, q := fits(l, text), fits(turned, Text(text))
	if !slices.Equal(q, p.turned()) {
		t.Errorf("%s, %q: %v; turned %s: %v", brief(l), text, p, brief(turned), q)
	}
	return p.count()
}

func TestExample(t *testing.T) { // P8.1
	for _, x := range [][2]string{{"^ab*", "b*(a$)"}, {"abc", "c(ba)"}, {"a(bc)", "cba"}, {"(ab|c)+$", "^(ba|c)+"}, {"a|bc|de$", "a|cb|^(ed)"}, {"a{2,5}b{3}", "b{3}a{2,5}"}, {"[a-c]x", "x[a-c]"}, {"", "()"}, {"$^", "$^"}} {
		l, _, _ := parse.Pattern(x[0])
		m, e := Of(l)
		if s, shown := show.Text(m); s != x[1] || e != api.OK || shown != api.OK {
			t.Errorf("%s turned is %s, %d; not %s", x[0], s, e, x[1])
		}
	}
}

func TestEachKindAlone(t *testing.T) { // P8.1
	for _, x := range [][2]string{{"a", "a"}, {"-", "-"}, {"#", "#"}, {"~", "~"}, {"_", "_"}, {"^", "$"}, {"$", "^"}} {
		wantSigns(t, x[0], x[1])
	}
	for b := range 256 {
		l := []api.Node{{Kind: api.NdSet, Set: setOf(byte(b))}}
		wantTurned(t, l, l)
	}
	// What needs arguments stands not alone.
	for _, signs := range []string{".", "|", "*", "?", "0"} {
		wantNone(t, list(signs))
	}
}

// kinds are parts of each kind, and the same ones turned: made of two letters, so that several in one tree can be told apart.
func kinds(x, y string) [][2]string {
	return [][2]string{{x, x}, {"_", "_"}, {"^", "$"}, {"$", "^"}, {x + y + ".", y + x + "."}, {x + y + "|", x + y + "|"}, {x + "*", x + "*"}, {x + y + ".3", y + x + ".3"}, {x + "^|", x + "$|"}}
}

func TestCatOfEachTwo(t *testing.T) { // P8.1: NdCat
	for _, a := range kinds("a", "b") {
		for _, b := range kinds("c", "d") {
			ab, ba := a[0]+b[0]+".", b[1]+a[1]+"."
			wantSigns(t, ab, ba)
			wantSigns(t, a[0]+b[0]+"|", a[1]+b[1]+"|")
			for _, c := range kinds("e", "f") {
				wantSigns(t, ab+c[0]+".", c[1]+ba+".")
				wantSigns(t, c[0]+ab+".", ba+c[1]+".")
				for _, d := range kinds("g", "h") {
					wantSigns(t, ab+c[0]+d[0]+"..", d[1]+c[1]+"."+ba+".")
				}
			}
		}
	}
}

// TestCatOfUnlikeLengths has arguments of all pairs of some numbers of nodes: towers of repeats, and rows of either (below a repeat, where their number is even).
func TestCatOfUnlikeLengths(t *testing.T) { // P8.1: NdCat
	tower := func(leaf string, n int) string { return leaf + strings.Repeat("?", n-1) }
	row := func(leaf string, n int) string {
		return leaf + strings.Repeat("b|", (n-1)/2) + strings.Repeat("*", (n-1)%2)
	}
	for _, n := range []int{1, 2, 3, 4, 5, 8, 13, 64, 255} {
		for _, m := range []int{1, 2, 3, 4, 5, 7, 12, 100, 256} {
			wantSigns(t, tower("a", n)+tower("c", m)+".", tower("c", m)+tower("a", n)+".")
			wantSigns(t, row("a", n)+row("c", m)+".", row("c", m)+row("a", n)+".")
			wantSigns(t, row("^", n)+tower("c", m)+".", tower("c", m)+row("$", n)+".")
			wantSigns(t, tower("a", n)+row("$", m)+".", row("^", m)+tower("a", n)+".")
		}
	}
}

func TestOrStays(t *testing.T) { // P8.1: NdOr
	for _, x := range [][2]string{
		{"ab|", "ab|"}, {"ba|", "ba|"}, {"a_|", "a_|"}, {"_a|", "_a|"}, {"abc||", "abc||"}, {"ab|c|", "ab|c|"}, {"a*b|", "a*b|"}, {"ab*|", "ab*|"}, {"ab|*", "ab|*"},
		// NdCat within its arguments.
		{"ab.c|", "ba.c|"}, {"cab.|", "cba.|"}, {"ab.cd.|", "ba.dc.|"}, {"ab.c.de.f.|", "cba..fed..|"}, {"abc..def..|", "cb.a.fe.d.|"}, {"ab.c|de.|", "ba.c|ed.|"}, {"ab.*cd.?|", "ba.*dc.?|"},
		// It within NdCat.
		{"ab|c.", "cab|."}, {"abc|.", "bc|a."}, {"ab|cd|.", "cd|ab|."}, {"ab.c|d.", "dba.c|."}, {"ab.cd.|ef.gh.|.", "fe.hg.|ba.dc.|."}, {"abc.|d.e|f.", "fdacb.|.e|."},
	} {
		wantSigns(t, x[0], x[1])
	}
}

func TestRepeats(t *testing.T) { // P8.1: NdRep
	for _, x := range [][2]string{
		{"a*", "a*"}, {"a*?", "a*?"}, {"ab.*", "ba.*"}, {"ab.2", "ba.2"}, {"a*b.", "ba*."}, {"ab*.", "b*a."}, {"a2b3.", "b3a2."}, {"a2b3.9", "b3a2.9"}, {"ab.3c9.", "c9ba.3."}, {"ab.*c.*", "cba.*.*"}, {"abc.*.*", "cb.*a.*"}, {"ab.0c8.1", "c8ba.0.1"}, {"-*#2.", "#2-*."}, {"~5_?.", "_?~5."},
	} {
		wantSigns(t, x[0], x[1])
	}
	count := 0
	for lo := range 33 {
		for hi := -1; hi <= 32; hi++ {
			if 0 <= hi && hi < lo {
				continue
			}
			count++
			r := []api.Node{rep(lo, hi)}
			wantTurned(t, slices.Concat(list("ab."), r), slices.Concat(list("ba."), r))
			wantTurned(t, slices.Concat(list("a"), r, list("b*.")), slices.Concat(list("b*a"), r, list(".")))
			wantTurned(t, slices.Concat(list("^a*"), r, list("?.")), slices.Concat(list("a*"), r, list("?$.")))
		}
	}
	if count != 33+33*34/2 {
		t.Errorf("%d repeats", count)
	}
}

func TestSetsStay(t *testing.T) { // P8.1: NdSet
	for b := range 256 {
		x, y := api.Node{Kind: api.NdSet, Set: setOf(byte(b))}, api.Node{Kind: api.NdSet, Set: setOf(byte(b), byte(b*7+1), 0, 255)}
		wantTurned(t, []api.Node{x, y, node('.')}, []api.Node{y, x, node('.')})
		wantTurned(t, []api.Node{x, node('*'), y, node('|')}, []api.Node{x, node('*'), y, node('|')})
	}
	x := api.Node{Kind: api.NdSet, Set: api.Set{1, 2, 4, math.MaxUint64}}
	y := api.Node{Kind: api.NdSet, Set: api.Set{math.MaxUint64 - 1, 0, 1 << 63, 3}}
	wantTurned(t, []api.Node{x, y, node('.')}, []api.Node{y, x, node('.')})
	wantTurned(t, []api.Node{x, y, node('|')}, []api.Node{x, y, node('|')})
}

func TestEnds(t *testing.T) { // P8.1: NdBegin, NdEnd
	for _, x := range [][2]string{
		{"^a.", "a$."}, {"$a.", "a^."}, {"^$.", "^$."}, {"$^.", "$^."}, {"^^.", "$$."}, {"^$|", "$^|"}, {"^^|", "$$|"}, {"^a|", "$a|"}, {"a^|", "a$|"},
		{"^*", "$*"}, {"$0", "^0"}, {"^2", "$2"}, {"$?+", "^?+"}, {"^a.*", "a$.*"}, {"a$.9", "^a.9"}, {"^*a.", "a$*."}, {"a^3.$.", "^$3a.."},
		{"^a.b$.|", "a$.^b.|"}, {"^a|b$|.", "b^|$a|."}, {"^a.b.$.", "^ba$..."}, {"a^.b.", "b$a.."}, {"ab.^c.|*", "ba.c$.|*"}, {"^$|a|*?", "$^|a|*?"},
	} {
		wantSigns(t, x[0], x[1])
	}
	// One end in the place of each leaf.
	for _, signs := range []string{"ab|c.*d0e.|", "abc|de...+", "a*b2c3d...", "ab.c.d.e.", "abcde....", "ab.cd.|ef.gh.|."} {
		for i := range signs {
			if arguments(node(signs[i]).Kind) > 0 {
				continue
			}
			againstModel(t, list(signs[:i]+"^"+signs[i+1:]))
			againstModel(t, list(signs[:i]+"$"+signs[i+1:]))
		}
	}
}

// leaves are sets that can all be told apart, the first one of the number from.
func leaves(from, n int) []api.Node {
	l := []api.Node{}
	for i := range n {
		l = append(l, api.Node{Kind: api.NdSet, Set: api.Set{uint64(from + i), 0, 0, uint64(i * i)}})
	}
	return l
}

// leaning is a tree of NdCat that hangs to the left.
func leaning(of []api.Node) []api.Node {
	l := slices.Clone(of[:1])
	for _, n := range of[1:] {
		l = append(l, n, node('.'))
	}
	return l
}

// heaped is one that hangs to the right.
func heaped(of []api.Node) []api.Node {
	return append(slices.Clone(of), slices.Repeat(list("."), len(of)-1)...)
}

func reversed(l []api.Node) []api.Node {
	l = slices.Clone(l)
	slices.Reverse(l)
	return l
}

// TestChains has all lengths up to those of trees of 511 and 512 nodes.
func TestChains(t *testing.T) { // P8.1
	for n := 1; n <= 256; n++ {
		of := leaves(1, n)
		wantTurned(t, leaning(of), heaped(reversed(of)))
		wantTurned(t, heaped(of), leaning(reversed(of)))
		wantTurned(t, append(leaning(of), rep(2, 7)), append(heaped(reversed(of)), rep(2, 7)))
		if n > 1 {
			wantTurned(t, slices.Concat(of[:1], list("3"), heaped(of[1:]), list(".")), slices.Concat(leaning(reversed(of[1:])), of[:1], list("3.")))
		}
	}
	long := leaning(leaves(1, 256))
	if m, _ := Of(append(long, rep(2, 7))); len(m) != 512 {
		t.Errorf("%d nodes", len(m))
	}
	wantNone(t, append(long, rep(2, 7), rep(2, 7)))
	wantNone(t, leaning(leaves(1, 257)))
	wantNone(t, heaped(leaves(1, 257)))
}

func TestGreatTreesByHand(t *testing.T) { // P8.1
	tower := slices.Concat(list("a"), slices.Repeat(list("2"), 511))
	wantTurned(t, tower, tower)
	tower[0] = node('^')
	turned := slices.Clone(tower)
	turned[0] = node('$')
	wantTurned(t, tower, turned)
	row := slices.Concat(leaves(1, 256), slices.Repeat(list("|"), 255), list("*"))
	wantTurned(t, row, row)
	// Two chains of 255 nodes within one: NdCat of them, and NdOr.
	for _, both := range []string{".*", "|*"} {
		a, b := leaves(1, 128), leaves(1000, 128)
		l := slices.Concat(leaning(a), heaped(b), list(both))
		want := slices.Concat(leaning(reversed(b)), heaped(reversed(a)), list(both))
		if both == "|*" {
			want = slices.Concat(heaped(reversed(a)), leaning(reversed(b)), list(both))
		}
		wantTurned(t, l, want)
	}
	// As even as can be: each half turned, and both have changed places.
	of := leaves(1, 256)
	wantTurned(t, append(even(of), rep(0, 32)), append(even(reversed(of)), rep(0, 32)))
}

// even is a tree of NdCat whose halves are alike.
func even(of []api.Node) []api.Node {
	if len(of) == 1 {
		return of
	}
	return slices.Concat(even(of[:len(of)/2]), even(of[len(of)/2:]), list("."))
}

func TestListsThatAreNoTrees(t *testing.T) { // P8.1
	wantNone(t, nil)
	wantNone(t, []api.Node{})
	for _, signs := range []string{
		// An argument too few.
		".", "|", "*", "a.", "a|", "*a", ".ab", "|ab", "a.b", "a|b", "ab..", "ab||", "ab.|", "a*.", "a*|", "^.", "$*|",
		// An argument too many.
		"ab", "aa", "^$", "^a", "__", "abc.", "abc|", "ab*", "a*b", "a*b*", "ab.c", "ab|c", "ab.cd.", "ab.cd|", "abcd..", "ab.c.d",
		// Both.
		".a", "*ab.", "a.b.c", "|abc..",
	} {
		wantNone(t, list(signs))
	}
	for _, kind := range []int{0, 8, 9, -1, -5, 256 + api.NdSet, 1<<32 + api.NdCat, math.MaxInt, math.MinInt} {
		none := api.Node{Kind: kind}
		for _, signs := range []string{"a", "ab.", "ab.c.", "ab|*", "^a.$."} {
			againstModel(t, list(signs))
			for i := range len(signs) + 1 {
				wantNone(t, slices.Insert(list(signs), i, none))
				if i < len(signs) {
					l := list(signs)
					l[i] = none
					wantNone(t, l)
				}
			}
		}
	}
	// The bound is that of trees.
	for _, n := range []int{513, 514, 1000, 1 << 20} {
		wantNone(t, append(list("a"), slices.Repeat(list("*"), n-1)...))
		wantNone(t, slices.Repeat(list("a"), n))
	}
}

// TestFieldsWhereNoneMayBe puts something into each field of each node of a tree.
func TestFieldsWhereNoneMayBe(t *testing.T) { // P8.1
	l := list("^ab.|_*$a3...")
	againstModel(t, l)
	for i, n := range l {
		for b := range 256 {
			bad := slices.Clone(l)
			bad[i].Set = setOf(byte(b))
			if n.Kind == api.NdSet {
				againstModel(t, bad)
			} else {
				wantNone(t, bad)
			}
		}
		for _, x := range [][2]int{{1, 0}, {0, -2}, {-1, -1}, {-1, 0}, {33, 33}, {33, -1}, {0, 33}, {5, 4}, {math.MinInt, -1}, {math.MaxInt, math.MaxInt}, {0, math.MinInt}, {1 << 32, 1 << 32}} {
			bad := slices.Clone(l)
			bad[i].Lo, bad[i].Hi = x[0], x[1]
			wantNone(t, bad)
		}
		for _, x := range [][2]int{{0, -1}, {1, 1}, {0, 1}, {32, 32}, {32, -1}} {
			l := slices.Clone(l)
			l[i].Lo, l[i].Hi = x[0], x[1]
			if n.Kind == api.NdRep {
				againstModel(t, l)
			} else {
				wantNone(t, l)
			}
		}
	}
}

// TestWhatIsHandedIn: it is neither changed nor kept, and what is answered is other memory each time.
func TestWhatIsHandedIn(t *testing.T) { // P2, rules 3 and 4
	for _, signs := range []string{"a", "^", "ab.", "ab|", "^a*.", "ab.c.", "abc..", "ab.cd.|*", "a.", "ab", "", "*"} {
		room := append(list(signs), list("xyz.|")...)
		before := slices.Clone(room)
		l := room[:len(signs)]
		m, e := Of(l)
		if !slices.Equal(room, before) {
			t.Errorf("%s: %s is changed", signs, brief(before))
		}
		told := slices.Clone(m)
		again, f := Of(l)
		for i := range m {
			m[i] = rep(7, 9)
		}
		m = append(m, list("uvw")...)
		if !slices.Equal(room, before) || !slices.Equal(again, told) || e != f {
			t.Errorf("%s: %s shares memory with %s", signs, brief(m), brief(again))
		}
		for i := range room {
			room[i] = rep(3, 4)
		}
		if !slices.Equal(again, told) {
			t.Errorf("%s: %s is kept", signs, brief(again))
		}
	}
}

// TestOfHangsOnItsList: what was turned ahead of it is not to be seen in an answer.
func TestOfHangsOnItsList(t *testing.T) { // P2, rule 4
	signs := []string{"ab.c.", "ab.", "", "a", "ab.cd.|*", "ab", "^a.", "$"}
	for _, first := range signs {
		for _, second := range signs {
			Of(list(first))
			m, e := Of(list(second))
			want, f := []api.Node{}, api.ErrForm
			if l := list(second); tree.Right(l) {
				want, _ = model(l)
				f = api.OK
			}
			if !slices.Equal(m, want) || e != f {
				t.Errorf("%s behind %s: %s, %d", second, first, brief(m), e)
			}
		}
	}
}

func wantText(t *testing.T, s, want string) {
	t.Helper()
	if got := Text(s); got != want {
		t.Errorf("Text(%.60q): %.60q; not %.60q", s, got, want)
	}
	if got := Text(want); got != s {
		t.Errorf("Text(%.60q): %.60q; not %.60q", want, got, s)
	}
}

func TestText(t *testing.T) { // P8.1: Text
	for _, x := range [][2]string{
		{"", ""}, {"a", "a"}, {"ab", "ba"}, {"aa", "aa"}, {"abc", "cba"}, {"aba", "aba"}, {"abcd", "dcba"}, {"abba", "abba"}, {"abcde", "edcba"}, {"abcdef", "fedcba"},
		{"\x00", "\x00"}, {"\x00a", "a\x00"}, {"\x00\x00b", "b\x00\x00"}, {"\n", "\n"}, {"a\r\nb\n", "\nb\n\ra"}, {" a ", " a "}, {"^ab$", "$ba^"}, {"\\", "\\"}, {"(a)", ")a("},
	} {
		wantText(t, x[0], x[1])
	}
}

func TestTextOfAllBytes(t *testing.T) { // P8.1: Text
	var up, down []byte
	for b := range 256 {
		one := string([]byte{byte(b)})
		wantText(t, one, one)
		wantText(t, one+"a", "a"+one)
		wantText(t, "\xff"+one+"\x80", "\x80"+one+"\xff")
		up, down = append(up, byte(b)), append([]byte{byte(b)}, down...)
		wantText(t, string(up), string(down))
		for c := range 256 {
			wantText(t, string([]byte{byte(b), byte(c)}), string([]byte{byte(c), byte(b)}))
		}
	}
}

// TestTextThatIsNoUTF8 has letters of several bytes too: turned they are none.
func TestTextThatIsNoUTF8(t *testing.T) { // P8.1: Text
	for _, x := range [][2]string{
		{"\u00e9", "\xa9\xc3"}, {"a\u00e9b", "b\xa9\xc3a"}, {"\u20ac", "\xac\x82\xe2"}, {"\U0001f600", "\x80\x98\x9f\xf0"}, {"e\u0301", "\x81\xcc\x65"}, {"\ufffd", "\xbd\xbf\xef"},
		{"\xff", "\xff"}, {"\x80\x81", "\x81\x80"}, {"\xc3", "\xc3"}, {"\xc3a", "a\xc3"}, {"a\xc3", "\xc3a"}, {"\xe2\x82", "\x82\xe2"}, {"\xed\xa0\x80", "\x80\xa0\xed"}, {"\xc0\x80", "\x80\xc0"}, {"\xfe\xff\x00\x80", "\x80\x00\xff\xfe"},
	} {
		wantText(t, x[0], x[1])
		if utf8.ValidString(x[0]) && utf8.ValidString(x[1]) {
			t.Errorf("%q and %q are both UTF-8", x[0], x[1])
		}
	}
}

// TestLongTexts has texts of all short lengths, and some about as long as api lets a text be.
func TestLongTexts(t *testing.T) { // P8.1: Text
	next := generator()
	for n := range 300 {
		s := mixed(next, n)
		wantText(t, s, backwards(s))
		// Of two texts, one behind the other, the second one comes first.
		if r := mixed(next, next(20)); Text(s+r) != Text(r)+Text(s) {
			t.Errorf("%q, %q", s, r)
		}
	}
	for _, n := range []int{1023, 1024, 65535, 65536, 1<<20 - 1, 1 << 20, 1<<20 + 1} {
		s := mixed(next, n)
		wantText(t, s, backwards(s))
	}
	for _, s := range textsOf("ab\xff", 7) {
		wantText(t, s, backwards(s))
	}
}

// TestAllSmallTrees holds small trees, and them turned, against all parts of short texts.
func TestAllSmallTrees(t *testing.T) { // P8.1, P8.2
	trees, fit := 0, 0
	for _, x := range []struct {
		from, to       int // nodes
		signs, letters string
	}{
		{1, 4, "ab~-_^$.|*+?0123", "abc"}, {5, 5, "ab~_^$.|*3", "abc"}, {6, 6, "ab^.|*", "ab"}, {7, 7, "ab$.", "ab"},
	} {
		texts := textsOf(x.letters, 4)
		for n := x.from; n <= x.to; n++ {
			treesOf(n, list(x.signs), func(l []api.Node) {
				trees++
				m := againstModel(t, l)
				for _, text := range texts {
					fit += wantTurnedParts(t, l, m, text)
				}
			})
		}
	}
	if trees < 9000 || fit < 1000000 {
		t.Errorf("only %d trees, %d parts that fit", trees, fit)
	}
}

// TestMixedTrees has trees of up to 80 nodes, and of 512.
func TestMixedTrees(t *testing.T) { // P8.1, P8.2
	next := generator()
	some := 0
	for i := range 3000 {
		n, text := 1+next(80), mixed(next, 1+next(14))
		if i%30 == 0 {
			n, text = 512, mixed(next, 20)
		}
		l := grown(next, n, next(11))
		m := againstModel(t, l)
		if wantTurnedParts(t, l, m, text) > len(text)+1 {
			some++
		}
		wantTurnedParts(t, l, m, "")
	}
	if some < 500 {
		t.Errorf("only %d fit more than what is empty", some)
	}
}

// TestGreatestFacts has trees of which a number is told that is at its bound.
func TestGreatestFacts(t *testing.T) { // P8.2
	great := strings.Repeat("9", 6)
	for _, signs := range []string{"a" + great + "b.", "ab." + great, "ab" + great + "c..", "ab.8888c*.", "a" + great + "^b" + great + "..", "ab.8888cd.8888|", "-b.a" + great + "|", "a" + great + "-.", "ab.9999?"} {
		againstModel(t, list(signs))
		if n := facts.Size(list(signs)); n != 1<<20 {
			t.Errorf("%s: Size %d", signs, n)
		}
	}
}

// TestFirstNeedNotStay: what fits ends with the bytes with which the turned tree says that it begins.
func TestFirstNeedNotStay(t *testing.T) { // P8.2
	for _, x := range []struct{ signs, first, turned string }{
		{"a", "a", "a"}, {"ab.", "a", "b"}, {"ab|", "ab", "ab"}, {"ab?.", "a", "ab"}, {"a*b.", "ab", "b"}, {"ab.c|+", "ac", "bc"}, {"^a.b.", "a", "b"},
	} {
		m, _ := Of(list(x.signs))
		f, _ := facts.Of(list(x.signs))
		g, _ := facts.Of(m)
		if f.First != setOf([]byte(x.first)...) || g.First != setOf([]byte(x.turned)...) {
			t.Errorf("%s: %x, turned %x", x.signs, f.First, g.First)
		}
	}
}

// TestRawLists: any nodes end without a panic, and what is no tree is ErrForm.
func TestRawLists(t *testing.T) { // P1, rule 5
	next := generator()
	numbers := []int{0, 0, 0, 1, 2, 3, 4, 5, 6, 7, 1, 5, 6, 7, 8, -1, -1, 32, 33, math.MinInt, math.MaxInt}
	made := 0
	for range 100000 {
		l := make([]api.Node, next(9))
		for i := range l {
			l[i].Kind = numbers[3+next(11+next(2)*next(8))]
			if l[i].Kind == api.NdRep || next(20) == 0 {
				l[i].Lo, l[i].Hi = numbers[next(8)], numbers[next(21)]
			}
			if l[i].Kind == api.NdSet || next(20) == 0 {
				l[i].Set = api.Set{0, uint64(next(1 << 20))}
			}
		}
		if tree.Right(l) {
			made++
			againstModel(t, l)
		} else {
			wantNone(t, l)
		}
	}
	if made < 2000 {
		t.Errorf("only %d were made", made)
	}
}
