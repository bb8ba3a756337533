package program

import (
	"fmt"
	"math"
	"slices"
	"strings"
	"testing"

	"tatting/api"
	"tatting/dfa"
	"tatting/facts"
	"tatting/nfa"
	"tatting/parse"
	"tatting/subset"
)

func wantAny(t *testing.T, l []api.Node) {
	t.Helper()
	if got := Any(l); !slices.Equal(got, anyThen(l)) {
		t.Errorf("any of %s: %s", briefTree(l), briefTree(got))
	}
}

func wantOneError(t *testing.T, what string, l []api.Node, most int, want api.Errno) {
	t.Helper()
	if d, e := One(l, most); e != want || !sameDfa(d, api.Dfa{}) {
		t.Errorf("%s, %s, %d: %d, %s, not %d", what, briefTree(l), most, e, briefDfa(d), want)
	}
}

// wantOne holds what One tells against the model.
func wantOne(t *testing.T, what string, l []api.Node, most int) {
	t.Helper()
	want, wantE := oneOf(l, most)
	if d, e := One(l, most); e != wantE || !sameDfa(d, want) {
		t.Errorf("%s, %s, %d: %d, %s, not %d, %s", what, briefTree(l), most, e, briefDfa(d), wantE, briefDfa(want))
	}
}

func wantError(t *testing.T, p string, most, at int, e api.Errno) {
	t.Helper()
	if got, gotAt, gotE := Compile(p, most); gotE != e || gotAt != at || !same(got, api.Program{}) {
		t.Errorf("%q, %d: %d at %d, %s, not %d at %d", p, most, gotE, gotAt, brief(got), e, at)
	}
}

// wantProgram asks for a pattern's program, which is made of a tree.
func wantProgram(t *testing.T, p string, most int, l []api.Node) {
	t.Helper()
	want, _ := partsOf(l, most)
	got, at, e := Compile(p, most)
	if e != api.OK || at != 0 || !same(got, want) {
		t.Errorf("%q, %d: %d at %d, %s, not %s", p, most, e, at, brief(got), brief(want))
	}
	if !Right(got) {
		t.Errorf("%q, %d: the program is not right: %s", p, most, brief(got))
	}
}

// wantCompiled holds what Compile tells against the model, and tells its error.
func wantCompiled(t *testing.T, p string, most int) api.Errno {
	t.Helper()
	l, at, e := parse.Pattern(p)
	if e == api.OK && (most <= 0 || most > 1024) {
		e = api.ErrArg
	}
	if e == api.OK && !isTree(anyThen(l)) {
		e = api.ErrLong
	}
	if e == api.OK {
		_, e = partsOf(l, most)
	}
	if e == api.OK {
		wantProgram(t, p, most, l)
	} else {
		wantError(t, p, most, at, e)
	}
	return e
}

func wantRight(t *testing.T, what string, p api.Program, is bool) {
	t.Helper()
	if Right(p) != is {
		t.Errorf("%s: not %v, of %s", what, is, brief(p))
	}
}

// parsed is a pattern's tree.
func parsed(t *testing.T, p string) []api.Node {
	t.Helper()
	l, _, e := parse.Pattern(p)
	if e != api.OK {
		t.Fatalf("%q: %d", p, e)
	}
	return l
}

// compiled is a pattern's program.
func compiled(t *testing.T, p string) api.Program {
	t.Helper()
	made, at, e := Compile(p, 1024)
	if e != api.OK || at != 0 {
		t.Fatalf("%q: %d at %d", p, e, at)
	}
	return made
}

// patterns are some of all kinds.
func patterns() []string {
	return []string{
		"", "()", "a", "ab", "a|b", "ab|b", "a*", "a+", "a?", "a{3}", "a{2,}", "a{0}", "a{2,4}", "[]", "[^]", ".", "[^a]*", "a[]b", "[]|a", "[]*", "(a|b)*abb", "ab|ba", "aab", "(ab)+c?",
		"^", "$", "^$", "$^", "^a", "a$", "^a$", "^*a", "a^", "$a", "a^b", "(^|a)b", "a(b|$)", "(^|b)a+($|b)", "^^a", "(a|^)*", "(^a|b$)*", "^()$", "^{2}a", "(^a|a$)", "a[ab]{2}", "[ab]{2}a", "^[ab]*$", "(^$)*b",
		"\\x00|\\xff", "[a-c][^a-c]", "\\d+\\.?\\d*", "a.c", "(a(b(c)?)?)?", "(a*b*)*",
	}
}

func TestExamples(t *testing.T) { // P15.2: the chapter's examples
	wantError(t, "a(", 9, 2, api.ErrForm)
	wantError(t, "a", 2, 0, api.ErrStates)
	wantProgram(t, "a", 3, list("a"))
	wantProgram(t, "a()", 9, list("a_."))
}

// TestByHand has programs whose automata were told by hand.
func TestByHand(t *testing.T) { // P15.1, P15.2
	a, ends := "96:0 97:1 255:0 258:2", "255:0 256:1 257:2 258:1"
	ab := "96:0 97:1 98:2 255:0 258:3"
	for _, x := range []struct {
		p, signs              string
		forward, search, back api.Dfa
	}{
		{"", "_", table("255:0 258:1", "1 0 !; 1 1"), table("258:0", "0 !"), table("258:0", "0 !")},
		{"[]", "-", table("258:0", "0"), table("258:0", "0"), table("258:0", "0")},
		{"a", "a", table(a, "1 2 0; 1 1 1; 1 1 2 !"), table(a, "0 1 0; 0 1 1 !"), table(a, "0 1 0; 0 1 1 !")},
		{"a*", "a*", table("96:0 97:1 255:0 258:1", "1 0 !; 1 1"), table("258:0", "0 !"), table("258:0", "0 !")},
		{"ab", "ab.", table(ab, "1 2 1 0; 1 1 1 1; 1 1 3 2; 1 1 1 3 !"), table(ab, "0 1 0 0; 0 1 2 1; 0 1 0 2 !"), table(ab, "0 0 1 0; 0 2 1 1; 0 0 1 2 !")},
		{"^", "^", table(ends, "1 2 0; 1 1 1; 1 2 2 !"), table(ends, "0 1 0; 0 1 1 !"), table("255:0 256:1 258:2", "0 0 1; 0 1 1 !")},
		{"$", "$", table("255:0 256:1 258:2", "1 0 2; 1 1 1; 1 2 2 !"), table("255:0 256:1 258:2", "0 0 1; 0 1 1 !"), table(ends, "0 1 0; 0 1 1 !")},
		{"^a", "^a.", table("96:0 97:1 255:0 256:2 257:3 258:2", "1 1 2 0; 1 1 1 1; 1 3 2 2; 1 1 3 3 !"), table("96:0 97:1 255:0 256:2 257:3 258:2", "0 0 1 0; 0 2 1 1; 0 0 3 2 !; 0 2 3 3 !"), table("96:0 97:1 255:0 256:2 258:3", "0 1 0 0; 0 1 1 2; 0 1 2 2 !")},
	} {
		got, at, e := Compile(x.p, 1024)
		if want := (api.Program{Tree: list(x.signs), Forward: x.forward, Search: x.search, Back: x.back}); e != api.OK || at != 0 || !same(got, want) {
			t.Errorf("%q: %d at %d: %s, not %s", x.p, e, at, brief(got), brief(want))
		}
		for k, l := range [][]api.Node{list(x.signs), anyThen(list(x.signs)), anyThen(turnedOf(list(x.signs)))} {
			if d, e := One(l, 1024); e != api.OK || !sameDfa(d, []api.Dfa{x.forward, x.search, x.back}[k]) {
				t.Errorf("%q, automaton %d: %d, %s", x.p, k, e, briefDfa(d))
			}
		}
		wantRight(t, x.p, api.Program{Tree: list(x.signs), Forward: x.forward, Search: x.search, Back: x.back}, true)
	}
}

func TestAny(t *testing.T) { // P15.1: Any
	all := uint64(math.MaxUint64)
	if l := Any(list("a")); !slices.Equal(l, []api.Node{{Kind: 1, Set: api.Set{all, all, all, all}}, {Kind: 7, Lo: 0, Hi: -1}, {Kind: 1, Set: api.Set{0, 1 << 33}}, {Kind: 5}}) {
		t.Errorf("any of a: %s", briefTree(l))
	}
	// Trees of each kind, and lists that are none.
	for _, signs := range []string{"", "a", "-", "#", "~", "_", "^", "$", "ab.", "ab|", "a*", "a+", "a?", "a3", "^a.b*c|.", ".", "*", "ab", "a.", "..", "abc", "|a"} {
		wantAny(t, list(signs))
		wantAny(t, Any(list(signs)))
	}
	wantAny(t, nil)
	for _, x := range edges() {
		wantAny(t, []api.Node{{Kind: x, Set: api.Set{1, uint64(x), 3, 4}, Lo: x, Hi: -x}})
		wantAny(t, []api.Node{{Kind: api.NdCat}, {Kind: x}, {Kind: api.NdRep, Lo: x, Hi: x}})
	}
	for _, n := range []int{100, 508, 509, 510, 512, 513, 1 << 16} {
		wantAny(t, slices.Repeat(list("a"), n))
		wantAny(t, append(list("a"), slices.Repeat(list("*"), n)...))
	}
	next := generator()
	for range 200 {
		wantAny(t, grown(next, 1+next(40), next(10)))
	}
	wantAny(t, grown(next, 512, 3))
}

// letters is a tree of so many letters a, one behind the other: of one node less than twice as many.
func letters(n int) []api.Node {
	return append(list("a"), slices.Repeat(list("a."), n-1)...)
}

func TestTheLongestThatMayBe(t *testing.T) { // P15.1, P15.3
	l := letters(255)
	if len(l) != 509 || !isTree(Any(l)) {
		t.Fatalf("%d nodes", len(l))
	}
	wantOne(t, "509 nodes", l, 1024)
	wantOne(t, "any of 509 nodes", Any(l), 1024)
	made, e := partsOf(l, 1024)
	if e != api.OK || len(made.Forward.Accept) != 257 {
		t.Fatalf("%d, %s", e, brief(made))
	}
	wantRight(t, "509 nodes", made, true)
	// One more, which changes no automaton: any of it is none.
	for _, more := range []int{1, 2, 3} {
		longer := append(slices.Clone(l), slices.Repeat(list("1"), more)...)
		if d, e := One(longer, 1024); e != api.OK || !sameDfa(d, made.Forward) {
			t.Errorf("%d nodes: %d, %s", len(longer), e, briefDfa(d))
		}
		wantOneError(t, "any of too many nodes", Any(longer), 1024, api.ErrForm)
		made.Tree = longer
		wantRight(t, "too many nodes", made, false)
	}
	wantOneError(t, "513 nodes", append(slices.Clone(l), list("1111")...), 1024, api.ErrForm)
}

// noTrees are lists that are no trees, for each reason.
func noTrees() [][]api.Node {
	l := [][]api.Node{nil, {}}
	for _, signs := range []string{".", "|", "*", "a.", "a|", "*a", "ab.|", "a?.", ".ab", "a.b", "a|b", "ab", "__", "aab.", "ab.c", "aa?", "a?a", "^$", "aa__|"} {
		l = append(l, list(signs))
	}
	for _, kind := range []int{0, 8, 9, -1, 255, 256 + api.NdSet, 1<<32 + api.NdCat, math.MinInt, math.MaxInt} {
		odd := api.Node{Kind: kind}
		l = append(l, []api.Node{odd}, append([]api.Node{odd}, list("a.")...), append(list("a"), odd), append(list("aa"), odd), append([]api.Node{odd}, list("?")...))
	}
	for _, n := range []int{513, 514, 1 << 16} {
		l = append(l, append(list("a"), slices.Repeat(list("0"), n-1)...), slices.Repeat(list("a"), n), slices.Repeat(list("."), n))
	}
	for _, signs := range []string{"_", "^", "$", "ab.", "ab|", "a*"} {
		for _, n := range []api.Node{{Set: api.Set{1}}, {Set: api.Set{0, 0, 0, 1 << 63}}} {
			odd := list(signs)
			odd[len(odd)-1].Set = n.Set
			l = append(l, odd)
		}
	}
	for _, signs := range []string{"a", "_", "^", "$", "ab.", "ab|"} {
		for _, n := range []api.Node{{Lo: 1}, {Hi: 1}, {Hi: -1}, {Lo: -1}, {Lo: 1, Hi: 1}} {
			odd := list(signs)
			odd[len(odd)-1].Lo, odd[len(odd)-1].Hi = n.Lo, n.Hi
			l = append(l, odd)
		}
	}
	for _, x := range [][2]int{{33, 33}, {33, -1}, {-1, 3}, {-1, -1}, {3, 2}, {1, 0}, {0, 33}, {0, -2}, {math.MinInt, math.MaxInt}, {math.MaxInt, -1}, {0, math.MaxInt}} {
		l = append(l, append(list("a"), rep(x[0], x[1])))
	}
	return l
}

func TestOneOfNoTrees(t *testing.T) { // P15.1: One
	for _, l := range noTrees() {
		if isTree(l) {
			t.Fatalf("a tree: %s", briefTree(l))
		}
		for _, most := range []int{math.MinInt, -1, 0, 1, 1024, math.MaxInt} {
			wantOneError(t, "no tree", l, most, api.ErrForm)
		}
		// Any of what is no tree may be one.
		if !isTree(anyThen(l)) {
			wantOneError(t, "any of no tree", Any(l), 1024, api.ErrForm)
		}
	}
	for _, l := range [][]api.Node{list("a?"), list("_"), append(list("a"), rep(32, 32)), append(list("a"), rep(32, -1)), append(list("a"), slices.Repeat(list("0"), 511)...)} {
		wantOne(t, "a tree", l, 1024)
		if _, e := One(l, 1024); e != api.OK {
			t.Errorf("%s: %d", briefTree(l), e)
		}
	}
}

// ofSize is a pattern whose tree has just so many states, from 595 to 601.
func ofSize(t *testing.T, size int) string {
	t.Helper()
	p := "(a{31}){9}"
	for odd := size%2 == 1; odd; odd = false {
		p += "a*"
	}
	left := size - facts.Size(parsed(t, p))
	p += fmt.Sprintf("a{%d}", (left-2)/2)
	if got := facts.Size(parsed(t, p)); got != size {
		t.Fatalf("%q has %d states", p, got)
	}
	return p
}

func TestOneThatIsTooLong(t *testing.T) { // P15.1: One
	for size := 595; size <= 601; size++ {
		l := parsed(t, ofSize(t, size))
		want, wantAny := api.OK, api.OK
		if size > 600 {
			want = api.ErrLong
		}
		if size > 595 {
			wantAny = api.ErrLong
		}
		for _, x := range []struct {
			l []api.Node
			e api.Errno
		}{{l, want}, {Any(l), wantAny}} {
			if _, e := One(x.l, 1024); e != x.e {
				t.Errorf("size %d: %d, not %d", size, e, x.e)
			}
			wantOne(t, "long", x.l, 1024)
			// What is too long has no states that could be too many.
			if x.e == api.ErrLong {
				for _, most := range []int{math.MinInt, -1, 0, 1, math.MaxInt} {
					wantOneError(t, "too long", x.l, most, api.ErrLong)
				}
			} else {
				wantOneError(t, "not too long", x.l, 1, api.ErrStates)
			}
		}
	}
	// So is what would have far more.
	wantOneError(t, "far too long", append(list("a"), slices.Repeat([]api.Node{rep(32, 32)}, 300)...), 1024, api.ErrLong)
}

func TestMostOfOne(t *testing.T) { // P15.1: One
	for _, p := range append(patterns(), "a{30}", "[ab]*a[ab]{6}", "a[ab]{9}", "([^]{7})*|([^]{8})*") {
		l := parsed(t, p)
		for k, own := range treesOf(l) {
			least := sizes(l)[k]
			for _, most := range []int{math.MinInt, -1024, -1, 0, 1, least - 2, least - 1} {
				if most < least {
					wantOneError(t, p, own, most, api.ErrStates)
				}
			}
			want, e := oneOf(own, least)
			if e != api.OK {
				t.Fatalf("%q: %d", p, e)
			}
			// More than api.MaxStates may be asked for, too.
			for _, most := range []int{least, least + 1, 1024 + least, 4096, math.MaxInt - 1, math.MaxInt} {
				if d, e := One(own, most); e != api.OK || !sameDfa(d, want) {
					t.Errorf("%q, %d: %d, %s, not %s", p, most, e, briefDfa(d), briefDfa(want))
				}
			}
		}
	}
	wantOneError(t, "far too many", parsed(t, "(a|b)*a(a|b){31}"), 1024, api.ErrStates)
	wantOneError(t, "far too many", parsed(t, "(a|b)*a(a|b){31}"), 4096, api.ErrStates)
}

// TestMoreThanAnAutomatonMayHave has more states than an automaton may have, but no more than are let be.
func TestMoreThanAnAutomatonMayHave(t *testing.T) { // P15.1: One: mini's error
	p := "[ab]*a[ab]{10}|[cd]*c[cd]{9}|[ef]*e[ef]{8}|[gh]*g[gh]{7}|[ij]*i[ij]{6}|(x{31}){4}xx"
	l, longer := parsed(t, p), parsed(t, p+"x")
	n, _ := nfa.Build(l)
	more, _ := nfa.Build(longer)
	if a, b := subset.Count(n, 9999), subset.Count(more, 9999); a != 4096 || b != 4097 {
		t.Fatalf("%d and %d states", a, b)
	}
	want, _ := oneOf(l, 4096)
	for _, most := range []int{4096, 4097, math.MaxInt} {
		if d, e := One(l, most); e != api.OK || !sameDfa(d, want) {
			t.Errorf("4096 states, %d: %d", most, e)
		}
	}
	wantOneError(t, "4096 states", l, 4095, api.ErrStates)
	wantOneError(t, "4097 states", longer, 4096, api.ErrStates)
	wantOneError(t, "4097 states", longer, 4097, api.ErrForm)
	wantOneError(t, "4097 states", longer, math.MaxInt, api.ErrForm)
}

func TestOneOfManyTrees(t *testing.T) { // P15.1: One
	next := generator()
	counts := map[api.Errno]int{}
	for k := range 400 {
		l := grown(next, 1+next([]int{6, 20, 40}[k%3]), next(10))
		most := []int{1024, 4 + next(20), next(6) - 1}[next(3)]
		// There may be far too many.
		wantOne(t, "grown", l, most)
		_, e := One(l, most)
		counts[e]++
		if k%4 == 0 && len(l) > 1 {
			l[next(len(l))] = list("a.*^")[next(4)]
			wantOne(t, "changed", l, most)
			_, e = One(l, most)
			counts[e]++
		}
	}
	if counts[api.OK] < 100 || counts[api.ErrStates] < 100 || counts[api.ErrForm] < 20 {
		t.Errorf("%v", counts)
	}
	for n := 1; n <= 4; n++ {
		smallTrees(n, "a~^$.|*+", func(l []api.Node) { wantOne(t, "small", l, 1+next(6)) })
	}
}

// wrong are patterns that are wrong, with the place and the error.
func wrong() map[string]struct {
	at int
	e  api.Errno
} {
	return map[string]struct {
		at int
		e  api.Errno
	}{
		"a(": {2, api.ErrForm}, "(": {1, api.ErrForm}, "(a": {2, api.ErrForm}, "a)": {1, api.ErrForm}, ")": {0, api.ErrForm}, "*": {0, api.ErrForm}, "a|*": {2, api.ErrForm}, "(+a)": {1, api.ErrForm}, "ab{": {2, api.ErrForm}, "a{33}": {1, api.ErrForm}, "a{2,1}": {1, api.ErrForm}, "a[": {1, api.ErrForm}, "ab[z-a]": {2, api.ErrForm}, "abc\\": {3, api.ErrForm}, "\\q": {0, api.ErrForm}, "((((": {4, api.ErrForm},
		strings.Repeat("a", 201): {0, api.ErrLong}, strings.Repeat("(", 201): {0, api.ErrLong}, strings.Repeat("(", 21) + "a" + strings.Repeat(")", 21): {20, api.ErrLong}, "a" + strings.Repeat("(", 21): {21, api.ErrLong}, "aa" + strings.Repeat("(", 25) + "*": {22, api.ErrLong},
		strings.Repeat("a", 199) + "(": {200, api.ErrForm}, strings.Repeat("a", 199) + ")": {199, api.ErrForm},
	}
}

func TestPatternsThatAreWrong(t *testing.T) { // P15.2
	for p, x := range wrong() {
		if _, at, e := parse.Pattern(p); at != x.at || e != x.e {
			t.Errorf("%q: %d at %d", p, e, at)
		}
		// A most that may not be, or is too low, is told behind that.
		for _, most := range append(edges(), 9) {
			wantError(t, p, most, x.at, x.e)
		}
	}
}

func TestMostThatMayNotBe(t *testing.T) { // P15.2
	for _, p := range []string{"", "a", "[]", "^a$", "(a|b)*a(a|b){31}", ofSize(t, 596), ofSize(t, 601), "((a{9}){9}){9}"} {
		for _, most := range []int{math.MinInt, math.MinInt + 1, -1 << 32, -1025, -1024, -2, -1, 0, 1025, 1026, 4096, 1 << 20, math.MaxInt32, 1 << 32, 1<<32 + 9, math.MaxInt - 1, math.MaxInt} {
			wantError(t, p, most, 0, api.ErrArg)
		}
	}
	for _, most := range []int{3, 4, 1023, 1024} {
		wantProgram(t, "a", most, list("a"))
	}
	// No automaton of a tree has one state alone: the first one is met never again.
	for _, p := range patterns() {
		wantError(t, p, 1, 0, api.ErrStates)
	}
	wantProgram(t, "", 2, list("_"))
	wantProgram(t, "[]", 2, list("-"))
}

func TestTooLong(t *testing.T) { // P15.2
	wantProgram(t, ofSize(t, 595), 1024, parsed(t, ofSize(t, 595)))
	for size := 596; size <= 601; size++ {
		wantError(t, ofSize(t, size), 1024, 0, api.ErrLong)
	}
	for _, p := range []string{"((a{9}){9}){9}", "(a{32}){32}", "(((a{32}){32}){32}){32}", "[ab]*a[ab]{12}(a{32}){10}"} {
		for _, most := range []int{1, 99, 1024} {
			wantError(t, p, most, 0, api.ErrLong)
		}
	}
	// A tree that is not too long, but any of which is, is told behind the tree's states.
	for size := 596; size <= 600; size++ {
		p := ofSize(t, size)
		n, _ := nfa.Build(parsed(t, p))
		least := subset.Count(n, 1024)
		if least < 200 || least > 400 {
			t.Fatalf("%q: %d states", p, least)
		}
		for _, most := range []int{1, 2, least - 1} {
			wantError(t, p, most, 0, api.ErrStates)
		}
		for _, most := range []int{least, least + 1, 1024} {
			wantError(t, p, most, 0, api.ErrLong)
		}
	}
	p := "[ab]*a[ab]{10}(a{31}){8}" // some 540 states
	p += fmt.Sprintf("a{%d}", (600-facts.Size(parsed(t, p)))/2-1)
	if size := facts.Size(parsed(t, p)); size < 596 || size > 600 {
		t.Fatalf("%q: %d states", p, size)
	}
	wantError(t, p, 1024, 0, api.ErrStates)
}

// TestTheMostNodes has patterns of as many nodes as one can be of: so there is none whose tree may be, but any of which is none.
func TestTheMostNodes(t *testing.T) { // P15.2
	for p, nodes := range map[string]int{strings.Repeat("|", 200): 401, strings.Repeat("a", 200): 399, strings.Repeat("^", 200): 399, strings.Repeat("()", 100): 199, "a" + strings.Repeat("*", 199): 200, strings.Repeat("a|", 100): 201} {
		l := parsed(t, p)
		if len(l) != nodes || len(l) > 401 {
			t.Errorf("%q: %d nodes", p[:9], len(l))
		}
		wantCompiled(t, p, 1024)
	}
	wantError(t, strings.Repeat("|", 200), 1024, 0, api.ErrLong)
	// Few states, but many nodes.
	wantProgram(t, strings.Repeat("a", 200), 1024, parsed(t, strings.Repeat("a", 200)))
	p := strings.Repeat("|", 110) + "a" + strings.Repeat("*", 80) + "{0}"
	if wantCompiled(t, p, 1024) != api.OK {
		t.Errorf("%q is not compiled", p)
	}
}

// TestWhichHasTooMany has patterns of which one automaton alone has too many states.
func TestWhichHasTooMany(t *testing.T) { // P15.2
	for _, x := range []struct {
		p     string
		which int
	}{
		{"[^]{30}", 0}, {"([^]{7})*|([^]{8})*|([^]{9})*", 0}, {"([^]{31})*|([^]{11})*|([^]{3})*", 0}, {"[^]{0,9}a{0}", 0}, {"[^]", 0},
		{"a[ab]{6}", 1}, {"^[ab]{6}a", 1}, {"^a", 1}, {"a[ab]{8}", 1}, {"^a[ab]{2}", 1},
		{"[ab]{6}a", 2}, {"a[ab]{6}$", 2}, {"a$", 2}, {"[ab]{8}a", 2}, {"[ab]{2}a$", 2},
	} {
		l := parsed(t, x.p)
		all := sizes(l)
		least := slices.Max(all[:])
		rest := slices.Max(slices.Delete(slices.Clone(all[:]), x.which, x.which+1))
		if all[x.which] != least || rest >= least || least > 1024 {
			t.Fatalf("%q: %v", x.p, all)
		}
		for _, most := range []int{rest, least - 1} {
			wantError(t, x.p, most, 0, api.ErrStates)
		}
		for _, most := range []int{least, 1024} {
			wantProgram(t, x.p, most, l)
		}
		wantError(t, x.p, rest-1, 0, api.ErrStates)
	}
	// Just as many as there may be at all, and one more.
	for k, p := range []string{"([^]{31})*|([^]{11})*|([^]{3})*", "a[ab]{9}", "[ab]{9}a", "(a[ab]{9}|[ab]{9}a)"} {
		if got := greatest(parsed(t, p)); k == 0 && got != 1024 || k > 0 && got < 1025 || k > 0 && k < 3 && got != 1025 {
			t.Fatalf("%q: %d states", p, got)
		}
		if k == 0 {
			wantProgram(t, p, 1024, parsed(t, p))
			wantError(t, p, 1023, 0, api.ErrStates)
		} else {
			wantError(t, p, 1024, 0, api.ErrStates)
		}
	}
}

func TestMostOfCompile(t *testing.T) { // P15.2
	for _, p := range patterns() {
		least := greatest(parsed(t, p))
		wantError(t, p, least-1, 0, api.ErrStates)
		wantProgram(t, p, least, parsed(t, p))
		wantProgram(t, p, 1024, parsed(t, p))
	}
}

// TestEachPart asks for each part of a program by itself: by which texts are told by it.
func TestEachPart(t *testing.T) { // P15.2
	p, q := compiled(t, "ab*"), compiled(t, "b*a")
	if !slices.Equal(p.Tree, list("ab*.")) || !slices.Equal(q.Tree, list("b*a.")) {
		t.Errorf("%s, %s", briefTree(p.Tree), briefTree(q.Tree))
	}
	if !sameDfa(p.Search, q.Back) || !sameDfa(p.Back, q.Search) || sameDfa(p.Search, p.Back) || sameDfa(p.Forward, q.Forward) || sameDfa(p.Forward, p.Search) || sameDfa(p.Forward, p.Back) {
		t.Errorf("%s, %s", brief(p), brief(q))
	}
	for text, want := range map[string][3]bool{"ab": {true, true, false}, "ba": {false, true, true}, "cab": {false, true, false}, "cba": {false, true, true}, "bac": {false, false, false}, "a": {true, true, true}, "b": {}, "": {}} {
		w := []int{}
		for _, b := range []byte(text) {
			w = append(w, int(b))
		}
		if got := [3]bool{dfa.Accepts(p.Forward, w), dfa.Accepts(p.Search, w), dfa.Accepts(p.Back, w)}; got != want {
			t.Errorf("%q: %v", text, got)
		}
	}
	// A tree, and that of a tree that is written otherwise.
	for _, l := range [][2]string{{"abc", "a(bc)"}, {"a|b", "[ab]"}, {"a|b", "b|a"}, {"aa*", "a+"}} {
		p, q := compiled(t, l[0]), compiled(t, l[1])
		if slices.Equal(p.Tree, q.Tree) || !sameDfa(p.Forward, q.Forward) || !sameDfa(p.Search, q.Search) || !sameDfa(p.Back, q.Back) {
			t.Errorf("%v: %s, %s", l, brief(p), brief(q))
		}
	}
}

func TestManyPatterns(t *testing.T) { // P15.2, P15.3
	next := generator()
	counts := map[api.Errno]int{}
	for range 300 {
		p := mixedPattern(next, 1+next(4))
		for _, most := range []int{1024, 2 + next(30), edges()[next(len(edges()))]} {
			counts[wantCompiled(t, p, most)]++
		}
		// A byte is changed, or left out.
		at := next(len(p))
		counts[wantCompiled(t, p[:at]+string("()*|[]\\{^a"[next(10)])+p[at+1:], 200)]++
		counts[wantCompiled(t, p[:at]+p[at+1:], 200)]++
	}
	for e, n := range map[api.Errno]int{api.OK: 300, api.ErrArg: 50, api.ErrForm: 50, api.ErrStates: 50} {
		if counts[e] < n {
			t.Errorf("%v", counts)
		}
	}
	for range 2000 {
		var p []byte
		for range next(12) {
			p = append(p, "ab()*|^$.[]{}12,\\x\x00\xff"[next(20)])
		}
		wantCompiled(t, string(p), 1+next(40))
	}
}

func TestRight(t *testing.T) { // P15.3
	for _, p := range patterns() {
		made := compiled(t, p)
		wantRight(t, p, made, true)
		wantRight(t, p, copied(made), true)
		// So it is, where fewer states are let be.
		wantError(t, p, greatest(made.Tree)-1, 0, api.ErrStates)
		wantRight(t, p, made, true)
	}
	wantRight(t, "nothing", api.Program{}, false)
	// What nobody could write.
	for _, signs := range []string{"abc..", "abc||", "ab|2^.$|", "a1111", "a~.b#.|0"} {
		made, e := partsOf(list(signs), 1024)
		if e != api.OK {
			t.Fatalf("%s: %d", signs, e)
		}
		wantRight(t, signs, made, true)
	}
}

// changes hands programs to a function of each of which one entry of an automaton is not as it was.
func changes(was api.Program, which int, f func(what string, p api.Program)) {
	change := func(what string, how func(d *api.Dfa)) {
		p := copied(was)
		how(automata(&p)[which])
		f(what, p)
	}
	d := *automata(&was)[which]
	for at, to := range d.Class {
		for _, x := range []int{to - 1, to + 1, (to + 1) % max(d.Width, 2)} {
			change("a class", func(d *api.Dfa) { d.Class[at] = x })
		}
	}
	for at, to := range d.Next {
		for _, x := range []int{to - 1, to + 1, (to + 1) % max(len(d.Accept), 2), math.MaxInt} {
			change("an entry of Next", func(d *api.Dfa) { d.Next[at] = x })
		}
	}
	for at := range d.Accept {
		change("an entry of Accept", func(d *api.Dfa) { d.Accept[at] = !d.Accept[at] })
	}
	for _, x := range []int{d.Width - 1, d.Width + 1, 0, -d.Width, math.MaxInt} {
		change("Width", func(d *api.Dfa) { d.Width = x })
	}
	for _, x := range []int{1, -1, len(d.Accept) - 1, math.MinInt} {
		if x != 0 {
			change("Start", func(d *api.Dfa) { d.Start = x })
		}
	}
	change("Class shorter", func(d *api.Dfa) { d.Class = d.Class[:258] })
	change("Class longer", func(d *api.Dfa) { d.Class = append(d.Class, 0) })
	change("no Class", func(d *api.Dfa) { d.Class = nil })
	change("Next shorter", func(d *api.Dfa) { d.Next = d.Next[:len(d.Next)-1] })
	change("Next longer", func(d *api.Dfa) { d.Next = append(d.Next, 0) })
	change("no Next", func(d *api.Dfa) { d.Next = nil })
	change("Accept shorter", func(d *api.Dfa) { d.Accept = d.Accept[:len(d.Accept)-1] })
	change("Accept longer", func(d *api.Dfa) { d.Accept = append(d.Accept, false) })
	change("no Accept", func(d *api.Dfa) { d.Accept = nil })
	change("no automaton", func(d *api.Dfa) { *d = api.Dfa{} })
	change("one state more", func(d *api.Dfa) {
		d.Accept = append(d.Accept, false)
		d.Next = append(d.Next, make([]int, d.Width)...)
	})
}

func TestOneEntryIsOther(t *testing.T) { // P15.3
	for _, p := range []string{"a", "", "ab|b", "^a", "[]"} {
		was := compiled(t, p)
		for which := range 3 {
			changes(was, which, func(what string, p api.Program) { wantRight(t, what, p, false) })
		}
		wantRight(t, p, was, true)
	}
}

func TestNumberedOtherwise(t *testing.T) { // P15.3
	next := generator()
	for _, p := range []string{"a", "ab", "^a", "a$", "(a|b)*abb", "ab|ba", "a[^b]c"} {
		was := compiled(t, p)
		for which := range 3 {
			d := *automata(&was)[which]
			for range 10 {
				q := copied(was)
				state, class := places(next, len(d.Accept)), places(next, d.Width)
				*automata(&q)[which] = renumbered(d, state)
				wantRight(t, "other numbers of states", q, slices.IsSorted(state))
				*automata(&q)[which] = reclassed(d, class)
				wantRight(t, "other numbers of classes", q, slices.IsSorted(class))
			}
			// One that is not the least.
			n, _ := nfa.Build(treesOf(was.Tree)[which])
			q := copied(was)
			*automata(&q)[which], _ = subset.Build(n, 1024)
			wantRight(t, "not the least", q, false)
		}
	}
}

func TestOfAnother(t *testing.T) { // P15.3
	l := []string{"a", "b", "ab", "a|b", "^a", "a$", "", "[]", "a*", "ab*", "b*a", "aab"}
	for _, p := range l {
		for _, q := range l {
			a, b := compiled(t, p), compiled(t, q)
			for which := range 3 {
				mix := copied(a)
				*automata(&mix)[which] = *automata(&b)[which]
				wantRight(t, p+" with one of "+q, mix, sameDfa(*automata(&a)[which], *automata(&b)[which]))
			}
			mix := copied(a)
			mix.Tree = b.Tree
			wantRight(t, p+" with the tree of "+q, mix, p == q)
			for _, order := range [][3]int{{1, 0, 2}, {0, 2, 1}, {2, 1, 0}, {1, 2, 0}, {2, 0, 1}} {
				mix := copied(a)
				for k, from := range order {
					*automata(&mix)[k] = *automata(&a)[from]
				}
				wantRight(t, p+" in another order", mix, same(a, mix))
			}
		}
	}
}

func TestOtherTrees(t *testing.T) { // P15.3
	was := compiled(t, "abc")
	for _, l := range noTrees() {
		p := copied(was)
		p.Tree = l
		wantRight(t, "no tree", p, false)
		wantRight(t, "no tree alone", api.Program{Tree: l}, false)
	}
	// A tree alone does not matter, as long as it asks for the same.
	for signs, is := range map[string]bool{"abc..": true, "ab.c.1": true, "_ab.c..": true, "ab.c._.": true, "abc||": false, "ab.": false, "ab.c*.": false, "cb.a.": false, "^abc...": false, "ab.c.-|": true, "ab.c.a0.": true, "ab.c.?": false} {
		p := copied(was)
		p.Tree = list(signs)
		wantRight(t, signs, p, is)
	}
	for at := range was.Tree {
		for _, n := range append(list("b-_^$.|*?"), api.Node{}, api.Node{Kind: api.NdCat, Lo: 1}) {
			p := copied(was)
			p.Tree[at] = n
			wantRight(t, "a node", p, isRight(p))
		}
	}
}

// TestTooManyStates has programs that are as they should be, but of more states than there may be.
func TestTooManyStates(t *testing.T) { // P15.3
	for p, is := range map[string]bool{"([^]{31})*|([^]{11})*|([^]{3})*": true, "a[ab]{8}": true, "[ab]{8}a": true, "a[ab]{9}": false, "[ab]{9}a": false, "([^]{32})*|([^]{31})*|([^]{3})*": false} {
		l := parsed(t, p)
		made, e := partsOf(l, 4096)
		if e != api.OK {
			t.Fatalf("%q: %d", p, e)
		}
		wantRight(t, p, made, is)
		if got := greatest(l) <= 1024; got != is {
			t.Errorf("%q: %v", p, sizes(l))
		}
	}
	// Nor may they be too long.
	for size := 595; size <= 600; size++ {
		l := parsed(t, ofSize(t, size))
		forward, _ := oneOf(l, 1024)
		made, _ := partsOf(parsed(t, ofSize(t, 595)), 1024)
		made.Tree, made.Forward = l, forward
		if size > 595 {
			made.Search, made.Back = api.Dfa{}, api.Dfa{}
		}
		wantRight(t, "long", made, size == 595)
	}
}

// TestRawPrograms has any fields.
func TestRawPrograms(t *testing.T) { // P1, P15.3
	next := generator()
	counts := map[bool]int{}
	l := []api.Program{compiled(t, "a"), compiled(t, "^"), compiled(t, "ab|b"), compiled(t, "a*"), {}}
	for range 3000 {
		p := copied(l[next(len(l))])
		for range next(3) {
			x := edges()[next(len(edges()))]
			d := automata(&p)[next(3)]
			switch next(8) {
			case 0:
				d.Start = x
			case 1:
				d.Width = x
			case 2:
				if len(d.Class) > 0 {
					d.Class[next(len(d.Class))] = x
				}
			case 3:
				d.Next = append(d.Next[:next(len(d.Next)+1)], x)
			case 4:
				d.Accept = append(d.Accept[:next(len(d.Accept)+1)], next(2) == 0)
			case 5:
				p.Tree = append(p.Tree[:next(len(p.Tree)+1)], api.Node{Kind: x, Lo: next(2)})
			case 6:
				*d = *automata(&l[next(len(l))])[next(3)]
			default:
				p.Tree = list([]string{"a", "^", "ab.b|", "a*", "a1", "b", "ab"}[next(7)])
			}
		}
		is := isRight(p)
		wantRight(t, "raw", p, is)
		counts[is]++
	}
	if counts[true] < 300 || counts[false] < 1000 {
		t.Errorf("%v", counts)
	}
}

// wantFitting holds three automata of a tree against which parts of some texts fit it.
func wantFitting(t *testing.T, what string, l []api.Node, d [3]api.Dfa, texts []string, counts map[string]int) {
	t.Helper()
	n, e := nfa.Build(l)
	if e != api.OK {
		t.Fatalf("%s: %d", what, e)
	}
	for _, text := range texts {
		of := fits(l, text)
		turned := backwards(text)
		for i := range len(text) + 1 {
			for j := i; j <= len(text); j++ {
				fit, from, upTo := of.has(i, j), false, false
				for k := i; k <= j; k++ {
					from = from || of.has(k, j)
					upTo = upTo || of.has(i, k)
				}
				if nfa.Fits(n, text, i, j) != fit {
					t.Fatalf("%s: does %q from %d to %d fit?", what, text, i, j)
				}
				word, _ := dfa.Word(text, i, j)
				back, _ := dfa.Word(turned, len(text)-j, len(text)-i)
				if !slices.Equal(word, symbols(text, i, j)) || !slices.Equal(back, symbols(turned, len(text)-j, len(text)-i)) {
					t.Fatalf("%q from %d to %d: %v, %v", text, i, j, word, back)
				}
				if got := [3]bool{dfa.Accepts(d[0], word), dfa.Accepts(d[1], word), dfa.Accepts(d[2], back)}; got != [3]bool{fit, from, upTo} {
					t.Fatalf("%s: %q from %d to %d: %v, not %v, %v, %v", what, text, i, j, got, fit, from, upTo)
				}
				count(text, i, j, [3]bool{fit, from, upTo}, counts)
			}
		}
	}
}

// count counts what was asked for.
func count(text string, i, j int, is [3]bool, counts map[string]int) {
	where := "inner"
	switch {
	case text == "":
		where = "empty text"
	case i == j:
		where = "empty"
	case i == 0 && j == len(text):
		where = "whole"
	case i == 0:
		where = "beginning"
	case j == len(text):
		where = "end"
	}
	counts[fmt.Sprintf("%s %v", where, is)]++
}

// wantCounts asks for each kind of part at least so often: with all that may be told of it.
func wantCounts(t *testing.T, counts map[string]int, least int) {
	t.Helper()
	for _, where := range []string{"inner", "whole", "beginning", "end", "empty", "empty text"} {
		kinds := [][3]bool{{false, false, false}, {true, true, true}}
		if !strings.HasPrefix(where, "empty") {
			kinds = append(kinds, [3]bool{false, true, false}, [3]bool{false, false, true}, [3]bool{false, true, true})
		}
		for _, is := range kinds {
			if what := fmt.Sprintf("%s %v", where, is); counts[what] < least {
				t.Errorf("only %d of: %s", counts[what], what)
			}
		}
	}
}

func TestFits(t *testing.T) { // P15.4
	counts := map[string]int{}
	texts := append(textsOf("ab", 4), textsOf("ac\n", 3)...)
	texts = append(texts, "aabbab", "abcabc", "bacab", "12.5", "a\x00b", "\xff\x00", "aaaaaaa")
	for _, p := range patterns() {
		made := compiled(t, p)
		wantFitting(t, p, made.Tree, [3]api.Dfa{made.Forward, made.Search, made.Back}, texts, counts)
	}
	wantCounts(t, counts, 30)
}

func TestFitsOfManyPatterns(t *testing.T) { // P15.4
	next := generator()
	counts := map[string]int{}
	texts := append(textsOf("ab", 3), "abab", "aabba", "abcba", "c", "cab", "bca")
	compiledWell := 0
	for range 150 {
		p := mixedPattern(next, 3)
		made, _, e := Compile(p, 1024)
		if e == api.OK {
			compiledWell++
			wantFitting(t, p, made.Tree, [3]api.Dfa{made.Forward, made.Search, made.Back}, texts, counts)
		}
	}
	if compiledWell < 140 {
		t.Errorf("only %d are compiled", compiledWell)
	}
	wantCounts(t, counts, 20)
}

// TestFitsOfTrees has all small trees, and some that are greater, of which many are no pattern's.
func TestFitsOfTrees(t *testing.T) { // P15.1, P15.4
	counts := map[string]int{}
	texts := textsOf("ab", 4)
	of := func(l []api.Node) {
		turned := turnedOf(l)
		var d [3]api.Dfa
		for k, own := range [][]api.Node{l, Any(l), Any(turned)} {
			var e api.Errno
			if d[k], e = One(own, 1024); e == api.ErrStates || e == api.ErrLong {
				return
			}
		}
		wantFitting(t, briefTree(l), l, d, texts, counts)
	}
	for n := 1; n <= 4; n++ {
		smallTrees(n, "a^$_.|*", of)
	}
	smallTrees(5, "a^$.|", of)
	next := generator()
	for range 100 {
		of(grown(next, 5+next(25), next(10)))
	}
	wantCounts(t, counts, 20)
}

// roomy is the same list, with other nodes in the room behind it.
func roomy(l []api.Node) []api.Node {
	return append(slices.Clone(l), api.Node{Kind: -7}, api.Node{Kind: -8}, api.Node{Kind: -9}, api.Node{Kind: -10})[:len(l)]
}

// roomyDfa is the same automaton, with other entries in the room behind its lists.
func roomyDfa(d api.Dfa) api.Dfa {
	d.Class = append(slices.Clone(d.Class), -7, 7)[:len(d.Class)]
	d.Next = append(slices.Clone(d.Next), -7, 7)[:len(d.Next)]
	d.Accept = append(slices.Clone(d.Accept), true, false)[:len(d.Accept)]
	return d
}

func TestWhatIsHandedInStays(t *testing.T) { // P2, rules 3 and 4
	for _, signs := range []string{"", "a", "ab.", "ab.c*|", "^a.$.", "ab", ".", "a0"} {
		was := list(signs)
		l := roomy(was)
		Any(l)
		One(l, 1024)
		One(l, 1)
		p, _ := partsOf(was, 1024)
		made := api.Program{Tree: l, Forward: roomyDfa(p.Forward), Search: roomyDfa(p.Search), Back: roomyDfa(p.Back)}
		wantRight(t, signs, made, isTree(was))
		made.Back.Start = 1
		wantRight(t, signs, made, false)
		made.Back.Start = 0
		if !slices.Equal(l, was) || !slices.Equal(l[:len(l)+4], roomy(was)[:len(l)+4]) || isTree(was) && !same(made, p) {
			t.Errorf("%s is changed: %s", signs, brief(made))
		}
		for _, d := range automata(&made) {
			if class, to, accept := d.Class[len(d.Class):len(d.Class)+2], d.Next[len(d.Next):len(d.Next)+2], d.Accept[len(d.Accept):len(d.Accept)+2]; !slices.Equal(class, []int{-7, 7}) || !slices.Equal(to, []int{-7, 7}) || !slices.Equal(accept, []bool{true, false}) {
				t.Errorf("%s: %v, %v, %v lie behind the lists", signs, class, to, accept)
			}
		}
	}
	// What was handed in is not kept: it may be changed later.
	l := list("ab.c*|")
	any := Any(l)
	d, _ := One(l, 1024)
	want, _ := oneOf(l, 1024)
	wantAny := anyThen(l)
	for i := range l {
		l[i] = api.Node{Kind: 9}
	}
	if !slices.Equal(any, wantAny) || !sameDfa(d, want) {
		t.Errorf("%s, %s", briefTree(any), briefDfa(d))
	}
}

// lists has functions that write to each list of a program, whole and into the room behind it.
func lists(p *api.Program) []func() {
	l := []func(){func() {
		for i := range p.Tree[:cap(p.Tree)] {
			p.Tree[:cap(p.Tree)][i].Kind = -1
		}
	}}
	for _, d := range automata(p) {
		l = append(l, func() {
			for i := range d.Class[:cap(d.Class)] {
				d.Class[:cap(d.Class)][i] = -1
			}
		}, func() {
			for i := range d.Next[:cap(d.Next)] {
				d.Next[:cap(d.Next)][i] = -2
			}
		}, func() {
			for i := range d.Accept[:cap(d.Accept)] {
				d.Accept[:cap(d.Accept)][i] = !d.Accept[:cap(d.Accept)][i]
			}
		})
	}
	return l
}

func TestAnswersAreNew(t *testing.T) { // P2, rule 4
	for _, p := range []string{"a", "", "ab|b", "[]", "^a$", "aba"} {
		want, _ := partsOf(parsed(t, p), 1024)
		for k := range 10 {
			// The other lists of an answer stay, where one is written to.
			got := compiled(t, p)
			lists(&got)[k]()
			mine := copied(want)
			for i, of := range []struct{ to, from any }{
				{&mine.Tree, &got.Tree}, {&mine.Forward.Class, &got.Forward.Class}, {&mine.Forward.Next, &got.Forward.Next}, {&mine.Forward.Accept, &got.Forward.Accept}, {&mine.Search.Class, &got.Search.Class}, {&mine.Search.Next, &got.Search.Next}, {&mine.Search.Accept, &got.Search.Accept}, {&mine.Back.Class, &got.Back.Class}, {&mine.Back.Next, &got.Back.Next}, {&mine.Back.Accept, &got.Back.Accept},
			} {
				if is := fmt.Sprint(of.to) == fmt.Sprint(of.from); is == (i == k) {
					t.Errorf("%q: list %d, as list %d was written to", p, i, k)
				}
			}
			// Nor is it seen in another answer.
			wantProgram(t, p, 1024, want.Tree)
			wantOne(t, p, want.Tree, 1024)
		}
	}
	l := roomy(list("ab."))
	any := Any(l)
	for i := range any[:cap(any)] {
		any[:cap(any)][i] = api.Node{Kind: 9}
	}
	if !slices.Equal(l, list("ab.")) || !slices.Equal(Any(l), anyThen(l)) || l[:4][3].Kind != -7 {
		t.Errorf("%s", briefTree(l[:4]))
	}
	d, _ := One(l, 1024)
	for i := range d.Class[:cap(d.Class)] {
		d.Class[:cap(d.Class)][i] = -1
	}
	if want, _ := oneOf(l, 1024); !slices.Equal(d.Next, want.Next) || !slices.Equal(d.Accept, want.Accept) {
		t.Errorf("%s", briefDfa(d))
	}
	wantOne(t, "again", l, 1024)
}
