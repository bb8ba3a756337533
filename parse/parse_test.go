package parse

import (
	"math"
	"slices"
	"strings"
	"testing"

	"tatting/api"
	"tatting/lex"
	"tatting/tree"
)

const whole = math.MaxUint64 // a word of a set, with all of its bytes

// of has a token of each letter, at places that are none of a pattern's: a, b and so on sets, all others as in patterns; # is a repeat of 2 to 5, 0 a kind that is none, ! a repeat that no tree lets be.
func of(letters string) []api.Token {
	var l []api.Token
	for i, c := range []byte(letters) {
		l = append(l, token(c, place(i)))
	}
	return l
}

// place is where token i of of's stands.
func place(i int) int { return 1000 - 7*i }

func token(c byte, at int) api.Token {
	switch c {
	case '|':
		return api.Token{Kind: api.TkOr, At: at}
	case '(':
		return api.Token{Kind: api.TkOpen, At: at}
	case ')':
		return api.Token{Kind: api.TkClose, At: at}
	case '^':
		return api.Token{Kind: api.TkBegin, At: at}
	case '$':
		return api.Token{Kind: api.TkEnd, At: at}
	case '*':
		return repToken(at, 0, -1)
	case '+':
		return repToken(at, 1, -1)
	case '?':
		return repToken(at, 0, 1)
	case '#':
		return repToken(at, 2, 5)
	case '!':
		return repToken(at, 3, 2)
	case '0':
		return api.Token{At: at}
	}
	return api.Token{Kind: api.TkSet, At: at, Set: letter(c)}
}

func repToken(at, lo, hi int) api.Token { return api.Token{Kind: api.TkRep, At: at, Lo: lo, Hi: hi} }

// letter is the set of a letter, told as bits.
func letter(c byte) api.Set {
	var s api.Set
	s[c/64] = 1 << (c % 64)
	return s
}

// nodes has a node of each letter: of NdEmpty e, of NdBegin ^, of NdEnd $, of NdCat a dot, of NdOr |; repeats as in of; all others are sets.
func nodes(letters string) []api.Node {
	var l []api.Node
	for _, c := range []byte(letters) {
		l = append(l, node(c))
	}
	return l
}

func node(c byte) api.Node {
	switch c {
	case 'e':
		return api.Node{Kind: api.NdEmpty}
	case '^':
		return api.Node{Kind: api.NdBegin}
	case '$':
		return api.Node{Kind: api.NdEnd}
	case '.':
		return api.Node{Kind: api.NdCat}
	case '|':
		return api.Node{Kind: api.NdOr}
	case '*', '+', '?', '#':
		t := token(c, 0)
		return api.Node{Kind: api.NdRep, Lo: t.Lo, Hi: t.Hi}
	}
	return api.Node{Kind: api.NdSet, Set: letter(c)}
}

// ends are ends that tell nothing, where all groups are closed.
func ends() []int { return []int{0, 5, -1, 1 << 40, math.MinInt, math.MaxInt} }

// wantTree asks that tokens have a tree, whatever the end is, and that what follows holds of it.
func wantTree(t *testing.T, l []api.Token, want []api.Node) {
	t.Helper()
	for _, end := range ends() {
		if n, at, e := Of(l, end); e != api.OK || at != 0 || !slices.Equal(n, want) {
			t.Fatalf("Of(%v, %d): %v, %d, %d; not %v", l, end, n, at, e, want)
		}
	}
	wantWhatFollows(t, l, want)
}

// wantWhatFollows asks of the tree of tokens what P5.4 says.
func wantWhatFollows(t *testing.T, l []api.Token, n []api.Node) {
	t.Helper()
	if !tree.Right(n) {
		t.Fatalf("no tree: %v, of %v", n, l)
	}
	var told []api.Node
	for _, x := range n {
		if x.Kind == api.NdSet || x.Kind == api.NdBegin || x.Kind == api.NdEnd || x.Kind == api.NdRep {
			told = append(told, x)
		}
	}
	var asked []api.Node
	for _, x := range l {
		switch x.Kind {
		case api.TkSet:
			asked = append(asked, api.Node{Kind: api.NdSet, Set: x.Set})
		case api.TkBegin:
			asked = append(asked, api.Node{Kind: api.NdBegin})
		case api.TkEnd:
			asked = append(asked, api.Node{Kind: api.NdEnd})
		case api.TkRep:
			asked = append(asked, api.Node{Kind: api.NdRep, Lo: x.Lo, Hi: x.Hi})
		}
	}
	if !slices.Equal(told, asked) {
		t.Fatalf("%v are not the nodes of %v, in order", told, l)
	}
}

// wantError asks that tokens have an error at a place that is not the end.
func wantError(t *testing.T, l []api.Token, at int, e api.Errno) {
	t.Helper()
	for _, end := range ends() {
		wantErrorWithEnd(t, l, end, at, e)
	}
}

func wantErrorWithEnd(t *testing.T, l []api.Token, end, at int, e api.Errno) {
	t.Helper()
	if n, place, err := Of(l, end); err != e || place != at || len(n) != 0 {
		t.Fatalf("Of(%v, %d): %v, %d, %d; not %d at %d", l, end, n, place, err, e, at)
	}
}

// wantUnclosed asks that tokens have ErrForm at whatever the end is.
func wantUnclosed(t *testing.T, l []api.Token) {
	t.Helper()
	for _, end := range append(ends(), len(l), -len(l), 1) {
		wantErrorWithEnd(t, l, end, end, api.ErrForm)
	}
}

// wantPattern asks for a pattern's tree.
func wantPattern(t *testing.T, p, letters string) {
	t.Helper()
	if n, at, e := Pattern(p); e != api.OK || at != 0 || !slices.Equal(n, nodes(letters)) {
		t.Errorf("Pattern(%q): %v, %d, %d; not %s", p, n, at, e, letters)
	}
}

// wantPatternError asks that a pattern has an error at a place.
func wantPatternError(t *testing.T, p string, at int, e api.Errno) {
	t.Helper()
	if n, place, err := Pattern(p); err != e || place != at || len(n) != 0 {
		t.Errorf("Pattern(%q): %v, %d, %d; not %d at %d", p, n, place, err, e, at)
	}
}

func TestNoToken(t *testing.T) { // P5.1
	wantTree(t, nil, nodes("e"))
	wantTree(t, []api.Token{}, nodes("e"))
	wantPattern(t, "", "e")
}

func TestOneTokenOfEachKind(t *testing.T) { // P5.1, P5.2
	wantTree(t, of("a"), nodes("a"))
	wantTree(t, of("^"), nodes("^"))
	wantTree(t, of("$"), nodes("$"))
	wantTree(t, of("|"), nodes("ee|"))
	wantUnclosed(t, of("("))
	wantError(t, of(")"), place(0), api.ErrForm)
	for _, c := range []string{"*", "+", "?", "#"} {
		wantError(t, of(c), place(0), api.ErrForm)
	}
}

// TestTreesByHand has tokens, and the nodes of their tree.
func TestTreesByHand(t *testing.T) { // P5.1, P5.4
	for _, x := range [][2]string{
		// Several sides, some of them empty.
		{"a|b", "ab|"}, {"a|", "ae|"}, {"|a", "ea|"}, {"||", "ee|e|"}, {"|||", "ee|e|e|"}, {"a||b", "ae|b|"}, {"||a", "ee|a|"}, {"a||", "ae|e|"}, {"|||a", "ee|e|a|"}, {"a|||b", "ae|e|b|"},
		{"a|b|c", "ab|c|"}, {"a|b|c|d", "ab|c|d|"}, {"|a|", "ea|e|"}, {"^|$", "^$|"}, {"ab|cd", "ab.cd.|"}, {"ab|cd|", "ab.cd.|e|"}, {"a|bc|d", "abc.|d|"},
		// Several parts.
		{"ab", "ab."}, {"abc", "ab.c."}, {"abcd", "ab.c.d."}, {"^a$", "^a.$."}, {"^^", "^^."}, {"$^", "$^."}, {"^$", "^$."}, {"aaa", "aa.a."},
		// Groups about nothing, about one part, within one another.
		{"()", "e"}, {"(())", "e"}, {"((()))", "e"}, {"()()", "ee."}, {"()()()", "ee.e."}, {"a()", "ae."}, {"()a", "ea."}, {"(|)", "ee|"}, {"()|()", "ee|"}, {"(()())", "ee."}, {"(()|)", "ee|"},
		{"(a)", "a"}, {"((a))", "a"}, {"(^)", "^"}, {"($)", "$"}, {"(a)b", "ab."}, {"a(b)", "ab."}, {"(a)(b)", "ab."}, {"(a)|(b)", "ab|"}, {"(a*)", "a*"}, {"((a)*)", "a*"},
		{"a(bc)", "abc.."}, {"(ab)c", "ab.c."}, {"a(bc)d", "abc..d."}, {"a(b(cd))", "abcd..."}, {"((ab)c)d", "ab.c.d."}, {"(ab)(cd)", "ab.cd.."},
		{"a|(b|c)", "abc||"}, {"(a|b)|c", "ab|c|"}, {"(a|b)c", "ab|c."}, {"a(b|c)", "abc|."}, {"a(b|c)d", "abc|.d."}, {"(a|b)(c|d)", "ab|cd|."}, {"((a|b)c|d)", "ab|c.d|"}, {"a|(bc|d)", "abc.d||"},
		// Repeats: behind a part, one behind the other, behind groups, behind ends.
		{"a*", "a*"}, {"a**", "a**"}, {"a***", "a***"}, {"a*+?#", "a*+?#"}, {"a#?+*", "a#?+*"}, {"ab*", "ab*."}, {"a*b", "a*b."}, {"a*b*", "a*b*."}, {"ab*c", "ab*.c."}, {"abc*?", "ab.c*?."}, {"a*b+c?", "a*b+.c?."},
		{"a|b*", "ab*|"}, {"a*|b", "a*b|"}, {"a*|", "a*e|"}, {"|a*", "ea*|"}, {"a|b*|c", "ab*|c|"},
		{"()*", "e*"}, {"()*+", "e*+"}, {"(a)*", "a*"}, {"(a*)*", "a**"}, {"(a*)+?", "a*+?"}, {"(ab)*", "ab.*"}, {"(ab*)*", "ab*.*"}, {"(a|b)*", "ab|*"}, {"(a|b*)?", "ab*|?"}, {"(a|)*", "ae|*"}, {"((a|b)*c)+", "ab|*c.+"}, {"(ab)*#c", "ab.*#c."}, {"a(b)*", "ab*."}, {"a(bc)*d", "abc.*.d."}, {"()()*", "ee*."}, {"(())#", "e#"},
		{"^*", "^*"}, {"^**", "^**"}, {"$+", "$+"}, {"$+?", "$+?"}, {"^*$*", "^*$*."}, {"^?a", "^?a."}, {"a$#", "a$#."}, {"^|$?", "^$?|"},
	} {
		wantTree(t, of(x[0]), nodes(x[1]))
		wantPattern(t, strings.ReplaceAll(x[0], "#", "{2,5}"), x[1])
	}
}

func TestMoreAndMoreParts(t *testing.T) { // P5.1
	for n := 1; n <= 256; n++ {
		wantTree(t, of(strings.Repeat("a", n)), nodes("a"+strings.Repeat("a.", n-1)))
		wantTree(t, of(strings.Repeat("|", n-1)), nodes("e"+strings.Repeat("e|", n-1)))
		wantTree(t, of("a"+strings.Repeat("|a", n-1)), nodes("a"+strings.Repeat("a|", n-1)))
		wantTree(t, of("a"+strings.Repeat("*", n)), nodes("a"+strings.Repeat("*", n)))
		wantTree(t, of(strings.Repeat("()", n)), nodes("e"+strings.Repeat("e.", n-1)))
	}
}

func TestKindsThatAreNone(t *testing.T) { // P5.2
	kinds := []int{0, 8, 9, -1, -5, -7, 100, 255, 256 + api.TkSet, 1<<32 + api.TkRep, math.MaxInt, math.MinInt}
	for kind := -20; kind <= 30; kind++ {
		if kind < 1 || kind > 7 {
			kinds = append(kinds, kind)
		}
	}
	for _, kind := range kinds {
		for _, around := range [][2]string{{"", ""}, {"", "a"}, {"a", ""}, {"a|", "b"}, {"(", ")"}, {"()", "*"}, {"a*", "|"}, {"(", ""}, {"", "*"}, {"", ")"}} {
			for _, x := range []api.Token{{Kind: kind}, {Kind: kind, Lo: 1, Hi: 2, Set: api.Set{1}}, {Kind: kind, Hi: -1}} {
				l := append(of(around[0]), x)
				l[len(l)-1].At = 77
				wantError(t, append(l, of(around[1])...), 77, api.ErrKind)
			}
		}
	}
}

// lets says whether a tree lets a repeat's numbers be, by the words of chapter 4.
func lets(lo, hi int) bool {
	return 0 <= lo && lo <= 32 && (hi == -1 || lo <= hi && hi <= 32)
}

func TestBoundsOfRepeats(t *testing.T) { // P5.2
	numbers := []int{math.MinInt, math.MinInt + 1, -1 << 32, 1 << 31, 1 << 32, 1<<32 + 1, math.MaxInt - 1, math.MaxInt}
	for n := -4; n <= 36; n++ {
		numbers = append(numbers, n)
	}
	made := 0
	for _, lo := range numbers {
		for _, hi := range numbers {
			rep := repToken(33, lo, hi)
			l := append(of("ab|(c"), rep, token(')', 3))
			if lets(lo, hi) {
				made++
				want := append(nodes("ab.c"), api.Node{Kind: api.NdRep, Lo: lo, Hi: hi}, node('|'))
				wantTree(t, l, want)
				wantTree(t, append(of("ab|c"), rep), want)
				wantError(t, []api.Token{rep}, 33, api.ErrForm)
				continue
			}
			wantError(t, l, 33, api.ErrKind)
			wantError(t, append(of("a"), rep), 33, api.ErrKind)
			wantError(t, append(of("a*"), rep, token('b', 4)), 33, api.ErrKind)
			wantError(t, append(of("(a)"), rep), 33, api.ErrKind)
			// Where no part stands ahead ErrKind is told, too: the chapter names it first.
			wantError(t, []api.Token{rep}, 33, api.ErrKind)
			wantError(t, append(of("a("), rep, token(')', 4)), 33, api.ErrKind)
			wantError(t, append(of("a|"), rep), 33, api.ErrKind)
		}
	}
	if made != 33+33*34/2 {
		t.Errorf("%d bounds were made", made)
	}
}

func TestRepeatsBehindNoPart(t *testing.T) { // P5.2
	for _, c := range []string{"*", "+", "?", "#"} {
		for _, x := range []struct{ ahead, behind string }{
			{"", ""}, {"", "a"}, {"", "*"}, {"", "|a"}, {"", ")"}, {"", "("},
			{"(", ")"}, {"(", ""}, {"((", "))"}, {"a(", "b)"}, {"a*(", ")"}, {"()(", ")"}, {"(a)(", ")"}, {"a|(", ")"}, {"^(", ")"},
			{"|", ""}, {"||", ""}, {"a|", ""}, {"a|", "|b"}, {"a*|", "b"}, {"(|", ")"}, {"(a|", ")"}, {"()|", ""}, {"(a)|", "b"}, {"$|", ""},
		} {
			wantError(t, of(x.ahead+c+x.behind), place(len(x.ahead)), api.ErrForm)
			pattern := strings.ReplaceAll(x.ahead+c+x.behind, "#", "{2,5}")
			ahead := strings.ReplaceAll(x.ahead, "#", "{2,5}")
			wantPatternError(t, pattern, len(ahead), api.ErrForm)
		}
	}
}

func TestClosesThatCloseNothing(t *testing.T) { // P5.2
	for _, x := range []struct{ ahead, behind string }{
		{"", ""}, {"", ")"}, {"", "("}, {"", "(a)"}, {"", "*"}, {"", "a"}, {"a", ""}, {"a", "b"}, {"|", ""}, {"a|", ""}, {"a|b", "|c"}, {"a*", "*"}, {"^", ""}, {"$", ""},
		{"()", ""}, {"()", "("}, {"(a)", "("}, {"(a)", "b"}, {"(())", ""}, {"()()", "()"}, {"(a|b)*", "("}, {"((a)(b))", ")"},
	} {
		wantError(t, of(x.ahead+")"+x.behind), place(len(x.ahead)), api.ErrForm)
		wantPatternError(t, x.ahead+")"+x.behind, len(x.ahead), api.ErrForm)
	}
}

func TestDeepGroups(t *testing.T) { // P5.2
	open, closed := strings.Repeat("(", 20), strings.Repeat(")", 20)
	wantTree(t, of(open+closed), nodes("e"))
	wantTree(t, of(open+"a"+closed+"*"), nodes("a*"))
	wantTree(t, of("a"+open+"b"+closed+"c"), nodes("ab.c."))
	wantTree(t, of(open+closed+"|"+open+closed), nodes("ee|"))
	wantTree(t, of(strings.Repeat(open+"a"+closed, 5)), nodes("a"+strings.Repeat("a.", 4)))
	wantTree(t, of(strings.Repeat("(a*", 20)+closed), nodes(strings.Repeat("a*", 20)+strings.Repeat(".", 19)))
	wantTree(t, of(strings.Repeat("(a|", 20)+closed), nodes(strings.Repeat("a", 20)+"e"+strings.Repeat("|", 20)))
	wantTree(t, of(strings.Repeat("(", 20)+strings.Repeat(")*", 20)), nodes("e"+strings.Repeat("*", 20)))
	wantPattern(t, open+"a"+closed, "a")
	// Within 19 others there is room for many, one behind the other.
	wantTree(t, of(open[1:]+strings.Repeat("(a)", 50)+closed[1:]), nodes("a"+strings.Repeat("a.", 49)))

	for _, x := range []struct{ ahead, behind string }{
		{open, ""}, {open, ")" + closed}, {open, strings.Repeat("(", 100)}, {open, "a"}, {open, "*"}, {open, "0"},
		{open + "a", ")" + closed}, {open + "a|", closed}, {"a|" + open, ""}, {open + closed + open, ""}, {open + ")(", ""}, {open + ")a(b", ")"}, {open + "))()((", "*"}, {strings.Repeat("(a", 20), ""}, {strings.Repeat("(|", 20), ""},
	} {
		wantError(t, of(x.ahead+"("+x.behind), place(len(x.ahead)), api.ErrLong)
	}
	wantPatternError(t, open+"(", 20, api.ErrLong)
	wantPatternError(t, open+"()"+closed, 20, api.ErrLong)
	wantPatternError(t, "ab"+open+"c(", 23, api.ErrLong)
}

func TestGroupsThatAreNotClosed(t *testing.T) { // P5.2
	for _, p := range []string{"(", "((", "(a", "a(", "(a|", "(|", "a|(", "(a*", "()(", "(()", "((a)", "(a)(b", "(^", "($", "(a(b)c", "a(b(c)*|d", strings.Repeat("(", 20), strings.Repeat("(", 20) + strings.Repeat(")", 19), strings.Repeat("()", 30) + "("} {
		wantUnclosed(t, of(p))
		wantPatternError(t, p, len(p), api.ErrForm)
	}
	wantPatternError(t, "(\\x41{2,3}[a-c]", 15, api.ErrForm)
	// With the end where a token stands, that is told all the same.
	wantErrorWithEnd(t, of("(a"), place(0), place(0), api.ErrForm)
	wantErrorWithEnd(t, of("(a"), place(1), place(1), api.ErrForm)
}

// TestTwoErrors: the first one from the left is told, and what a token is ahead of what the whole is.
func TestTwoErrors(t *testing.T) { // P5.2, rule 1
	wrong := []struct {
		letters string
		at      int // of the letters, what is wrong
		e       api.Errno
	}{
		{"a0", 1, api.ErrKind},
		{"a!", 1, api.ErrKind},
		{"(*", 1, api.ErrForm},
		{"a|+", 2, api.ErrForm},
		{"()a|b*)", 6, api.ErrForm},
		{strings.Repeat("(", 21), 20, api.ErrLong},
	}
	for _, x := range wrong {
		wantError(t, of(x.letters), place(x.at), x.e)
		for _, y := range wrong {
			wantError(t, of(x.letters+y.letters), place(x.at), x.e)
			wantError(t, of("ab|c"+x.letters+"(a"+y.letters), place(4+x.at), x.e)
		}
		// A token that is wrong is told ahead of a group that is not closed, and of too many nodes.
		many := strings.Repeat("a", 600)
		wantError(t, of(x.letters+many), place(x.at), x.e)
		wantError(t, of(many+x.letters), place(600+x.at), x.e)
		if x.letters != "()a|b*)" {
			wantError(t, of("("+x.letters), place(min(1+x.at, 20)), x.e)
		}
	}
	// Two of one and the same token: a repeat that no tree lets be, where no part stands.
	wantError(t, of("!"), place(0), api.ErrKind)
	wantError(t, of("(!"), place(1), api.ErrKind)
	wantError(t, of("a|!"), place(2), api.ErrKind)
	wantError(t, of("*!"), place(0), api.ErrForm)
	wantError(t, of("!*"), place(0), api.ErrKind)
	wantError(t, of("0*"), place(0), api.ErrKind)
	wantError(t, of("*0"), place(0), api.ErrForm)
	wantError(t, of(")*"), place(0), api.ErrForm)
	wantError(t, of("a)0"), place(1), api.ErrForm)
}

// TestMostNodes: 512 are a tree, 513 are too many.
func TestMostNodes(t *testing.T) { // P5.2, P5.4
	for _, x := range []struct {
		first, more, last string
		nodes, each       int // how many there are without more, and of each more
	}{
		{"a", "*", "", 1, 1},
		{"a", "b", "", 1, 2},
		{"a", "b", "*", 2, 2},
		{"", "|", "", 1, 2},
		{"", "|", "()*", 2, 2},
		{"(a", "|b", ")?", 2, 2},
		{"()*", "()", "", 2, 2},
		{"((^+))", "((^+))", "", 2, 3},
		{"a", "|()$", "", 1, 4},
		{"a*", "a*|", "b", 4, 3},
	} {
		for n := 1; x.nodes+n*x.each < 530; n++ {
			letters := x.first + strings.Repeat(x.more, n) + x.last
			if made := againstModel(t, letters); made != (x.nodes+n*x.each <= 512) {
				t.Fatalf("%s has a tree: %v", letters, made)
			}
		}
	}
	// Just 512, and some more: a repeat, a part, a side, an end.
	most := "a" + strings.Repeat("b", 255) + "*"
	wantTree(t, of(most), nodes("a"+strings.Repeat("b.", 254)+"b*."))
	wantTree(t, of("("+most+")"), nodes("a"+strings.Repeat("b.", 254)+"b*."))
	for _, p := range []string{most + "?", "a" + strings.Repeat("b", 256), strings.Repeat("|", 256), "(" + most + ")?", most + "|", "|" + most, most + "^", "$" + most} {
		wantError(t, of(p), 0, api.ErrLong)
	}
}

func TestTooLongAndNotClosed(t *testing.T) { // P5.2
	for _, n := range []int{255, 256, 257, 300, 1000, 5000} {
		many := strings.Repeat("a", n)
		wantUnclosed(t, of("("+many))
		wantUnclosed(t, of(many+"("))
		wantUnclosed(t, of(many+"("+many))
		wantUnclosed(t, of("(a)"+many+"((b)"))
		if n > 256 {
			wantError(t, of("("+many+")"), 0, api.ErrLong)
		}
	}
}

func TestManyTokens(t *testing.T) { // P1, P5.2
	const n = 1 << 18
	for _, p := range []string{"a", "|", "()", "^*", "a|", "(a)|b*"} {
		wantErrorWithEnd(t, of(strings.Repeat(p, n/len(p))), -3, 0, api.ErrLong)
	}
	wantErrorWithEnd(t, of(strings.Repeat("a", n)+"("), -3, -3, api.ErrForm)
	wantErrorWithEnd(t, of(strings.Repeat("a", n)+")"), -3, place(n), api.ErrForm)
	wantErrorWithEnd(t, of(strings.Repeat("(", n)), -3, place(20), api.ErrLong)
	wantErrorWithEnd(t, of(strings.Repeat("*", n)), -3, place(0), api.ErrForm)
}

// TestAnyPlaces: At is told where a token is wrong, and is nothing else.
func TestAnyPlaces(t *testing.T) { // P5.2, rule 5
	for _, at := range []int{0, 1, -1, -200, 201, 1 << 20, 1 << 40, math.MinInt, math.MaxInt} {
		move := func(letters string) []api.Token {
			l := of(letters)
			for i := range l {
				l[i].At = at
			}
			return l
		}
		wantTree(t, move("(a|b)*c^"), nodes("ab|*c.^."))
		for _, p := range []string{"*", "a|*", "a)", "()*)"} {
			wantError(t, move(p), at, api.ErrForm)
		}
		wantError(t, move("a0"), at, api.ErrKind)
		wantError(t, move("a!"), at, api.ErrKind)
		wantError(t, move(strings.Repeat("(", 21)), at, api.ErrLong)
		wantError(t, move(strings.Repeat("a", 300)), 0, api.ErrLong)
		wantUnclosed(t, move("a(b"))
	}
}

// TestFieldsOfOtherKinds: what a token has that none of its kind has is neither wrong nor told.
func TestFieldsOfOtherKinds(t *testing.T) { // P5.1, P5.2, P5.4
	l := of("^(a|b)*$|c+()#")
	want := nodes("^ab|*.$.c+e#.|")
	wantTree(t, l, want)
	sets := []api.Set{{}, {1}, {0, 0, 0, 1 << 63}, {whole, whole, whole, whole}}
	bounds := [][2]int{{0, 0}, {1, 2}, {2, 1}, {0, -1}, {-1, -1}, {33, 33}, {-7, 40}, {math.MinInt, math.MaxInt}}
	for i := range l {
		for _, s := range sets {
			for _, b := range bounds {
				odd := slices.Clone(l)
				if odd[i].Kind != api.TkSet {
					odd[i].Set = s
				}
				if odd[i].Kind != api.TkRep {
					odd[i].Lo, odd[i].Hi = b[0], b[1]
				}
				wantTree(t, odd, want)
			}
		}
	}
	for i := range l {
		if l[i].Kind != api.TkSet {
			l[i].Set = api.Set{3, whole, 5, 7}
		}
		if l[i].Kind != api.TkRep {
			l[i].Lo, l[i].Hi = 34, -2
		}
	}
	wantTree(t, l, want)
	// Errors, too, hang on what counts alone.
	wantError(t, []api.Token{{Kind: api.TkRep, At: 6, Lo: 1, Hi: 1, Set: api.Set{whole}}}, 6, api.ErrForm)
	wantError(t, []api.Token{{Kind: api.TkClose, At: 6, Lo: 5, Hi: 1}}, 6, api.ErrForm)
	wantErrorWithEnd(t, []api.Token{{Kind: api.TkOpen, At: 6, Lo: 5, Hi: 1}}, 8, 8, api.ErrForm)
}

func TestSetsOfTokens(t *testing.T) { // P5.1
	for _, s := range []api.Set{{}, {1}, {0, 1}, {0, 0, 1}, {0, 0, 0, 1 << 63}, {1, 2, 3, 4}, {whole, whole, whole, whole}} {
		set := api.Token{Kind: api.TkSet, At: 2, Set: s}
		told := api.Node{Kind: api.NdSet, Set: s}
		wantTree(t, []api.Token{set}, []api.Node{told})
		wantTree(t, append(of("a|("), set, token(')', 1), token('?', 2)), append(nodes("a"), told, node('?'), node('|')))
	}
}

// TestPatterns: what a pattern is, it is by its tokens.
func TestPatterns(t *testing.T) { // P5.3
	patterns := []string{
		"", "a", "a[b-d]{2,}", "x{2,5}|[^\\n-z]$", "(\\d+|[[:alpha:]_]*)\\.", "^[]$", "\\x41\\x{2}", "a]}-", "()", "(|)", "(a(b(c|d)*e)?f){0,32}", "[(]", "[)*|]", "\\(", "\\)*", "\\|", ".", ".*", "\xff+", "\x00|\n",
		"*", "(", ")", "a|*", "a{0}", "a{32}{32}", "a{0,}",
		"[", "a[", "\\", "\\q", "{", "{2", "a{33}", "[b-a]", "[[:no:]]", "(a)\\x4g", "*[", "([", ")[", "a)\\",
		strings.Repeat("a", 200), strings.Repeat("a", 201), strings.Repeat("|", 200), strings.Repeat("()", 100), strings.Repeat("^*", 100), strings.Repeat("(", 200), strings.Repeat("(", 201), strings.Repeat("[", 201), strings.Repeat("a", 199) + "(", strings.Repeat("a", 199) + ")", strings.Repeat("a", 199) + "[", strings.Repeat("a", 200) + "[",
	}
	for _, p := range patterns {
		n, at, e := Pattern(p)
		l, wantAt, wantE := lex.Tokens(p)
		var want []api.Node
		if wantE == api.OK {
			want, wantAt, wantE = Of(l, len(p))
		}
		if e != wantE || at != wantAt || !slices.Equal(n, want) {
			t.Errorf("Pattern(%q): %v, %d, %d; not %v, %d, %d", p, n, at, e, want, wantAt, wantE)
		}
		if e == api.OK {
			wantWhatFollows(t, l, n)
		}
	}
}

func TestErrorsOfPatterns(t *testing.T) { // P5.3
	for _, x := range []struct {
		p  string
		at int
		e  api.Errno
	}{
		// Of lex.
		{strings.Repeat("a", 201), 0, api.ErrLong}, {strings.Repeat("(", 201), 0, api.ErrLong}, {strings.Repeat("*", 1<<20), 0, api.ErrLong}, {"*" + strings.Repeat("[", 300), 0, api.ErrLong},
		{"a[", 1, api.ErrForm}, {"\\", 0, api.ErrForm}, {"ab\\q", 2, api.ErrForm}, {"a{33}", 1, api.ErrForm}, {"a{3,2}", 1, api.ErrForm}, {"a|{", 2, api.ErrForm}, {"[[:no:]]", 0, api.ErrForm},
		// Of lex ahead of those of the tokens, also where these stand farther left.
		{"*[", 1, api.ErrForm}, {"a)b\\", 3, api.ErrForm}, {"(a[", 2, api.ErrForm}, {strings.Repeat("(", 21) + "[", 21, api.ErrForm}, {"a|*{", 3, api.ErrForm},
		// Of the tokens: at the byte at which one begins.
		{"*", 0, api.ErrForm}, {"{2}", 0, api.ErrForm}, {"[a-c]|{2}", 6, api.ErrForm}, {"\\x41({0,1})", 5, api.ErrForm}, {"[[:alpha:]])", 11, api.ErrForm}, {"\\d{2,3})a", 7, api.ErrForm},
		{"[a-c]" + strings.Repeat("(", 21), 25, api.ErrLong}, {strings.Repeat("(\\d", 21), 60, api.ErrLong},
		{"(", 1, api.ErrForm}, {"(\\x41", 5, api.ErrForm}, {"([a-z]{2,3}", 11, api.ErrForm}, {"((a)", 4, api.ErrForm}, {"(" + strings.Repeat("a", 199), 200, api.ErrForm},
	} {
		wantPatternError(t, x.p, x.at, x.e)
	}
}

func TestExamples(t *testing.T) { // the chapter's examples, and those of the whole
	wantPattern(t, "ab|c*", "ab.c*|")
	wantPattern(t, "()", "e")
	wantPatternError(t, "a)", 1, api.ErrForm)
	wantPatternError(t, "(a", 2, api.ErrForm)
	n, at, e := Pattern("a[b-d]{2,}")
	want := []api.Node{{Kind: api.NdSet, Set: letter('a')}, {Kind: api.NdSet, Set: api.Set{0, 7 << ('b' - 64)}}, {Kind: api.NdRep, Lo: 2, Hi: -1}, {Kind: api.NdCat}}
	if e != api.OK || at != 0 || !slices.Equal(n, want) {
		t.Errorf("%v, %d, %d; not %v", n, at, e, want)
	}
}

// The model looks for errors token by token, by what stands ahead of each one, and makes trees from the right: it cuts tokens at the last | that stands in no group, else ahead of the last part, else ahead of the last repeat.

// modelError is the place and the error of tokens as of makes them.
func modelError(letters string, end int) (int, api.Errno) {
	for i, c := range []byte(letters) {
		ahead := letters[:i]
		open := strings.Count(ahead, "(") - strings.Count(ahead, ")")
		switch {
		case c == '0' || c == '!':
			return place(i), api.ErrKind
		case strings.IndexByte("*+?#", c) >= 0 && (ahead == "" || strings.HasSuffix(ahead, "(") || strings.HasSuffix(ahead, "|")):
			return place(i), api.ErrForm
		case c == ')' && open == 0:
			return place(i), api.ErrForm
		case c == '(' && open >= 20:
			return place(i), api.ErrLong
		}
	}
	if strings.Count(letters, "(") > strings.Count(letters, ")") {
		return end, api.ErrForm
	}
	return 0, api.OK
}

// modelTree is the tree of letters that have no error, as nodes takes it.
func modelTree(letters string) string {
	if letters == "" {
		return "e"
	}
	deep, or, part := 0, -1, 0
	for i, c := range []byte(letters) {
		switch {
		case c == ')':
			deep--
		case deep == 0 && c == '|':
			or = i
		case deep == 0 && strings.IndexByte("*+?#", c) < 0:
			part = i
		}
		if c == '(' {
			deep++
		}
	}
	last := letters[len(letters)-1]
	switch {
	case or >= 0:
		return modelTree(letters[:or]) + modelTree(letters[or+1:]) + "|"
	case part > 0:
		return modelTree(letters[:part]) + modelTree(letters[part:]) + "."
	case strings.IndexByte("*+?#", last) >= 0:
		return modelTree(letters[:len(letters)-1]) + string(last)
	case letters[0] == '(':
		return modelTree(letters[1 : len(letters)-1])
	}
	return letters
}

// againstModel holds tokens against the model, and says whether they have a tree.
func againstModel(t *testing.T, letters string) bool {
	t.Helper()
	const end = 12345
	want := ""
	wantAt, wantE := modelError(letters, end)
	if wantE == api.OK {
		want = modelTree(letters)
	}
	if len(want) > 512 {
		want, wantE = "", api.ErrLong
	}
	l := of(letters)
	n, at, e := Of(l, end)
	if e != wantE || at != wantAt || !slices.Equal(n, nodes(want)) {
		t.Fatalf("Of %s: %v, %d, %d; not %s, %d, %d", letters, n, at, e, want, wantAt, wantE)
	}
	if e != api.OK {
		return false
	}
	wantWhatFollows(t, l, n)
	return true
}

// sequences hands out each text of up to n of some letters, behind one that comes first.
func sequences(first, letters string, n int, f func(text string)) {
	f(first)
	if n == 0 {
		return
	}
	for _, c := range letters {
		sequences(first+string(c), letters, n-1, f)
	}
}

func TestAllShortLists(t *testing.T) { // P5.1, P5.2, P5.4
	made, refused := 0, 0
	look := func(text string) {
		if againstModel(t, text) {
			made++
		} else {
			refused++
		}
	}
	sequences("", "a^|()*0!", 5, look)
	sequences("", "a|()*", 7, look)
	sequences("", "ab#|()", 6, look)
	sequences(strings.Repeat("(", 18), "a()*", 5, look)
	sequences("", "ab$|?", 6, look)
	if made < 10000 || refused < 10000 {
		t.Errorf("%d were made, %d refused", made, refused)
	}
}

// generator tells numbers from 0 to below n, always the same ones.
func generator() func(n int) int {
	x := uint32(11)
	return func(n int) int {
		x = x*1664525 + 1013904223
		return int(x>>8) % n
	}
}

func TestMixedLists(t *testing.T) { // P5.1, P5.2, P5.4
	next := generator()
	made, refused := 0, 0
	for range 30000 {
		var p strings.Builder
		for range next(40) {
			p.WriteByte("abcd^$|||(((()))))**+?#!0"[next(25-2*min(next(8), 1))])
		}
		if againstModel(t, p.String()) {
			made++
		} else {
			refused++
		}
	}
	if made < 1000 || refused < 1000 {
		t.Errorf("%d were made, %d refused", made, refused)
	}
}

// rightList is a list of n letters, none of which is wrong, and what closes its groups.
func rightList(next func(int) int, n int) string {
	var p strings.Builder
	open, part := 0, false
	for range n {
		c := "abc^$||(((()))))**?#"[next(20)]
		switch {
		case c == '(' && open == 20, c == ')' && open == 0, strings.IndexByte("*?#", c) >= 0 && !part:
			c = 'x'
		case c == '(':
			open++
		case c == ')':
			open--
		}
		part = c != '(' && c != '|'
		p.WriteByte(c)
	}
	return p.String() + strings.Repeat(")", open)
}

func TestLongLists(t *testing.T) { // P5.1, P5.2, P5.4
	next := generator()
	made, long := 0, 0
	for range 3000 {
		if againstModel(t, rightList(next, next(600))) {
			made++
		} else {
			long++
		}
	}
	if made < 500 || long < 100 {
		t.Errorf("%d were made, %d were too long", made, long)
	}
}

// written is a tree's part, up to node i, as tokens: with a group about each argument that is no single token.
func written(t *testing.T, n []api.Node, i int) []api.Token {
	group := func(k int) []api.Token {
		l := written(t, n, k)
		if tree.First(n, k) == k && n[k].Kind != api.NdEmpty {
			return l
		}
		return append(append([]api.Token{token('(', 1)}, l...), token(')', 2))
	}
	kids := tree.Kids(n, i)
	switch n[i].Kind {
	case api.NdSet:
		return []api.Token{{Kind: api.TkSet, Set: n[i].Set}}
	case api.NdBegin:
		return of("^")
	case api.NdEnd:
		return of("$")
	case api.NdCat:
		return append(group(kids[0]), group(kids[1])...)
	case api.NdOr:
		return append(append(group(kids[0]), token('|', 3)), group(kids[1])...)
	case api.NdRep:
		return append(group(kids[0]), repToken(4, n[i].Lo, n[i].Hi))
	}
	return nil
}

// shape is a tree of just n nodes, by what next tells.
func shape(next func(int) int, n int) []api.Node {
	if n == 1 {
		return []api.Node{[]api.Node{{Kind: api.NdSet, Set: letter(byte('a' + next(26)))}, node('e'), node('^'), node('$')}[next(4)]}
	}
	if n == 2 || next(3) == 0 {
		lo := next(33)
		hi := lo + next(33-lo)
		if next(3) == 0 {
			hi = -1
		}
		return append(shape(next, n-1), api.Node{Kind: api.NdRep, Lo: lo, Hi: hi})
	}
	first := 1 + next(n-2)
	return append(append(shape(next, first), shape(next, n-1-first)...), api.Node{Kind: api.NdCat + next(2)})
}

// TestTreesWrittenAsTokens: each tree that is not too deep for groups is that of some tokens.
func TestTreesWrittenAsTokens(t *testing.T) { // P5.1, P5.4
	next := generator()
	deepest := 0
	for range 5000 {
		n := shape(next, 1+next(40))
		if d := tree.Depth(n); d <= 20 {
			wantTree(t, written(t, n, len(n)-1), n)
			deepest = max(deepest, d)
		}
	}
	if deepest < 15 {
		t.Errorf("no tree is deeper than %d", deepest)
	}
}

func TestWhatIsHandedInStays(t *testing.T) { // P2, rule 4
	for _, p := range []string{"", "a", "(a|b)*c", "ab|c#^$", "((a", "a)", "*", "a!", "a0b", strings.Repeat("(", 21), strings.Repeat("a", 300)} {
		l := slices.Grow(of(p), 10) // room behind the list, in which nothing must be put
		room := l[:cap(l)]
		before := slices.Clone(room)
		Of(l, 3)
		if !slices.Equal(room, before) {
			t.Errorf("%s is changed", p)
		}
	}
}

func TestAnswersAreNew(t *testing.T) { // P2, rule 4
	const p = "(a|b)*c"
	l := of(p)
	for _, answer := range []func() ([]api.Node, int, api.Errno){
		func() ([]api.Node, int, api.Errno) { return Of(l, 0) },
		func() ([]api.Node, int, api.Errno) { return Pattern(p) },
	} {
		first, _, _ := answer()
		second, _, _ := answer()
		for i := range first {
			first[i] = api.Node{Kind: -1}
		}
		third, _, _ := answer()
		if want := nodes("ab|*c."); !slices.Equal(second, want) || !slices.Equal(third, want) {
			t.Errorf("%v, %v; not %v", second, third, want)
		}
	}
	// Nor is what was handed in kept: changed later, it changes no answer.
	n, _, _ := Of(l, 0)
	clear(l)
	if !slices.Equal(n, nodes("ab|*c.")) {
		t.Errorf("the tree is changed: %v", n)
	}
}

// TestRawTokens: any numbers end without a panic, and what is told is a tree, or an error.
func TestRawTokens(t *testing.T) { // P1, P5.4, rule 2, rule 5
	next := generator()
	numbers := []int{0, 0, 1, 2, 3, 4, 5, 6, 7, 3, 4, 5, 8, -1, -1, 32, 33, math.MinInt, math.MaxInt}
	number := func(most int) int { return numbers[next(most)] }
	made := 0
	for range 100000 {
		l := make([]api.Token, next(12))
		for i := range l {
			l[i] = api.Token{Kind: number(12), At: number(19), Lo: number(6), Hi: number(17), Set: api.Set{uint64(next(3))}}
			if l[i].Kind == 0 && next(8) > 0 {
				l[i].Kind = api.TkSet
			}
		}
		n, at, e := Of(l, number(19))
		switch {
		case e == api.OK:
			made++
			if at != 0 {
				t.Fatalf("a place without an error: %d, of %v", at, l)
			}
			wantWhatFollows(t, l, n)
		case len(n) != 0:
			t.Fatalf("a tree beside an error: %v, of %v", n, l)
		}
	}
	if made < 1000 {
		t.Errorf("only %d were made", made)
	}
}

func TestAnyBytesEndWithoutAPanic(t *testing.T) { // P1, P5.4
	next := generator()
	for range 50000 {
		b := make([]byte, next(30))
		for i := range b {
			b[i] = byte(next(256))
			if next(2) == 0 {
				b[i] = "()|*+?{}2,[]^$\\ab"[next(17)]
			}
		}
		n, at, e := Pattern(string(b))
		if e != api.OK {
			if len(n) != 0 || at < 0 || at > len(b) {
				t.Fatalf("Pattern(%q): %v, %d, %d", b, n, at, e)
			}
			continue
		}
		l, _, _ := lex.Tokens(string(b))
		wantWhatFollows(t, l, n)
	}
}
