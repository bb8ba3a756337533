package show

import (
	"fmt"
	"math"
	"slices"
	"strings"
	"testing"

	"tatting/api"
	"tatting/lex"
	"tatting/parse"
	"tatting/tree"
)

const (
	whole   = math.MaxUint64 // a word of a set, with all of its bytes
	letters = "ABCDEFGHIJKLMNOPQRSTUVWXYZabcdefghijklmnopqrstuvwxyz"
	digits  = "0123456789"
	signs   = "!\"#$%&'()*+,-./:;<=>?@[\\]^_`{|}~" // what else is from 33 to 126
)

// full is the set of all bytes.
func full() api.Set { return api.Set{whole, whole, whole, whole} }

// bytesOf is the set of some bytes, told bit by bit.
func bytesOf(l ...int) api.Set {
	var s api.Set
	for _, b := range l {
		s[b/64] |= uint64(1) << (b % 64)
	}
	return s
}

// textSet is the set of a text's bytes.
func textSet(text string) api.Set {
	var s api.Set
	for _, b := range []byte(text) {
		s = flipped(s, int(b), true)
	}
	return s
}

// flipped is a set with a byte in it, or without.
func flipped(s api.Set, b int, in bool) api.Set {
	s[b/64] |= uint64(1) << (b % 64)
	if !in {
		s[b/64] ^= uint64(1) << (b % 64)
	}
	return s
}

// has says whether a byte, or a number that is none, is in a set.
func has(s api.Set, b int) bool {
	return b >= 0 && b < 256 && s[b/64]&(uint64(1)<<(b%64)) != 0
}

// fromTo is the set of the bytes from one to another one.
func fromTo(lo, hi int) api.Set {
	var s api.Set
	for b := lo; b <= hi; b++ {
		s = flipped(s, b, true)
	}
	return s
}

// modelSet is what chapter 6 says of a set, looked at byte by byte.
func modelSet(s api.Set) string {
	var members []int
	inside := ""
	for b := range 256 {
		if !has(s, b) {
			continue
		}
		members = append(members, b)
		switch {
		case !has(s, b-1) || !has(s, b+1):
			inside += modelEnd(b)
		case !has(s, b-2):
			inside += "-"
		}
	}
	switch {
	case len(members) == 255 && !has(s, 10):
		return "."
	case len(members) != 1:
		return "[" + inside + "]"
	case strings.ContainsRune(signs, rune(members[0])):
		return fmt.Sprintf("\\%c", members[0])
	}
	return inside
}

// modelEnd is a byte at the end of a run.
func modelEnd(b int) string {
	if strings.ContainsRune(letters+digits, rune(b)) {
		return fmt.Sprintf("%c", b)
	}
	return fmt.Sprintf("\\x%02x", b)
}

// wantSet asks for a set's text, and that the text is the set again.
func wantSet(t *testing.T, s api.Set, want string) {
	t.Helper()
	if got := Set(s); got != want {
		t.Errorf("Set(%x): %s; not %s", s, got, want)
	}
	wantToken(t, s)
}

// wantToken asks that a set's text is one token of a pattern, of just that set.
func wantToken(t *testing.T, s api.Set) {
	t.Helper()
	token := api.Token{Kind: api.TkSet, Set: s}
	// The text of a set of many runs is longer than a pattern may be.
	if p := Set(s); len(p) <= api.MaxPattern {
		if l, _, e := lex.Tokens(p); e != api.OK || !slices.Equal(l, []api.Token{token}) {
			t.Errorf("%s is %v, %d; not %v", p, l, e, token)
		}
	}
	n := []api.Node{{Kind: api.NdSet, Set: s}}
	p, e := Text(n)
	if long := len(Set(s)) > 200; long && (p != "" || e != api.ErrLong) || !long && (p != Set(s) || e != api.OK) {
		t.Errorf("Text of %x: %s, %d", s, p, e)
	}
}

func TestNoByteAndAllBytes(t *testing.T) { // P6.1
	wantSet(t, api.Set{}, "[]")
	wantSet(t, full(), "[\\x00-\\xff]")
}

func TestDotAndItsNeighbours(t *testing.T) { // P6.1
	dot := flipped(full(), 10, false)
	wantSet(t, dot, ".")
	wantSet(t, flipped(dot, 10, true), "[\\x00-\\xff]")
	for b, want := range map[int]string{
		0: "[\\x01-\\x09\\x0b-\\xff]", 1: "[\\x00\\x02-\\x09\\x0b-\\xff]", 2: "[\\x00\\x01\\x03-\\x09\\x0b-\\xff]", 8: "[\\x00-\\x07\\x09\\x0b-\\xff]", 9: "[\\x00-\\x08\\x0b-\\xff]",
		11: "[\\x00-\\x09\\x0c-\\xff]", 12: "[\\x00-\\x09\\x0b\\x0d-\\xff]", 'a': "[\\x00-\\x09\\x0b-\\x60b-\\xff]", 254: "[\\x00-\\x09\\x0b-\\xfd\\xff]", 255: "[\\x00-\\x09\\x0b-\\xfe]",
	} {
		wantSet(t, flipped(dot, b, false), want)
	}
	for b := range 256 {
		if b != 10 {
			wantSet(t, flipped(dot, b, false), modelSet(flipped(dot, b, false)))
			wantSet(t, flipped(full(), b, false), modelSet(flipped(full(), b, false)))
		}
		// Other sets that have 255 bytes, and the line feed alone.
		if got := Set(flipped(full(), b, false)); (got == ".") != (b == 10) {
			t.Errorf("all but %d: %s", b, got)
		}
	}
	wantSet(t, bytesOf(10), "\\x0a")
}

func TestOneByte(t *testing.T) { // P6.1
	lengths := map[int]int{}
	for b := range 256 {
		want := ""
		switch c := string([]byte{byte(b)}); {
		case strings.Contains(letters+digits, c):
			want = c
		case strings.Contains(signs, c):
			want = "\\" + c
		default:
			want = "\\x" + string("0123456789abcdef"[b>>4]) + string("0123456789abcdef"[b&15])
		}
		wantSet(t, bytesOf(b), want)
		lengths[len(want)]++
	}
	if lengths[1] != 62 || lengths[2] != 32 || lengths[4] != 162 {
		t.Errorf("letters and digits, signs, others: %v", lengths)
	}
	for b, want := range map[int]string{
		0: "\\x00", 9: "\\x09", 10: "\\x0a", 13: "\\x0d", 31: "\\x1f", ' ': "\\x20", '!': "\\!", '"': "\\\"", '-': "\\-", '.': "\\.", '/': "\\/", '0': "0", '9': "9", ':': "\\:", '@': "\\@", 'A': "A", 'Z': "Z", '[': "\\[", '\\': "\\\\", ']': "\\]", '^': "\\^", '_': "\\_", '`': "\\`", 'a': "a", 'n': "n", 'x': "x", 'z': "z", '{': "\\{", '|': "\\|", '}': "\\}", '~': "\\~",
		127: "\\x7f", 128: "\\x80", 171: "\\xab", 205: "\\xcd", 239: "\\xef", 255: "\\xff",
	} {
		wantSet(t, bytesOf(b), want)
	}
}

func TestRunsByHand(t *testing.T) { // P6.1
	for _, x := range []struct {
		s    api.Set
		want string
	}{
		// One run, of two, three and more bytes.
		{textSet("ab"), "[ab]"}, {textSet("abc"), "[a-c]"}, {textSet("abcd"), "[a-d]"}, {textSet(letters[:26]), "[A-Z]"}, {textSet(letters[26:]), "[a-z]"}, {textSet(digits), "[0-9]"}, {textSet("01"), "[01]"}, {textSet("789"), "[7-9]"},
		// It begins at 0, or ends at 255.
		{bytesOf(0, 1), "[\\x00\\x01]"}, {bytesOf(0, 1, 2), "[\\x00-\\x02]"}, {fromTo(0, 64), "[\\x00-\\x40]"}, {fromTo(0, 65), "[\\x00-A]"}, {fromTo(0, 254), "[\\x00-\\xfe]"},
		{bytesOf(254, 255), "[\\xfe\\xff]"}, {fromTo(253, 255), "[\\xfd-\\xff]"}, {fromTo('z', 255), "[z-\\xff]"}, {fromTo(1, 255), "[\\x01-\\xff]"}, {bytesOf(0, 255), "[\\x00\\xff]"}, {bytesOf(0, 1, 2, 253, 254, 255), "[\\x00-\\x02\\xfd-\\xff]"},
		// Its ends are signs, or stand beside the letters and digits.
		{textSet("/0"), "[\\x2f0]"}, {textSet("/01"), "[\\x2f-1]"}, {textSet("9:"), "[9\\x3a]"}, {textSet("89:"), "[8-\\x3a]"}, {textSet("@A"), "[\\x40A]"}, {textSet("@AB"), "[\\x40-B]"}, {textSet("Z["), "[Z\\x5b]"}, {textSet("YZ["), "[Y-\\x5b]"}, {textSet("`a"), "[\\x60a]"}, {textSet("`ab"), "[\\x60-b]"}, {textSet("z{"), "[z\\x7b]"}, {textSet("yz{"), "[y-\\x7b]"},
		{textSet(",-."), "[\\x2c-\\x2e]"}, {textSet("-."), "[\\x2d\\x2e]"}, {textSet("]^"), "[\\x5d\\x5e]"}, {textSet("[\\]"), "[\\x5b-\\x5d]"}, {fromTo(33, 126), "[\\x21-\\x7e]"}, {fromTo(32, 127), "[\\x20-\\x7f]"},
		// Several runs: with one byte between, and with more.
		{textSet("ac"), "[ac]"}, {textSet("abde"), "[abde]"}, {textSet("abcefg"), "[a-ce-g]"}, {textSet("abx"), "[abx]"}, {textSet("abcx"), "[a-cx]"}, {textSet("xabc012_"), "[0-2\\x5fa-cx]"}, {textSet("abdef"), "[abd-f]"}, {textSet("acde"), "[ac-e]"}, {textSet(digits + letters), "[0-9A-Za-z]"}, {textSet(signs), "[\\x21-\\x2f\\x3a-\\x40\\x5b-\\x60\\x7b-\\x7e]"},
		// Signs that mean more between brackets: none of them stands there for itself.
		{textSet("-a"), "[\\x2da]"}, {textSet("-]"), "[\\x2d\\x5d]"}, {textSet("^a"), "[\\x5ea]"}, {textSet("[:"), "[\\x3a\\x5b]"}, {textSet("]a"), "[\\x5da]"}, {textSet("\\n"), "[\\x5cn]"}, {textSet("^"), "\\^"}, {textSet("-"), "\\-"},
		// Hexadecimal digits, and letters behind them.
		{bytesOf(10, 'a', 'b'), "[\\x0aab]"}, {bytesOf(0, 15, 16, 240), "[\\x00\\x0f\\x10\\xf0]"}, {bytesOf(9, 11), "[\\x09\\x0b]"},
		// Across words of the set.
		{bytesOf(63, 64), "[\\x3f\\x40]"}, {fromTo(62, 65), "[\\x3e-A]"}, {bytesOf(127, 128), "[\\x7f\\x80]"}, {fromTo(191, 193), "[\\xbf-\\xc1]"}, {bytesOf(0, 64, 128, 192), "[\\x00\\x40\\x80\\xc0]"}, {bytesOf(63, 127, 191, 255), "[\\x3f\\x7f\\xbf\\xff]"},
	} {
		wantSet(t, x.s, x.want)
	}
}

func TestEachRun(t *testing.T) { // P6.1, P6.3
	for lo := range 256 {
		for hi := lo; hi < 256; hi++ {
			wantSet(t, fromTo(lo, hi), modelSet(fromTo(lo, hi)))
		}
	}
}

func TestPairsOfBytes(t *testing.T) { // P6.1, P6.3
	for a := range 256 {
		for b := range a {
			wantSet(t, bytesOf(a, b), modelSet(bytesOf(a, b)))
		}
	}
}

// TestMostRuns: every second byte. The text is longer than a pattern may be, but Set has no such bound.
func TestMostRuns(t *testing.T) { // P6.1
	for first := range 2 {
		var s api.Set
		want := "["
		for b := first; b < 256; b += 2 {
			s = flipped(s, b, true)
			want += modelEnd(b)
		}
		wantSet(t, s, want+"]")
		if len(want) < 400 {
			t.Errorf("only %d bytes", len(want))
		}
	}
	// Runs of two, and of three, with one byte between.
	for n := 3; n <= 4; n++ {
		var s api.Set
		for b := range 256 {
			s = flipped(s, b, b%n > 0)
		}
		wantSet(t, s, modelSet(s))
	}
}

func TestMixedSets(t *testing.T) { // P6.1, P6.3
	next := generator()
	short := 0
	for range 20000 {
		var s api.Set
		for range 1 + next(12) {
			lo := next(256)
			s = joined(s, fromTo(lo, min(lo+next(1<<next(6)), 255)))
		}
		if next(3) == 0 {
			for i := range s {
				s[i] = ^s[i]
			}
		}
		wantSet(t, s, modelSet(s))
		if len(Set(s)) <= 200 {
			short++
		}
	}
	if short < 10000 {
		t.Errorf("only %d are short", short)
	}
}

func joined(a, b api.Set) api.Set {
	for i := range a {
		a[i] |= b[i]
	}
	return a
}

// generator tells numbers from 0 to below n, always the same ones.
func generator() func(n int) int {
	x := uint32(5)
	return func(n int) int {
		x = x*1664525 + 1013904223
		return int(x>>8) % n
	}
}

// A tree is written as a word: of NdEmpty e, of NdBegin ^, of NdEnd $, of NdCat a dot, of NdOr |, of NdRep *, + and ? as in patterns, # for 2 to 5, = for just 3, > for 4 and more; all others are sets of that byte.

func nodes(word string) []api.Node {
	var l []api.Node
	for _, c := range []byte(word) {
		l = append(l, nodeOf(c))
	}
	return l
}

func nodeOf(c byte) api.Node {
	switch c {
	case 'e':
		return api.Node{Kind: api.NdEmpty}
	case '^':
		return api.Node{Kind: api.NdBegin}
	case '$':
		return api.Node{Kind: api.NdEnd}
	case '.':
		return api.Node{Kind: api.NdCat}
	case '|':
		return api.Node{Kind: api.NdOr}
	case '*':
		return rep(0, -1)
	case '+':
		return rep(1, -1)
	case '?':
		return rep(0, 1)
	case '#':
		return rep(2, 5)
	case '=':
		return rep(3, 3)
	case '>':
		return rep(4, -1)
	}
	return set(textSet(string([]byte{c})))
}

// brief is a list as a fault tells it: of each node the kind, the set, and how often.
func brief(l []api.Node) string {
	var p strings.Builder
	for _, n := range l[:min(len(l), 40)] {
		fmt.Fprintf(&p, "%d", n.Kind)
		if n.Set != (api.Set{}) {
			fmt.Fprintf(&p, ":%s", modelSet(n.Set))
		}
		if n.Lo != 0 || n.Hi != 0 {
			fmt.Fprintf(&p, ":%d:%d", n.Lo, n.Hi)
		}
		p.WriteByte(' ')
	}
	return fmt.Sprintf("%sof %d nodes", p.String(), len(l))
}

func set(s api.Set) api.Node { return api.Node{Kind: api.NdSet, Set: s} }

func rep(lo, hi int) api.Node { return api.Node{Kind: api.NdRep, Lo: lo, Hi: hi} }

// groups is how many groups stand within one another in a text at most.
func groups(p string) int {
	most, open := 0, 0
	for i := 0; i < len(p); i++ {
		switch p[i] {
		case '\\':
			i++
		case '(':
			open++
			most = max(most, open)
		case ')':
			open--
		}
	}
	return most
}

// wantText asks for a tree's text, and that the text is the tree again.
func wantText(t *testing.T, l []api.Node, want string) {
	t.Helper()
	p, e := Text(l)
	if p != want || e != api.OK {
		t.Errorf("Text(%s): %s, %d; not %s", brief(l), p, e, want)
		return
	}
	wantTreeAgain(t, l, p)
}

// wantTreeAgain asks of a tree and its text what P6.3 says.
func wantTreeAgain(t *testing.T, l []api.Node, p string) {
	t.Helper()
	n, _, e := parse.Pattern(p)
	if groups(p) > 20 {
		if e != api.ErrLong || len(n) != 0 {
			t.Errorf("%s, with %d groups within one another: %s, %d", p, groups(p), brief(n), e)
		}
		return
	}
	if e != api.OK || !slices.Equal(n, l) {
		t.Errorf("%s is %s, %d; not %s", p, brief(n), e, brief(l))
	}
}

// wantRefused asks that a list has no text, but an error.
func wantRefused(t *testing.T, l []api.Node, want api.Errno) {
	t.Helper()
	if p, e := Text(l); p != "" || e != want {
		t.Errorf("Text(%s): %q, %d; not %d", brief(l), p, e, want)
	}
}

func TestEachKindAlone(t *testing.T) { // P6.2
	wantText(t, nodes("a"), "a")
	wantText(t, nodes("e"), "()")
	wantText(t, nodes("^"), "^")
	wantText(t, nodes("$"), "$")
	wantText(t, []api.Node{set(api.Set{})}, "[]")
	wantText(t, []api.Node{set(full())}, "[\\x00-\\xff]")
	wantText(t, []api.Node{set(flipped(full(), 10, false))}, ".")
	wantText(t, []api.Node{set(textSet("^"))}, "\\^")
	wantText(t, []api.Node{set(textSet("$"))}, "\\$")
	wantText(t, []api.Node{set(textSet("."))}, "\\.")
	wantText(t, []api.Node{set(textSet("ac"))}, "[ac]")
}

// TestEachKindAsEachArgument: who gets a group, and who doesn't.
func TestEachKindAsEachArgument(t *testing.T) { // P6.2, P6.3
	for _, x := range []struct {
		word, text                             string
		firstOr, secondOr, firstCat, secondCat string
		rep                                    string
	}{
		{"a", "a", "a|z", "z|a", "az", "za", "a*"},
		{"e", "()", "()|z", "z|()", "()z", "z()", "()*"},
		{"^", "^", "^|z", "z|^", "^z", "z^", "^*"},
		{"$", "$", "$|z", "z|$", "$z", "z$", "$*"},
		{"ab.", "ab", "ab|z", "z|ab", "abz", "z(ab)", "(ab)*"},
		{"ab|", "a|b", "a|b|z", "z|(a|b)", "(a|b)z", "z(a|b)", "(a|b)*"},
		{"a+", "a+", "a+|z", "z|a+", "a+z", "za+", "a+*"},
		{"a#", "a{2,5}", "a{2,5}|z", "z|a{2,5}", "a{2,5}z", "za{2,5}", "a{2,5}*"},
	} {
		wantText(t, nodes(x.word), x.text)
		wantText(t, nodes(x.word+"z|"), x.firstOr)
		wantText(t, nodes("z"+x.word+"|"), x.secondOr)
		wantText(t, nodes(x.word+"z."), x.firstCat)
		wantText(t, nodes("z"+x.word+"."), x.secondCat)
		wantText(t, nodes(x.word+"*"), x.rep)
	}
	for _, s := range []api.Set{{}, full(), bytesOf(10), textSet("ac"), textSet("|"), textSet("("), flipped(full(), 10, false)} {
		x, z := set(s), nodes("z")[0]
		p := Set(s)
		wantText(t, []api.Node{x, z, {Kind: api.NdOr}}, p+"|z")
		wantText(t, []api.Node{z, x, {Kind: api.NdOr}}, "z|"+p)
		wantText(t, []api.Node{x, z, {Kind: api.NdCat}}, p+"z")
		wantText(t, []api.Node{z, x, {Kind: api.NdCat}}, "z"+p)
		wantText(t, []api.Node{x, rep(1, -1)}, p+"+")
	}
}

func TestTreesByHand(t *testing.T) { // P6.2, P6.3
	for _, x := range [][2]string{
		{"ab.c.", "abc"}, {"abc..", "a(bc)"}, {"ab.cd..", "ab(cd)"}, {"ab.c.d.", "abcd"}, {"abcd...", "a(b(cd))"}, {"abc..d.", "a(bc)d"}, {"abc.d..", "a(bcd)"},
		{"ab|c|", "a|b|c"}, {"abc||", "a|(b|c)"}, {"ab|cd||", "a|b|(c|d)"}, {"ab|c|d|", "a|b|c|d"}, {"abcd|||", "a|(b|(c|d))"}, {"abc||d|", "a|(b|c)|d"}, {"abc|d||", "a|(b|c|d)"},
		{"ab.cd.|", "ab|cd"}, {"ab|cd|.", "(a|b)(c|d)"}, {"ab|c.", "(a|b)c"}, {"abc|.", "a(b|c)"}, {"ab|c.d|", "(a|b)c|d"}, {"abc.d||", "a|(bc|d)"}, {"ab.c|d.", "(ab|c)d"}, {"abc|.d.", "a(b|c)d"}, {"abc.|", "a|bc"}, {"ab.c|", "ab|c"}, {"abcd|..", "a(b(c|d))"}, {"abc.d|.", "a(bc|d)"},
		{"ab.*", "(ab)*"}, {"ab|?", "(a|b)?"}, {"ab*.", "ab*"}, {"a*b.", "a*b"}, {"ab.*c.", "(ab)*c"}, {"cab.*.", "c(ab)*"}, {"ab|*c|", "(a|b)*|c"}, {"cab|*|", "c|(a|b)*"}, {"ab*.*", "(ab*)*"}, {"ab*.c.", "ab*c"}, {"abc.*.+", "(a(bc)*)+"},
		{"a**", "a**"}, {"a*+?#=>", "a*+?{2,5}{3}{4,}"}, {"ab.*+", "(ab)*+"}, {"ab|>=", "(a|b){4,}{3}"}, {"e*", "()*"}, {"e**", "()**"}, {"^*", "^*"}, {"$?+", "$?+"},
		{"ee|", "()|()"}, {"ee.", "()()"}, {"ee|e|", "()|()|()"}, {"eee||", "()|(()|())"}, {"ee.e.", "()()()"}, {"eee..", "()(()())"}, {"ae|", "a|()"}, {"ea|", "()|a"}, {"ee|*", "(()|())*"}, {"ae|*b.", "(a|())*b"},
		{"^a.$.", "^a$"}, {"^a$..", "^(a$)"}, {"^$|", "^|$"}, {"^$.", "^$"}, {"$^.", "$^"}, {"^a.b$.|", "^a|b$"},
	} {
		wantText(t, nodes(x[0]), x[1])
	}
}

func TestRepeats(t *testing.T) { // P6.2, P6.3
	for _, x := range []struct {
		lo, hi int
		want   string
	}{
		{0, -1, "*"}, {1, -1, "+"}, {0, 1, "?"},
		{0, 0, "{0}"}, {1, 1, "{1}"}, {2, 2, "{2}"}, {9, 9, "{9}"}, {10, 10, "{10}"}, {31, 31, "{31}"}, {32, 32, "{32}"},
		{2, -1, "{2,}"}, {3, -1, "{3,}"}, {10, -1, "{10,}"}, {31, -1, "{31,}"}, {32, -1, "{32,}"},
		{0, 2, "{0,2}"}, {1, 2, "{1,2}"}, {0, 32, "{0,32}"}, {1, 32, "{1,32}"}, {9, 10, "{9,10}"}, {10, 11, "{10,11}"}, {2, 3, "{2,3}"}, {31, 32, "{31,32}"},
	} {
		wantText(t, []api.Node{nodes("a")[0], rep(x.lo, x.hi)}, "a"+x.want)
		wantText(t, append(nodes("ab."), rep(x.lo, x.hi)), "(ab)"+x.want)
	}
	seen := map[string]bool{}
	for lo := 0; lo <= 32; lo++ {
		for hi := -1; hi <= 32; hi++ {
			if hi != -1 && hi < lo {
				continue
			}
			want := "a" + modelRepeat(lo, hi)
			wantText(t, []api.Node{nodes("a")[0], rep(lo, hi)}, want)
			seen[want] = true
		}
	}
	if len(seen) != 33+33*34/2 {
		t.Errorf("%d repeats", len(seen))
	}
}

func modelRepeat(lo, hi int) string {
	short := map[[2]int]string{{0, -1}: "*", {1, -1}: "+", {0, 1}: "?"}
	switch p, ok := short[[2]int{lo, hi}]; {
	case ok:
		return p
	case hi == -1:
		return fmt.Sprintf("{%d,}", lo)
	case lo < hi:
		return fmt.Sprintf("{%d,%d}", lo, hi)
	}
	return fmt.Sprintf("{%d}", lo)
}

// branch is a tree by what it is made of.
type branch struct {
	node api.Node
	args []branch
}

func (b branch) list() []api.Node {
	var l []api.Node
	for _, a := range b.args {
		l = append(l, a.list()...)
	}
	return append(l, b.node)
}

// binds is how close a branch's text holds together: 0 in a whole pattern or group alone, 1 in a row of parts, too, 2 anywhere.
func (b branch) binds() int {
	switch b.node.Kind {
	case api.NdOr:
		return 0
	case api.NdCat:
		return 1
	}
	return 2
}

// write is a branch's text, where all that is told must bind as close as asked.
func (b branch) write(asked int) string {
	if b.binds() < asked {
		return "(" + b.write(0) + ")"
	}
	switch b.node.Kind {
	case api.NdSet:
		return modelSet(b.node.Set)
	case api.NdOr:
		return b.args[0].write(0) + "|" + b.args[1].write(1)
	case api.NdCat:
		return b.args[0].write(1) + b.args[1].write(2)
	case api.NdRep:
		return b.args[0].write(2) + modelRepeat(b.node.Lo, b.node.Hi)
	}
	return map[int]string{api.NdEmpty: "()", api.NdBegin: "^", api.NdEnd: "$"}[b.node.Kind]
}

// againstModel holds a tree's text against the model's, and says whether there is one.
func againstModel(t *testing.T, b branch) bool {
	t.Helper()
	want := b.write(0)
	if len(want) > 200 {
		wantRefused(t, b.list(), api.ErrLong)
		return false
	}
	wantText(t, b.list(), want)
	return true
}

// ofSize has all branches of n nodes, with some leaves and repeats.
func ofSize(n int, leaves, repeats string) []branch {
	var all []branch
	if n == 1 {
		for _, c := range []byte(leaves) {
			all = append(all, branch{node: nodeOf(c)})
		}
		return all
	}
	for _, a := range ofSize(n-1, leaves, repeats) {
		for _, c := range []byte(repeats) {
			all = append(all, branch{nodeOf(c), []branch{a}})
		}
	}
	for first := 1; first < n-1; first++ {
		for _, a := range ofSize(first, leaves, repeats) {
			for _, b := range ofSize(n-1-first, leaves, repeats) {
				all = append(all, branch{nodeOf('.'), []branch{a, b}}, branch{nodeOf('|'), []branch{a, b}})
			}
		}
	}
	return all
}

func TestAllSmallTrees(t *testing.T) { // P6.2, P6.3
	count := 0
	for n := 1; n <= 8; n++ {
		leaves, repeats := "ae^$", "*#"
		if n > 6 {
			leaves, repeats = "ae", "*"
		}
		for _, b := range ofSize(n, leaves, repeats) {
			againstModel(t, b)
			wantNoGroupTooMany(t, b)
			count++
		}
	}
	if count < 10000 {
		t.Errorf("only %d trees", count)
	}
}

// wantNoGroupTooMany asks that no group of a tree's text could be left out, but for those about nothing.
func wantNoGroupTooMany(t *testing.T, b branch) {
	t.Helper()
	p, _ := Text(b.list())
	for i := range p {
		if p[i] != '(' || p[i+1] == ')' {
			continue
		}
		close, open := i, 1
		for open > 0 {
			close++
			switch p[close] {
			case '(':
				open++
			case ')':
				open--
			}
		}
		less := p[:i] + p[i+1:close] + p[close+1:]
		if n, _, e := parse.Pattern(less); e == api.OK && slices.Equal(n, b.list()) {
			t.Errorf("%s is told, where %s would do", p, less)
		}
	}
}

// grown is a branch of just n nodes, by what next tells.
func grown(next func(int) int, n int) branch {
	if n == 1 {
		leaf := nodeOf("abcXY01e^$"[next(10)])
		switch next(12) {
		case 0:
			lo := next(256)
			leaf = set(fromTo(lo, lo+next(256-lo)))
		case 1:
			leaf = set(joined(bytesOf(next(256)), bytesOf(next(256))))
		case 2:
			leaf = set([]api.Set{{}, full(), flipped(full(), 10, false), textSet(signs)}[next(4)])
		}
		return branch{node: leaf}
	}
	if n == 2 || next(4) == 0 {
		lo := next(33)
		hi := lo + next(33-lo)
		if next(2) == 0 {
			hi = -1
		}
		if next(3) > 0 {
			return branch{nodeOf("*+?"[next(3)]), []branch{grown(next, n-1)}}
		}
		return branch{rep(lo, hi), []branch{grown(next, n-1)}}
	}
	first := 1 + next(n-2)
	return branch{nodeOf(".|"[next(2)]), []branch{grown(next, first), grown(next, n-1-first)}}
}

func TestMixedTrees(t *testing.T) { // P6.2, P6.3
	next := generator()
	told, long := 0, 0
	for range 10000 {
		if againstModel(t, grown(next, 1+next(150))) {
			told++
		} else {
			long++
		}
	}
	if told < 2500 || long < 2500 {
		t.Errorf("%d were told, %d were too long", told, long)
	}
}

// TestTextsAndTheirTrees: a text that Text tells is told again, by the tree of it.
func TestTextsAndTheirTrees(t *testing.T) { // P6.3
	for _, p := range []string{"a", "()", "[]", "^", "$", ".", "a|b|c", "a|(b|c)", "(a|b)*\\.", "a|()", "a[b-d]{2,}", "x{2,5}|[\\x00-\\x09\\x0b-mo-\\xff]$", "([0-9]+|[A-Z\\x5fa-z]*)\\.", "a(b(c|d)*e){0,32}", "()*", "^*$+", "\\x0aa\\x20", "\\(\\)*\\|\\[\\]\\\\", "a{0}{1}{32}"} {
		l, _, e := parse.Pattern(p)
		if e != api.OK {
			t.Fatalf("%s: %d", p, e)
		}
		wantText(t, l, p)
	}
	// What can be said in several ways is told in one.
	for _, x := range [][2]string{
		{"", "()"}, {"|", "()|()"}, {"a|", "a|()"}, {"|a", "()|a"}, {"(a)", "a"}, {"((a)(b))", "ab"}, {"(ab)c", "abc"}, {"(a|b)|c", "a|b|c"}, {"(a*)*", "a**"}, {"a|(bc)", "a|bc"},
		{"a{1,}", "a+"}, {"a{0,}", "a*"}, {"a{0,1}", "a?"}, {"a{2,2}", "a{2}"}, {"a{1}", "a{1}"},
		{"[a]", "a"}, {"[^\\n]", "."}, {"[^]", "[\\x00-\\xff]"}, {"\\n", "\\x0a"}, {"\\x41", "A"}, {"_", "\\_"}, {"]}-", "\\]\\}\\-"}, {"[cab]", "[a-c]"}, {"\\d", "[0-9]"}, {"\\w", "[0-9A-Z\\x5fa-z]"}, {"\\s", "[\\x09-\\x0d\\x20]"}, {"[[:punct:]]", "[\\x21-\\x2f\\x3a-\\x40\\x5b-\\x60\\x7b-\\x7e]"}, {"\\\n", "\\x0a"}, {" ", "\\x20"}, {"\xff", "\\xff"},
	} {
		l, _, e := parse.Pattern(x[0])
		if e != api.OK {
			t.Fatalf("%s: %d", x[0], e)
		}
		wantText(t, l, x[1])
	}
}

// TestListsThatAreNoTrees: each is told as ErrForm, and as nothing else.
func TestListsThatAreNoTrees(t *testing.T) { // P6.2, rule 2
	wantRefused(t, nil, api.ErrForm)
	wantRefused(t, []api.Node{}, api.ErrForm)
	// An argument too few, or too many.
	for _, word := range []string{".", "|", "*", "#", "a.", "a|", "aa", "ab.c", "abc.", "ab|c", "a*b", "*a", ".ab", "a.b", "a*.", "ab..", "ab||", "ab.|", "ee", "^$", "e.", "^*|", "abc", "abcd..", "aa*"} {
		wantRefused(t, nodes(word), api.ErrForm)
	}
	// A kind that is none: alone, first, last, within.
	for _, kind := range []int{0, 8, 9, -1, -7, 255, 256 + api.NdSet, 1<<32 + api.NdCat, math.MinInt, math.MaxInt} {
		odd := api.Node{Kind: kind}
		wantRefused(t, []api.Node{odd}, api.ErrForm)
		wantRefused(t, append([]api.Node{odd}, nodes("a.")...), api.ErrForm)
		wantRefused(t, append(nodes("a"), odd), api.ErrForm)
		wantRefused(t, append(nodes("ab"), odd), api.ErrForm)
		wantRefused(t, append(append(nodes("a"), odd), nodes("|")...), api.ErrForm)
	}
	// Fields where none may be, and repeats that may not be.
	l := nodes("^a.e|*b#.$.")
	wantText(t, l, "(^a|())*b{2,5}$")
	for i := range l {
		for _, change := range []func(n *api.Node){
			func(n *api.Node) { n.Set[3] = 1 },
			func(n *api.Node) { n.Set[0] = whole },
			func(n *api.Node) { n.Lo = 1 },
			func(n *api.Node) { n.Hi = 1 },
			func(n *api.Node) { n.Hi = -1 },
			func(n *api.Node) { n.Lo, n.Hi = 33, 33 },
			func(n *api.Node) { n.Lo, n.Hi = -1, 3 },
			func(n *api.Node) { n.Lo, n.Hi = 3, 2 },
			func(n *api.Node) { n.Lo, n.Hi = 0, 33 },
			func(n *api.Node) { n.Lo, n.Hi = 0, -2 },
			func(n *api.Node) { n.Lo, n.Hi = math.MinInt, math.MaxInt },
		} {
			odd := slices.Clone(l)
			change(&odd[i])
			if tree.Right(odd) {
				againstModel(t, branchOf(t, odd))
				continue
			}
			wantRefused(t, odd, api.ErrForm)
			wantRefused(t, odd[:i+1], api.ErrForm)
		}
	}
}

// padded is a branch with letters behind it, joined in one way, until its text is as long as asked, or just longer.
func padded(b branch, join byte, length int) branch {
	each := len("z")
	if join == '|' {
		each = len("|z")
	}
	z := branch{node: nodeOf('z')}
	b = branch{nodeOf(join), []branch{b, z}}
	for have := len(b.write(0)); have < length; have += each {
		b = branch{nodeOf(join), []branch{b, z}}
	}
	return b
}

// TestLengths: 200 bytes are told, 201 are not.
func TestLengths(t *testing.T) { // P6.2
	for _, word := range []string{"a", "ab.", "ab|", "e", "^", "$", "_", "a*", "a#", "ab|*", "ab.=", "abc..", "abc||", "ab.cd..", "__|"} {
		for length := 190; length <= 210; length++ {
			row := padded(branchOf(t, nodes(word)), '.', length)
			if told := againstModel(t, row); told != (length <= 200) {
				t.Errorf("of %d bytes: told is %v", length, told)
			}
			sides := padded(branchOf(t, nodes(word)), '|', length)
			if told := againstModel(t, sides); told != (len(sides.write(0)) <= 200) {
				t.Errorf("of %d bytes: told is %v", len(sides.write(0)), told)
			}
		}
	}
}

// TestLongestTexts has pairs of trees: the text of the one has just 200 bytes, that of the other one 201.
func TestLongestTexts(t *testing.T) { // P6.2
	again := strings.Repeat
	for _, x := range []struct{ told, text, long string }{
		{"a" + again("b.", 199), "a" + again("b", 199), "a" + again("b.", 200)},
		{"a" + again("*", 199), "a" + again("*", 199), "a" + again("*", 200)},
		{"_" + again("_.", 99), again("\\_", 100), "_" + again("_.", 98) + "_+."},
		{"e" + again("e.", 99), again("()", 100), "e" + again("e.", 99) + "a."},
		{"a" + again("b|", 98) + "c*|", "a" + again("|b", 98) + "|c*", "a" + again("b|", 98) + "c*+|"},
		{"a" + again("b|", 98) + "*", "(a" + again("|b", 98) + ")*", "a" + again("b|", 98) + "*+"},
		{"a" + again("b|", 98) + "^.", "(a" + again("|b", 98) + ")^", "a" + again("b|", 98) + "^.$."},
		{"za" + again("b|", 98) + ".", "z(a" + again("|b", 98) + ")", "za" + again("b|", 98) + ".$."},
		{"z*a" + again("b|", 97) + "|", "z*|(a" + again("|b", 97) + ")", "z*+a" + again("b|", 97) + "|"},
		{"za" + again("b.", 196) + ".", "z(a" + again("b", 196) + ")", "za" + again("b.", 197) + "."},
		{"a" + again("b.", 196) + "*", "(a" + again("b", 196) + ")*", "a" + again("b.", 197) + "*"},
		{"a" + again("b.", 193) + "c#.", "a" + again("b", 193) + "c{2,5}", "a" + again("b.", 194) + "c#."},
		{"a" + again("b.", 194) + "c>.", "a" + again("b", 194) + "c{4,}", "a" + again("b.", 195) + "c>."},
		{"a" + again("b.", 195) + "c=.", "a" + again("b", 195) + "c{3}", "a" + again("b.", 196) + "c=."},
	} {
		if len(x.text) != 200 {
			t.Errorf("%d bytes: %s", len(x.text), x.text)
		}
		wantText(t, nodes(x.told), x.text)
		if n := len(branchOf(t, nodes(x.long)).write(0)); n != 201 {
			t.Errorf("%d bytes: %s", n, x.long)
		}
		wantRefused(t, nodes(x.long), api.ErrLong)
	}
	// One set: of 49 bytes beyond the letters, and two letters, or three.
	var others api.Set
	for k := range 49 {
		others = flipped(others, 128+2*k, true)
	}
	two, three := joined(others, textSet("ac")), joined(others, textSet("ace"))
	wantText(t, []api.Node{set(two)}, Set(two))
	wantRefused(t, []api.Node{set(three)}, api.ErrLong)
	if len(Set(two)) != 200 || len(Set(three)) != 201 {
		t.Errorf("%d, %d", len(Set(two)), len(Set(three)))
	}
}

// branchOf is the branch of a list.
func branchOf(t *testing.T, l []api.Node) branch {
	t.Helper()
	var rest []branch
	for _, n := range l {
		k := len(rest) - map[int]int{api.NdCat: 2, api.NdOr: 2, api.NdRep: 1}[n.Kind]
		rest = append(rest[:k:k], branch{n, slices.Clone(rest[k:])})
	}
	if len(rest) != 1 {
		t.Fatalf("no tree: %s", brief(l))
	}
	return rest[0]
}

// TestMostNodes: trees of 512 nodes are trees, but the text of none of them is short enough.
func TestMostNodes(t *testing.T) { // P6.2, rule 1
	again := strings.Repeat
	everySecond := fromTo(0, 255)
	for b := 0; b < 256; b += 2 {
		everySecond = flipped(everySecond, b, false)
	}
	wide := []api.Node{set(everySecond)}
	for range 255 {
		wide = append(wide, set(everySecond), nodeOf('|'))
	}
	most := [][]api.Node{
		nodes("a" + again("*", 511)),
		nodes("a" + again("b.", 255) + "*"),
		nodes("a*" + again("b.", 255)),
		nodes("a" + again("b|", 255) + "*"),
		nodes(again("a", 256) + again(".", 255) + "?"),
		nodes(again("a", 256) + again("|", 255) + "?"),
		nodes(again("a", 255) + "e*" + again("|", 255)),
		nodes("e" + again("e.", 255) + "*"),
		nodes("^" + again("$*.^|", 102) + "#"),
		append(wide, rep(0, -1)),
	}
	for _, l := range most {
		if len(l) != 512 || !tree.Right(l) {
			t.Fatalf("no tree of 512 nodes: %s", brief(l))
		}
		wantRefused(t, l, api.ErrLong)
		wantRefused(t, append(slices.Clone(l), rep(1, -1)), api.ErrForm)
	}
	// The greatest tree that is told.
	wantText(t, nodes("a"+again("b.", 199)), "a"+again("b", 199))
}

// TestBothErrors: what is no tree is ErrForm, also where it would be too long.
func TestBothErrors(t *testing.T) { // P6.2, rule 1
	again := strings.Repeat
	long := "a" + again("b.", 250)
	wantRefused(t, nodes(long), api.ErrLong)
	for _, word := range []string{long + "c", "c" + long, long + ".", "." + long, long + "cd.", again("a", 300), "a" + again("b.", 400), "a" + again("*", 512), long + "|"} {
		wantRefused(t, nodes(word), api.ErrForm)
	}
	for _, odd := range []api.Node{{}, {Kind: 8}, {Kind: -1}, {Kind: api.NdRep, Lo: 33, Hi: 33}, {Kind: api.NdRep, Lo: 3, Hi: 2}, {Kind: api.NdRep, Set: api.Set{1}}, {Kind: api.NdRep, Hi: -2}} {
		wantRefused(t, append(nodes(long), odd), api.ErrForm)
	}
	for _, odd := range []api.Node{{Kind: api.NdSet, Lo: 1}, {Kind: api.NdEmpty, Hi: 1}, {Kind: api.NdBegin, Set: api.Set{1}}, {Kind: api.NdEnd, Hi: -1}} {
		wantRefused(t, append(append(nodes(long), odd), nodeOf('.')), api.ErrForm)
		wantRefused(t, append(append([]api.Node{odd}, nodes(long)...), nodeOf('|')), api.ErrForm)
	}
	for _, n := range []int{513, 1 << 10, 1 << 18} {
		wantRefused(t, nodes("a"+again("*", n-1)), api.ErrForm)
		wantRefused(t, nodes(again("a", n)), api.ErrForm)
		wantRefused(t, nodes(again(".", n)), api.ErrForm)
	}
}

// TestDeepGroups: of 20 groups within one another the text is the tree again; of 21 it is a text all the same, but no pattern.
func TestDeepGroups(t *testing.T) { // P6.3
	again := strings.Repeat
	for n := range 39 {
		for _, x := range []struct{ word, text string }{
			{"a" + again("b", n) + "c" + again(".", n+1), "a" + again("(b", n) + "c" + again(")", n)},
			{"a" + again("b", n) + "c" + again("|", n+1), "a" + again("|(b", n) + "|c" + again(")", n)},
			{again("a", n) + "b" + again(".*", n), again("(a", n) + "b" + again(")*", n)},
			{"a" + again("b.+", n), again("(", n) + "a" + again("b)+", n)},
			{"a" + again("b|?", n), again("(", n) + "a" + again("|b)?", n)},
			{"a" + again("b|c.", n), again("(", n) + "a" + again("|b)c", n)},
			{again("ab", n) + "c" + again("|.", n), again("a(b|", n) + "c" + again(")", n)},
		} {
			wantDeep(t, nodes(x.word), x.text, n)
		}
		// What is empty has a group of its own.
		wantDeep(t, nodes("a"+again("b", n)+"e"+again(".", n+1)), "a"+again("(b", n)+"()"+again(")", n), n+1)
		wantDeep(t, nodes("a"+again("b|?", n)+"e.*"), "("+again("(", n)+"a"+again("|b)?", n)+"())*", max(n, 1)+1)
	}
	// As many as there is room for, one behind the other.
	wantDeep(t, nodes("ab.*"+again("ab.*.", 39)), again("(ab)*", 40), 1)
	wantDeep(t, nodes("ab|"+again("ab|.", 39)), again("(a|b)", 40), 1)
}

// wantDeep asks for a tree's text, in which some groups stand within one another.
func wantDeep(t *testing.T, l []api.Node, want string, deep int) {
	t.Helper()
	wantText(t, l, want)
	if groups(want) != deep {
		t.Errorf("%s has not %d groups within one another", want, deep)
	}
	if _, _, e := parse.Pattern(want); (e == api.OK) != (deep <= 20) {
		t.Errorf("%s, with %d groups: %d", want, deep, e)
	}
}

func TestExamples(t *testing.T) { // the chapter's examples, and those of the whole
	wantSet(t, textSet("abdef"), "[abd-f]")
	wantText(t, append(nodes("ab|*"), set(textSet(".")), nodeOf('.')), "(a|b)*\\.")
	wantText(t, nodes("ae|"), "a|()")
	for _, x := range [][2]string{{"a|", "a|()"}, {"(a|b)*\\.", "(a|b)*\\."}, {"a(bc)", "a(bc)"}, {"(ab)c", "abc"}} {
		l, _, _ := parse.Pattern(x[0])
		wantText(t, l, x[1])
	}
}

func TestWhatIsHandedInStays(t *testing.T) { // P2, rule 4
	for _, word := range []string{"", "a", "ab|*c.", "ab", "a" + strings.Repeat("b.", 250), strings.Repeat("*", 600)} {
		l := slices.Grow(nodes(word), 10) // room behind the list, in which nothing must be put
		room := l[:cap(l)]
		before := slices.Clone(room)
		Text(l)
		if !slices.Equal(room, before) {
			t.Errorf("%s is changed", word)
		}
	}
	l := nodes("ab|*c.")
	first, _ := Text(l)
	clear(l)
	second, _ := Text(nodes("ab|*c."))
	if first != "(a|b)*c" || second != first {
		t.Errorf("%s, %s", first, second)
	}
}

// TestRawLists: any numbers end without a panic, and what is no tree is ErrForm.
func TestRawLists(t *testing.T) { // P1, P6.2, rule 5
	next := generator()
	numbers := []int{0, 0, 0, 1, 2, 3, 4, 5, 6, 7, 1, 5, 6, 7, 8, -1, -1, 32, 33, math.MinInt, math.MaxInt}
	made := 0
	for range 200000 {
		l := make([]api.Node, next(9))
		for i := range l {
			l[i].Kind = numbers[3+next(11+next(2)*next(8))]
			if l[i].Kind == api.NdRep || next(20) == 0 {
				l[i].Lo, l[i].Hi = numbers[next(8)], numbers[next(21)]
			}
			if l[i].Kind == api.NdSet || next(20) == 0 {
				l[i].Set = api.Set{0, uint64(next(1 << 20))}
			}
		}
		p, e := Text(l)
		switch {
		case !tree.Right(l):
			if p != "" || e != api.ErrForm {
				t.Fatalf("Text(%s): %q, %d", brief(l), p, e)
			}
		case e == api.OK:
			made++
			wantTreeAgain(t, l, p)
		default:
			if p != "" || e != api.ErrLong || len(branchOf(t, l).write(0)) <= 200 {
				t.Fatalf("Text(%s): %q, %d", brief(l), p, e)
			}
		}
	}
	if made < 2000 {
		t.Errorf("only %d were made", made)
	}
}
