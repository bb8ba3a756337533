package lex

import (
	"fmt"
	"regexp"
	"slices"
	"strings"
	"testing"

	"tatting/api"
	"tatting/byteset"
)

const (
	digits = "0123456789"
	uppers = "ABCDEFGHIJKLMNOPQRSTUVWXYZ"
	lowers = "abcdefghijklmnopqrstuvwxyz"
)

// bytesOf is the set of a text's bytes, told bit by bit.
func bytesOf(text string) api.Set {
	var s api.Set
	for _, b := range []byte(text) {
		s[b/64] |= uint64(1) << (b % 64)
	}
	return s
}

// allBut is the set of what is not among a text's bytes.
func allBut(text string) api.Set {
	s := bytesOf(text)
	for i := range s {
		s[i] = ^s[i]
	}
	return s
}

// run is the set of the bytes from one to another one.
func run(lo, hi byte) api.Set {
	var s api.Set
	for b := int(lo); b <= int(hi); b++ {
		s[b/64] |= uint64(1) << (b % 64)
	}
	return s
}

func both(sets ...api.Set) api.Set {
	var s api.Set
	for _, t := range sets {
		for i := range s {
			s[i] |= t[i]
		}
	}
	return s
}

func setToken(at int, s api.Set) api.Token { return api.Token{Kind: api.TkSet, At: at, Set: s} }

func repToken(at, lo, hi int) api.Token { return api.Token{Kind: api.TkRep, At: at, Lo: lo, Hi: hi} }

// wantTokens asks that a pattern has just some tokens.
func wantTokens(t *testing.T, p string, want ...api.Token) {
	t.Helper()
	if l, at, e := Tokens(p); e != api.OK || at != 0 || !slices.Equal(l, want) {
		t.Errorf("Tokens(%q): %v, %d, %d; not %v", p, l, at, e, want)
	}
}

// wantError asks that a pattern has no tokens, but an error at a place.
func wantError(t *testing.T, p string, place int, err api.Errno) {
	t.Helper()
	if l, at, e := Tokens(p); e != err || at != place || len(l) != 0 {
		t.Errorf("Tokens(%q): %v, %d, %d; not %d at %d", p, l, at, e, err, place)
	}
}

func TestEmptyPattern(t *testing.T) { // P3.1
	wantTokens(t, "")
}

func TestLongPatterns(t *testing.T) { // P3.1
	for _, c := range []string{"a", "(", "]", "\xff", "\n"} {
		l, at, e := Tokens(strings.Repeat(c, 200))
		if e != api.OK || at != 0 || len(l) != 200 || l[199].At != 199 {
			t.Errorf("200 times %q: %d tokens, %d, %d", c, len(l), at, e)
		}
		wantError(t, strings.Repeat(c, 201), 0, api.ErrLong)
		wantError(t, strings.Repeat(c, 1<<20), 0, api.ErrLong)
	}
	wantTokens(t, "["+strings.Repeat("a", 198)+"]", setToken(0, bytesOf("a")))
	wantError(t, "["+strings.Repeat("a", 199)+"]", 0, api.ErrLong)
	wantTokens(t, strings.Repeat("[[:alpha:]]", 18), manyAlphas(18)...)
}

// manyAlphas are the tokens of [[:alpha:]], some times.
func manyAlphas(n int) []api.Token {
	var l []api.Token
	for i := range n {
		l = append(l, setToken(i*len("[[:alpha:]]"), bytesOf(uppers+lowers)))
	}
	return l
}

func TestTooLongAheadOfMalformed(t *testing.T) { // P3.1, rule 1
	for _, bad := range []string{"\\", "{", "[", "[[:no:]]", "\\q", "[b-a]"} {
		wantError(t, bad+strings.Repeat("a", 201-len(bad)), 0, api.ErrLong)
		wantError(t, strings.Repeat("a", 201-len(bad))+bad, 0, api.ErrLong)
		wantError(t, strings.Repeat("a", 200-len(bad))+bad, 200-len(bad), api.ErrForm)
	}
}

func TestFirstThatCannotBeMade(t *testing.T) { // P3.1
	for _, c := range []struct {
		p  string
		at int
	}{
		{"a\\", 1},
		{"ab\\q\\q", 2},
		{"a{2}b{3", 5},
		{"a{2{3}", 1},
		{"[ab][cd", 4},
		{"[a[b", 0},
		{"[ab", 0},
		{"x[[:alpha:]][[:alpha]]", 12},
		{"(a|b)*\\x4g$", 6},
		{"[a-z]{3,2}[", 5},
		{"\\", 0},
		{"{", 0},
		{"[", 0},
		{"....................\\1", 20},
	} {
		wantError(t, c.p, c.at, api.ErrForm)
	}
}

// fixed is the token of each byte that is one by itself and stands for no set.
func fixed() map[byte]api.Token {
	return map[byte]api.Token{
		'|': {Kind: api.TkOr},
		'(': {Kind: api.TkOpen},
		')': {Kind: api.TkClose},
		'^': {Kind: api.TkBegin},
		'$': {Kind: api.TkEnd},
		'*': {Kind: api.TkRep, Lo: 0, Hi: -1},
		'+': {Kind: api.TkRep, Lo: 1, Hi: -1},
		'?': {Kind: api.TkRep, Lo: 0, Hi: 1},
	}
}

func TestEachByteAlone(t *testing.T) { // P3.2
	for b := range 256 {
		p := string([]byte{byte(b)})
		if token, ok := fixed()[byte(b)]; ok {
			wantTokens(t, p, token)
			token.At = 2
			wantTokens(t, "ab"+p, setToken(0, bytesOf("a")), setToken(1, bytesOf("b")), token)
			continue
		}
		switch p {
		case "{", "\\", "[":
			wantError(t, p, 0, api.ErrForm)
		case ".":
			wantTokens(t, p, setToken(0, allBut("\n")))
		default:
			wantTokens(t, p, setToken(0, bytesOf(p)))
			wantTokens(t, "*"+p, repToken(0, 0, -1), setToken(1, bytesOf(p)))
		}
	}
}

func TestClosingBytesAreSets(t *testing.T) { // P3.2
	wantTokens(t, "]}", setToken(0, bytesOf("]")), setToken(1, bytesOf("}")))
	wantTokens(t, "a]b}", setToken(0, bytesOf("a")), setToken(1, bytesOf("]")), setToken(2, bytesOf("b")), setToken(3, bytesOf("}")))
	wantTokens(t, "-,:", setToken(0, bytesOf("-")), setToken(1, bytesOf(",")), setToken(2, bytesOf(":")))
	wantTokens(t, "ä", setToken(0, bytesOf("\xc3")), setToken(1, bytesOf("\xa4")))
}

func TestBoundsOfAllNumbers(t *testing.T) { // P3.2
	for m := range 102 {
		one := fmt.Sprintf("{%d}", m)
		open := fmt.Sprintf("{%d,}", m)
		if m > 32 {
			wantError(t, one, 0, api.ErrForm)
			wantError(t, open, 0, api.ErrForm)
		} else {
			wantTokens(t, one, repToken(0, m, m))
			wantTokens(t, open, repToken(0, m, -1))
		}
		for n := range 102 {
			two := fmt.Sprintf("{%d,%d}", m, n)
			if m <= n && n <= 32 {
				wantTokens(t, two, repToken(0, m, n))
			} else {
				wantError(t, two, 0, api.ErrForm)
			}
		}
	}
}

func TestBoundsThatCannotBeMade(t *testing.T) { // P3.2
	for _, p := range []string{
		"{", "{}", "{,}", "{,2}", "{2", "{2,", "{2,3", "{2,3,", "{2,3,}", "{2,3,4}", "{2,,3}", "{,,}", "{2,,}", "{2{3}}", "{{2}}",
		"{00}", "{01}", "{09}", "{032}", "{000}", "{00,}", "{0,00}", "{0,01}", "{01,2}", "{1,02}", "{1,032}", "{00,0}",
		"{33}", "{33,}", "{33,33}", "{1,33}", "{32,33}", "{99}", "{100}", "{320}", "{4294967298}", "{18446744073709551618}", "{2,18446744073709551619}",
		"{3,2}", "{1,0}", "{32,31}", "{10,9}", "{9,1}",
		"{-1}", "{-0}", "{+1}", "{-2,-1}", "{1,-1}", "{1,+2}", "{ 1}", "{1 }", "{1, 2}", "{1 ,2}", "{1,2 }", "{1;2}", "{1-2}",
		"{a}", "{1a}", "{a1}", "{0x1}", "{1_0}", "{1.}", "{1,b}", "{\\d}", "{[1]}", "{1\n}", "{\xb2}", "{٣}", "{1\x00}", "{1)", "{1]",
	} {
		wantError(t, p, 0, api.ErrForm)
		wantError(t, "ab"+p+"c", 2, api.ErrForm)
	}
}

func TestBoundsAmongOthers(t *testing.T) { // P3.2
	wantTokens(t, "{2}}", repToken(0, 2, 2), setToken(3, bytesOf("}")))
	wantTokens(t, "{0}{0,}{0,0}", repToken(0, 0, 0), repToken(3, 0, -1), repToken(7, 0, 0))
	wantTokens(t, "a{12,32}*", setToken(0, bytesOf("a")), repToken(1, 12, 32), repToken(8, 0, -1))
	wantTokens(t, "{7,7},", repToken(0, 7, 7), setToken(5, bytesOf(",")))
	wantTokens(t, "\\{2}", setToken(0, bytesOf("{")), setToken(2, bytesOf("2")), setToken(3, bytesOf("}")))
}

// escaped is what a backslash and a byte stand for, of those letters that stand for something.
func escaped() map[byte]api.Set {
	return map[byte]api.Set{
		'n': bytesOf("\n"), 't': bytesOf("\t"), 'r': bytesOf("\r"),
		'd': bytesOf(digits), 's': bytesOf("\t\n\v\f\r "), 'w': bytesOf(digits + uppers + lowers + "_"),
		'D': allBut(digits), 'S': allBut("\t\n\v\f\r "), 'W': allBut(digits + uppers + lowers + "_"),
	}
}

func TestBackslashAndEachByte(t *testing.T) { // P3.2
	for b := range 256 {
		one := string([]byte{byte(b)})
		p := "\\" + one
		s, ok := escaped()[byte(b)]
		switch {
		case ok:
			wantTokens(t, p, setToken(0, s))
			wantTokens(t, p+"x", setToken(0, s), setToken(2, bytesOf("x")))
			wantTokens(t, "["+p+"]", setToken(0, s))
		case strings.Contains(digits+uppers+lowers, one):
			wantError(t, p, 0, api.ErrForm)
			wantError(t, "a"+p+" ", 1, api.ErrForm)
			wantError(t, "a["+p+"]", 1, api.ErrForm)
		default:
			wantTokens(t, p, setToken(0, bytesOf(one)))
			wantTokens(t, p+"x", setToken(0, bytesOf(one)), setToken(2, bytesOf("x")))
			wantTokens(t, "["+p+"]", setToken(0, bytesOf(one)))
		}
	}
}

func TestBackslashAtTheEnd(t *testing.T) { // P3.2
	wantError(t, "\\", 0, api.ErrForm)
	wantError(t, "a\\", 1, api.ErrForm)
	wantError(t, "\\\\\\", 2, api.ErrForm)
	wantTokens(t, "\\\\", setToken(0, bytesOf("\\")))
	wantTokens(t, "\\\\\\\\", setToken(0, bytesOf("\\")), setToken(2, bytesOf("\\")))
	wantError(t, "[\\", 0, api.ErrForm)
	wantError(t, "[\\]", 0, api.ErrForm)
	wantError(t, "[a-\\", 0, api.ErrForm)
}

// TestHexadecimal tries each two bytes behind \x, alone and within brackets.
func TestHexadecimal(t *testing.T) { // P3.2
	const values = "0123456789abcdef"
	for a := range 256 {
		for b := range 256 {
			p := "\\x" + string([]byte{byte(a), byte(b)})
			high := strings.Index(values, strings.ToLower(p[2:3]))
			low := strings.Index(values, strings.ToLower(p[3:4]))
			if high < 0 || low < 0 {
				wantError(t, p, 0, api.ErrForm)
				continue
			}
			s := bytesOf(string([]byte{byte(16*high + low)}))
			wantTokens(t, p, setToken(0, s))
			wantTokens(t, "["+p+"]0", setToken(0, s), setToken(6, bytesOf("0")))
		}
	}
}

func TestHexadecimalByHand(t *testing.T) { // P3.2
	for _, p := range []string{"\\x", "\\x4", "\\xf", "\\xg", "\\x4g", "\\xg4", "\\x 4", "\\x4 ", "\\x+4", "\\x-4", "\\x_4", "\\x4_", "\\x0x", "\\X41", "\\x\\41", "\\x{4}"} {
		wantError(t, p, 0, api.ErrForm)
		wantError(t, "a"+p, 1, api.ErrForm)
		wantError(t, "["+p+"]", 0, api.ErrForm)
	}
	for _, p := range []string{"\\xaf", "\\xAF", "\\xaF", "\\xAf"} {
		wantTokens(t, p, setToken(0, bytesOf("\xaf")))
	}
	wantTokens(t, "\\x413", setToken(0, bytesOf("A")), setToken(4, bytesOf("3")))
	wantTokens(t, "\\x00\\xff", setToken(0, bytesOf("\x00")), setToken(4, bytesOf("\xff")))
	wantTokens(t, "\\x2a", setToken(0, bytesOf("*")))
	wantTokens(t, "x41", setToken(0, bytesOf("x")), setToken(1, bytesOf("4")), setToken(2, bytesOf("1")))
}

func TestBrackets(t *testing.T) { // P3.2
	letters := bytesOf(uppers + lowers)
	for _, c := range []struct {
		p string
		s api.Set
	}{
		{"[]", api.Set{}},
		{"[^]", allBut("")},
		{"[a]", bytesOf("a")},
		{"[aab]", bytesOf("ab")},
		{"[^a]", allBut("a")},
		{"[^^]", allBut("^")},
		{"[a^]", bytesOf("a^")},
		{"[\\^]", bytesOf("^")},
		{"[\\^a]", bytesOf("^a")},
		{"[^^a^]", allBut("^a")},
		{"[[]", bytesOf("[")},
		{"[[[]", bytesOf("[")},
		{"[[a]", bytesOf("[a")},
		{"[a[]", bytesOf("a[")},
		{"[:]", bytesOf(":")},
		{"[:a:]", bytesOf(":a")},
		{"[:alpha:]", bytesOf(":alph")},
		{"[[a:]", bytesOf("[a:")},
		{"[\\[:]", bytesOf("[:")},
		{"[:[]", bytesOf("[:")},
		{"[-]", bytesOf("-")},
		{"[--]", bytesOf("-")},
		{"[---]", bytesOf("-")},
		{"[----]", bytesOf("-")},
		{"[^-]", allBut("-")},
		{"[^-a]", allBut("-a")},
		{"[-a]", bytesOf("-a")},
		{"[a-]", bytesOf("a-")},
		{"[^a-]", allBut("a-")},
		{"[.*+?|(){}$,]", bytesOf(".*+?|(){}$,")},
		{"[.]", bytesOf(".")},
		{"[{2}]", bytesOf("{2}")},
		{"[\n]", bytesOf("\n")},
		{"[\x00\x7f\x80\xff]", bytesOf("\x00\x7f\x80\xff")},
		{"[ä]", bytesOf("\xc3\xa4")},
		{"[\\]]", bytesOf("]")},
		{"[\\]a]", bytesOf("]a")},
		{"[\\\\]", bytesOf("\\")},
		{"[\\n\\t\\r]", bytesOf("\n\t\r")},
		{"[\\x41\\x5a]", bytesOf("AZ")},
		{"[\\d_]", bytesOf(digits + "_")},
		{"[\\D]", allBut(digits)},
		{"[^\\d]", allBut(digits)},
		{"[^\\D]", bytesOf(digits)},
		{"[\\d\\D]", allBut("")},
		{"[^\\w\\W]", api.Set{}},
		{"[[:alpha:]]", letters},
		{"[^[:alpha:]]", allBut(uppers + lowers)},
		{"[[:digit:][:upper:]_]", bytesOf(digits + uppers + "_")},
		{"[x[:digit:]]", bytesOf("x" + digits)},
		{"[[:digit:]x]", bytesOf("x" + digits)},
		{"[[[:digit:]]", bytesOf("[" + digits)},
		{"[[:blank:]^]", bytesOf("\t ^")},
	} {
		wantTokens(t, c.p, setToken(0, c.s))
		wantTokens(t, "a"+c.p+"]", setToken(0, bytesOf("a")), setToken(1, c.s), setToken(1+len(c.p), bytesOf("]")))
	}
}

func TestRunsInBrackets(t *testing.T) { // P3.2
	for _, c := range []struct {
		p string
		s api.Set
	}{
		{"[b-d]", bytesOf("bcd")},
		{"[a-a]", bytesOf("a")},
		{"[^b-d]", allBut("bcd")},
		{"[a-ce-g]", bytesOf("abcefg")},
		{"[a-c-e]", bytesOf("abc-e")},
		{"[a-c-]", bytesOf("abc-")},
		{"[a-c--]", bytesOf("abc-")},
		{"[a-c--/]", bytesOf("abc-./")},
		{"[+--]", bytesOf("+,-")},
		{"[--/]", bytesOf("-./")},
		{"[---a]", bytesOf("-a")},
		{"[^--/]", allBut("-./")},
		{"[^-a-c]", allBut("-abc")},
		{"[[-a]", run('[', 'a')},
		{"[[-\\]]", bytesOf("[\\]")},
		{"[A-[]", run('A', '[')},
		{"[A-\\]]", run('A', ']')},
		{"[\\]-a]", run(']', 'a')},
		{"[\\]-]", bytesOf("]-")},
		{"[^^-a]", both(run(0, ']'), run('b', 255))},
		{"[\\^-a]", run('^', 'a')},
		{"[!-^]", run('!', '^')},
		{"[\\n-z]", run(10, 'z')},
		{"[\\t-\\r]", run(9, 13)},
		{"[\t-\\r]", run(9, 13)},
		{"[\\x00-\\xff]", run(0, 255)},
		{"[^\\x00-\\xff]", api.Set{}},
		{"[\\x41-Z]", run('A', 'Z')},
		{"[A-\\x5A]", run('A', 'Z')},
		{"[\\x41-\\x43-\\x45]", bytesOf("ABC-E")},
		{"[\x00-\xff]", run(0, 255)},
		{"[\x80-\x82]", bytesOf("\x80\x81\x82")},
		{"[\\--/]", bytesOf("-./")},
		{"[+-\\-]", bytesOf("+,-")},
		{"[a\\-c]", bytesOf("a-c")},
		{"[\\\\-^]", bytesOf("\\]^")},
		{"[.-0]", bytesOf("./0")},
		{"[*-,]", bytesOf("*+,")},
		{"[0-9[:alpha:]]", bytesOf(digits + uppers + lowers)},
		{"[[:alpha:]0-9]", bytesOf(digits + uppers + lowers)},
		{"[9-:]", bytesOf("9:")},
		{"[:-<]", bytesOf(":;<")},
		{"[a-c\\d]", bytesOf("abc" + digits)},
		// What has several bytes begins no run: the - behind it is an item.
		{"[\\d-z]", bytesOf(digits + "-z")},
		{"[\\d-]", bytesOf(digits + "-")},
		{"[\\d--]", bytesOf(digits + "-")},
		{"[\\d--/]", bytesOf(digits + "-./")},
		{"[\\d-\\d]", bytesOf(digits + "-")},
		{"[\\D-z]", allBut(digits)},
		{"[\\s-a]", bytesOf("\t\n\v\f\r -a")},
		{"[[:digit:]-z]", bytesOf(digits + "-z")},
		{"[[:digit:]-]", bytesOf(digits + "-")},
		{"[[:digit:]-[:upper:]]", bytesOf(digits + "-" + uppers)},
		{"[[:digit:]--/]", bytesOf(digits + "-./")},
	} {
		wantTokens(t, c.p, setToken(0, c.s))
		wantTokens(t, c.p+"-z", setToken(0, c.s), setToken(len(c.p), bytesOf("-")), setToken(len(c.p)+1, bytesOf("z")))
	}
	wantTokens(t, "[a-]-z]", setToken(0, bytesOf("a-")), setToken(4, bytesOf("-")), setToken(5, bytesOf("z")), setToken(6, bytesOf("]")))
}

// TestRunsOfAllBytes tries each run, of bytes by themselves where they can be, and told as numbers.
func TestRunsOfAllBytes(t *testing.T) { // P3.2
	for lo := range 256 {
		for hi := range 256 {
			p := fmt.Sprintf("[\\x%02x-\\x%02X]", lo, hi)
			if lo > hi {
				wantError(t, p, 0, api.ErrForm)
			} else {
				wantTokens(t, p, setToken(0, run(byte(lo), byte(hi))))
			}
			if strings.IndexByte("\\]^[", byte(lo)) >= 0 || strings.IndexByte("\\][", byte(hi)) >= 0 {
				continue
			}
			p = string([]byte{'[', byte(lo), '-', byte(hi), ']'})
			if lo > hi {
				wantError(t, p, 0, api.ErrForm)
			} else {
				wantTokens(t, p, setToken(0, run(byte(lo), byte(hi))))
			}
		}
	}
}

func TestBracketsThatCannotBeMade(t *testing.T) { // P3.2
	for _, p := range []string{
		// They do not end.
		"[", "[^", "[a", "[^a", "[a-", "[a-b", "[-", "[--", "[---", "[[", "[[[", "[\\]", "[^\\]", "[a-\\]", "[[:alpha:]", "[^[:alpha:]", "[[:alpha:]-", "[\\d", "[\\d-",
		// Names that do not end, and that are none.
		"[[:]", "[[::]", "[[:alpha]", "[[:alpha]]", "[[:alpha", "[^[:digit", "[a[:digit", "[!-[:digit", "[[:alpha:][:digit", "[[:alpha:", "[[:alpha: ]]", "[[:", "[[:a", "[a[:]", "[^[:]",
		"[[::]]", "[[:no:]]", "[[:Alpha:]]", "[[:ALPHA:]]", "[[: alpha:]]", "[[:alpha :]]", "[[:^alpha:]]", "[[:alpha:x:]]", "[[:al\\pha:]]", "[[:word:]]", "[[:d:]]", "[[:alpha,digit:]]", "[[:[:alpha:]:]]", "[[:]:]]", "[[:a]b[:alpha:]]", "[[:\xff:]]", "[[:\x00:]]",
		"[a[:no:]]", "[[:alpha:][:no:]]", "[^[:no:]]", "[[[:no:]]", "[[[:]",
		// What stands behind a backslash.
		"[\\q]", "[\\1]", "[a\\q]", "[^\\q]", "[\\x]", "[\\x4]", "[\\x4g]", "[\\xg]", "[a-\\q]", "[a-\\x4]", "[\\q-a]", "[a\\",
		// Runs that fall, and those whose end is not one byte.
		"[b-a]", "[^b-a]", "[z-a]", "[a-A]", "[a--]", "[a-[]", "[a-\\n]", "[\\n-\\t]", "[\\x42-\\x41]", "[\xff-\xfe]", "[ab-a]", "[a-cb-a]", "[a-c--,]", "[a-\\]]", "[\\d--,]", "[^^-A]",
		"[a-\\d]", "[a-\\D]", "[a-\\w]", "[a-\\W]", "[a-\\s]", "[a-\\S]", "[\\x00-\\w]", "[a-[:alpha:]]", "[!-[:alpha:]]", "[a-[:no:]]", "[!-[:]", "[A-[:]", "[A-[:Z]", "[!-[:no]", "[\\x00-[:digit:]]", "[--[:digit:]]", "[[:digit:]--[:digit:]]", "[--\\d]",
	} {
		wantError(t, p, 0, api.ErrForm)
		wantError(t, "a*"+p, 2, api.ErrForm)
	}
}

func TestAllNames(t *testing.T) { // P3.2
	graphs := ""
	for b := 33; b < 127; b++ {
		graphs += string(rune(b))
	}
	cntrls := "\x7f"
	for b := range 32 {
		cntrls += string(rune(b))
	}
	puncts := strings.Map(func(r rune) rune {
		if strings.ContainsRune(digits+uppers+lowers, r) {
			return -1
		}
		return r
	}, graphs)
	for name, has := range map[string]string{
		"alpha": uppers + lowers, "digit": digits, "alnum": digits + uppers + lowers, "upper": uppers, "lower": lowers,
		"space": "\t\n\v\f\r ", "blank": "\t ", "punct": puncts, "graph": graphs, "print": graphs + " ", "cntrl": cntrls, "xdigit": digits + "ABCDEFabcdef",
	} {
		wantTokens(t, "[[:"+name+":]]", setToken(0, bytesOf(has)))
		wantTokens(t, "[^[:"+name+":]]", setToken(0, allBut(has)))
		wantTokens(t, "["+name+"]", setToken(0, bytesOf(name)))
		wantError(t, "[[:"+name+"]]", 0, api.ErrForm)
		wantError(t, "[[:"+name+name+":]]", 0, api.ErrForm)
		wantError(t, "[[:"+name[:len(name)-1]+":]]", 0, api.ErrForm)
	}
}

func TestExamples(t *testing.T) { // the chapter's examples
	wantTokens(t, "a[b-d]{2,}", setToken(0, bytesOf("a")), setToken(1, bytesOf("bcd")), repToken(6, 2, -1))
	wantTokens(t, "[]", setToken(0, api.Set{}))
	wantTokens(t, "[a-]", setToken(0, bytesOf("a-")))
}

// The model makes tokens by regular expressions. It works on a pattern's bytes as runes of the same numbers, so that each byte is one of the expressions' characters.

const (
	modelNumber = `(0|[1-9]|[12][0-9]|3[0-2])`
	modelEscape = `\\x[0-9a-fA-F]{2}|\\[ntrdswDSW]|\\[^0-9A-Za-z]`
	modelName   = `\[:(?:alnum|alpha|blank|cntrl|digit|graph|lower|print|punct|space|upper|xdigit):\]`
)

var (
	modelBounds = regexp.MustCompile(`^\{` + modelNumber + `(,` + modelNumber + `?)?\}`)
	modelSet    = regexp.MustCompile(`(?s)^(?:` + modelEscape + `|[^\[{\\])`)
	modelPart   = regexp.MustCompile(`(?s)^(?:` + modelEscape + `|` + modelName + `|[^\]\\])`)
)

// modelTokens are a pattern's tokens, or where the first one begins that cannot be made, and false.
func modelTokens(p string) ([]api.Token, int, bool) {
	var l []api.Token
	for at := 0; at < len(p); {
		token, n := modelToken(asRunes(p[at:]))
		if n == 0 {
			return nil, at, false
		}
		token.At = at
		l = append(l, token)
		at += n
	}
	return l, 0, true
}

func modelToken(p []rune) (api.Token, int) {
	if token, ok := fixed()[byte(p[0])]; ok {
		return token, 1
	}
	if m := modelBounds.FindStringSubmatch(string(p)); m != nil {
		var lo, hi int
		fmt.Sscan(m[1], &lo)
		switch {
		case m[2] == "":
			hi = lo
		case m[3] == "":
			hi = -1
		default:
			fmt.Sscan(m[3], &hi)
			if hi < lo {
				return api.Token{}, 0
			}
		}
		return repToken(0, lo, hi), len(m[0])
	}
	if p[0] == '[' {
		return modelBracket(p)
	}
	m := []rune(modelSet.FindString(string(p)))
	if len(m) == 0 {
		return api.Token{}, 0
	}
	if p[0] == '.' {
		return setToken(0, allBut("\n")), 1
	}
	return setToken(0, modelMeans(m)), len(m)
}

// modelBracket first cuts all up to the closing bracket into parts, then finds the runs among these.
func modelBracket(p []rune) (api.Token, int) {
	rest := p[1:]
	not := len(rest) > 0 && rest[0] == '^'
	if not {
		rest = rest[1:]
	}
	var parts [][]rune
	for len(rest) > 0 && rest[0] != ']' {
		m := []rune(modelPart.FindString(string(rest)))
		if len(m) == 0 || len(m) == 1 && len(rest) > 1 && rest[0] == '[' && rest[1] == ':' {
			return api.Token{}, 0
		}
		parts, rest = append(parts, m), rest[len(m):]
	}
	if len(rest) == 0 {
		return api.Token{}, 0
	}
	var s api.Set
	for len(parts) > 0 {
		if len(parts) > 2 && len(modelOnly(parts[0])) == 1 && string(parts[1]) == "-" {
			lo, hi := modelOnly(parts[0]), modelOnly(parts[2])
			if len(hi) != 1 || hi[0] < lo[0] {
				return api.Token{}, 0
			}
			s, parts = both(s, run(lo[0], hi[0])), parts[3:]
			continue
		}
		s, parts = both(s, modelMeans(parts[0])), parts[1:]
	}
	if not {
		s = byteset.Not(s)
	}
	return setToken(0, s), len(p) - len(rest) + 1
}

// modelOnly are the bytes of a part that is no name.
func modelOnly(part []rune) []byte {
	if strings.HasPrefix(string(part), "[:") {
		return nil
	}
	return byteset.Bytes(modelMeans(part))
}

// modelMeans is what a part stands for that can be made.
func modelMeans(part []rune) api.Set {
	text := string(part)
	switch {
	case strings.HasPrefix(text, "[:"):
		return modelNamed(text)
	case strings.HasPrefix(text, "\\x"):
		var b byte
		fmt.Sscanf(text, "\\x%x", &b)
		return bytesOf(string([]byte{b}))
	case part[0] == '\\':
		if s, ok := escaped()[byte(part[1])]; ok {
			return s
		}
		return bytesOf(string([]byte{byte(part[1])}))
	}
	return bytesOf(string([]byte{byte(part[0])}))
}

// modelNamed knows just the names that the patterns below have.
func modelNamed(text string) api.Set {
	switch text {
	case "[:digit:]":
		return bytesOf(digits)
	case "[:blank:]":
		return bytesOf("\t ")
	}
	panic("no name that the patterns have: " + text)
}

func asRunes(p string) []rune {
	var l []rune
	for _, b := range []byte(p) {
		l = append(l, rune(b))
	}
	return l
}

// againstModel holds a pattern's tokens against the model's, and asks of them what P3.3 says of each one alone.
func againstModel(t *testing.T, p string) bool {
	l, at, e := Tokens(p)
	want, place, ok := modelTokens(p)
	if !ok {
		if e != api.ErrForm || at != place || len(l) != 0 {
			t.Fatalf("Tokens(%q): %v, %d, %d; not an error at %d", p, l, at, e, place)
		}
		return false
	}
	if e != api.OK || at != 0 || !slices.Equal(l, want) {
		t.Fatalf("Tokens(%q): %v, %d, %d; not %v", p, l, at, e, want)
	}
	lieBehindOneAnother(t, p, l)
	return true
}

// lieBehindOneAnother asks that tokens cover a pattern without a gap, and that each one's bytes alone are it.
func lieBehindOneAnother(t *testing.T, p string, l []api.Token) {
	for i, token := range l {
		end := len(p)
		if i+1 < len(l) {
			end = l[i+1].At
		}
		if i == 0 && token.At != 0 || end <= token.At {
			t.Fatalf("Tokens(%q): %v does not lie right ahead of %d", p, token, end)
		}
		alone, at, e := Tokens(p[token.At:end])
		token.At = 0
		if e != api.OK || at != 0 || len(alone) != 1 || alone[0] != token {
			t.Fatalf("Tokens(%q), of it %q alone: %v, %d, %d; not %v", p, p[token.At:end], alone, at, e, token)
		}
	}
}

// sequences hands out each text of up to n of some pieces, behind one that comes first.
func sequences(first string, pieces []string, n int, f func(p string)) {
	f(first)
	if n == 0 {
		return
	}
	for _, piece := range pieces {
		sequences(first+piece, pieces, n-1, f)
	}
}

func TestAllShortBrackets(t *testing.T) { // P3.1 to P3.3
	made := 0
	sequences("[", []string{"[", "]", "^", "-", "\\", "a", "d", ":", "[:digit:]", "[:digit", "x42"}, 5, func(p string) {
		if againstModel(t, p) {
			made++
		}
	})
	if made < 1000 {
		t.Errorf("only %d were made", made)
	}
}

func TestAllShortBounds(t *testing.T) { // P3.1 to P3.3
	made := 0
	sequences("a{", []string{"{", "}", ",", "0", "1", "3", "-"}, 6, func(p string) {
		if againstModel(t, p) {
			made++
		}
	})
	if made < 50 {
		t.Errorf("only %d were made", made)
	}
}

func TestAllShortBackslashes(t *testing.T) { // P3.1 to P3.3
	sequences("\\", []string{"\\", "x", "4", "f", "G", "n", ".", "\xff"}, 5, func(p string) { againstModel(t, p) })
}

// mixed are long patterns of pieces of all kinds, always the same.
func mixed(count, most int) []string {
	pieces := []string{
		"a", "b", "z", "\n", "\x00", "\xff", "]", "}", "-", ",", ":", ".", "|", "(", ")", "^", "$", "*", "+", "?",
		"{2}", "{0,}", "{3,32}", "\\n", "\\d", "\\W", "\\.", "\\\\", "\\]", "\\x41", "\\xFf",
		"[]", "[^]", "[a-c]", "[^a-c]", "[a-]", "[-a]", "[\\d-z]", "[[:digit:]]", "[^[:blank:]x]", "[\\x00-\\xff]", "[]a]", "[[]",
	}
	broken := []string{"{", "\\", "[", "{2", "\\x4", "[a", "[b-a]", "[[:no:]]", "{33}", "\\q"}
	x := uint32(1)
	next := func(n int) int {
		x = x*1664525 + 1013904223
		return int(x>>8) % n
	}
	var l []string
	for range count {
		var p strings.Builder
		for range 1 + next(most) {
			if next(40) == 0 {
				p.WriteString(broken[next(len(broken))])
			} else {
				p.WriteString(pieces[next(len(pieces))])
			}
		}
		l = append(l, p.String())
	}
	return l
}

func TestMixedPatterns(t *testing.T) { // P3.1 to P3.3
	made, refused := 0, 0
	for _, p := range mixed(20000, 30) {
		if len(p) > api.MaxPattern {
			continue
		}
		if againstModel(t, p) {
			made++
		} else {
			refused++
		}
	}
	if made < 1000 || refused < 1000 {
		t.Errorf("%d were made, %d refused", made, refused)
	}
}

func TestOneBehindTheOther(t *testing.T) { // P3.3
	l := []string{"", "a", "]", "}", "-", "a]", "^", "*", "{2}", "{0,3}", "\\\\", "\\x41", "\\d", "[]", "[^]", "[a-]", "[[]", "[^^]", "[[:digit:]]", "(a|b)*$", "2}", ":]", "-z]", "x41", "^a]"}
	for _, p := range mixed(2000, 8) {
		l = append(l, p)
		if len(l) >= 250 {
			break
		}
	}
	pairs := 0
	for _, p := range l {
		for _, q := range l {
			first, _, e := Tokens(p)
			second, _, f := Tokens(q)
			if e != api.OK || f != api.OK || len(p)+len(q) > api.MaxPattern {
				continue
			}
			pairs++
			want := slices.Clone(first)
			for _, token := range second {
				token.At += len(p)
				want = append(want, token)
			}
			wantTokens(t, p+q, want...)
		}
	}
	if pairs < 10000 {
		t.Errorf("only %d pairs", pairs)
	}
}

func TestAnswersAreNew(t *testing.T) { // P2, rule 4
	const p = "a[b-d]{2,}"
	first, _, _ := Tokens(p)
	keep := slices.Clone(first)
	for i := range first {
		first[i] = api.Token{Kind: 77, At: 77}
	}
	if again, _, _ := Tokens(p); !slices.Equal(again, keep) {
		t.Errorf("Tokens hands out what it handed out: %v", again)
	}
}

func TestAnyBytesEndWithoutAPanic(t *testing.T) { // P1
	x := uint32(7)
	for range 20000 {
		p := make([]byte, x>>20%202)
		for i := range p {
			x = x*1664525 + 1013904223
			p[i] = byte(x >> 16)
			if x>>30 == 0 {
				p[i] = "[]^-\\:{},x"[x>>24%10]
			}
		}
		x = x*1664525 + 1013904223
		Tokens(string(p))
	}
}
