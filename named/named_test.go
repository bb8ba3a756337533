package named

import (
	"slices"
	"strings"
	"testing"

	"tatting/api"
	"tatting/byteset"
)

// The bytes of the names are written out here one by one, so that no wrong bound of a run goes unseen.
const (
	digits = "0123456789"
	uppers = "ABCDEFGHIJKLMNOPQRSTUVWXYZ"
	lowers = "abcdefghijklmnopqrstuvwxyz"
	puncts = "!\"#$%&'()*+,-./" + ":;<=>?@" + "[\\]^_`" + "{|}~"
	spaces = "\t\n\v\f\r "
	cntrls = "\x00\x01\x02\x03\x04\x05\x06\x07\x08\x09\x0a\x0b\x0c\x0d\x0e\x0f" +
		"\x10\x11\x12\x13\x14\x15\x16\x17\x18\x19\x1a\x1b\x1c\x1d\x1e\x1f\x7f"
)

// classes are the names, rising, and their bytes.
func classes() []struct{ name, has string } {
	return []struct{ name, has string }{
		{"alnum", digits + uppers + lowers},
		{"alpha", uppers + lowers},
		{"blank", "\t "},
		{"cntrl", cntrls},
		{"digit", digits},
		{"graph", digits + uppers + lowers + puncts},
		{"lower", lowers},
		{"print", digits + uppers + lowers + puncts + " "},
		{"punct", puncts},
		{"space", spaces},
		{"upper", uppers},
		{"xdigit", digits + "ABCDEF" + "abcdef"},
	}
}

// hasJust says whether a set has just those bytes, asked bit by bit as api.Set is told.
func hasJust(s api.Set, in func(b byte) bool) bool {
	for b := range 256 {
		if (s[b/64]>>(b%64)&1 == 1) != in(byte(b)) {
			return false
		}
	}
	return true
}

// among asks whether a byte is one of a text's.
func among(text string) func(b byte) bool {
	return func(b byte) bool { return strings.IndexByte(text, b) >= 0 }
}

// except asks whether a byte is none of a text's.
func except(text string) func(b byte) bool {
	return func(b byte) bool { return strings.IndexByte(text, b) < 0 }
}

func TestClass(t *testing.T) { // P2.1
	for _, c := range classes() {
		if s, ok := Class(c.name); !ok || !hasJust(s, among(c.has)) {
			t.Errorf("Class(%q): %q, %v", c.name, byteset.Bytes(s), ok)
		}
	}
}

// noNames are texts that are near to names, and others.
func noNames() []string {
	l := []string{
		"", " ", "\x00", "\xff", "word", "ascii", "Alpha", "alphadigit", "alpha digit", "alpha,digit",
		"d", "w", "s", "_", ".", "^alpha", "[:alpha:]", ":alpha:", "alpha\x00", "\x00alpha", "älpha",
		"alphb", "zzz", "aaa", "dot", strings.Repeat("a", api.MaxText), strings.Repeat("alpha", 1000),
	}
	for _, c := range classes() {
		n := c.name
		l = append(l, strings.ToUpper(n), strings.ToUpper(n[:1])+n[1:], n[:len(n)-1], n[2:], n+n[:1], n+" ", " "+n, n+"\n", n+n)
	}
	return l
}

func TestClassOfNoName(t *testing.T) { // P2.1, rule 2
	for _, n := range noNames() {
		if s, ok := Class(n); ok || s != (api.Set{}) {
			t.Errorf("Class(%.20q): %q, %v", n, byteset.Bytes(s), ok)
		}
	}
}

func TestNames(t *testing.T) { // P2.1
	var want []string
	for _, c := range classes() {
		want = append(want, c.name)
	}
	got := Names()
	if !slices.Equal(got, want) {
		t.Errorf("Names: %q", got)
	}
	for i := range got {
		if i > 0 && got[i-1] >= got[i] {
			t.Errorf("Names: %q stands ahead of %q", got[i-1], got[i])
		}
	}
}

func TestEscapeOfLetters(t *testing.T) { // P2.2
	word := digits + uppers + lowers + "_"
	for _, c := range []struct {
		c  byte
		in func(b byte) bool
	}{
		{'n', among("\x0a")},
		{'t', among("\x09")},
		{'r', among("\x0d")},
		{'d', among(digits)},
		{'s', among(spaces)},
		{'w', among(word)},
		{'D', except(digits)},
		{'S', except(spaces)},
		{'W', except(word)},
	} {
		if s, ok := Escape(c.c); !ok || !hasJust(s, c.in) {
			t.Errorf("Escape(%q): %q, %v", c.c, byteset.Bytes(s), ok)
		}
	}
	if s, _ := Escape('w'); byteset.Count(s) != 63 {
		t.Errorf("Escape of w has %d bytes", byteset.Count(s))
	}
}

func TestEscapeOfOtherLettersAndDigits(t *testing.T) { // P2.2, rule 2
	n := 0
	for _, c := range []byte(digits + uppers + lowers) {
		if strings.IndexByte("ntrdswDSW", c) >= 0 {
			continue
		}
		n++
		if s, ok := Escape(c); ok || s != (api.Set{}) {
			t.Errorf("Escape(%q): %q, %v", c, byteset.Bytes(s), ok)
		}
	}
	if n != 62-9 {
		t.Errorf("%d letters and digits stand for nothing", n)
	}
}

func TestEscapeOfItself(t *testing.T) { // P2.2
	n := 0
	for b := range 256 {
		c := byte(b)
		if strings.IndexByte(digits+uppers+lowers, c) >= 0 {
			continue
		}
		n++
		if s, ok := Escape(c); !ok || !hasJust(s, func(b byte) bool { return b == c }) {
			t.Errorf("Escape(%d): %q, %v", c, byteset.Bytes(s), ok)
		}
	}
	if n != 256-62 {
		t.Errorf("%d bytes stand for themselves", n)
	}
}

func TestDot(t *testing.T) { // P2.2
	if !hasJust(Dot(), func(b byte) bool { return b != 10 }) {
		t.Errorf("Dot: %q", byteset.Bytes(Dot()))
	}
}

// sets are each byte alone, letters of one case, of both, of none, and many mixed ones, always the same.
func sets() []api.Set {
	l := []api.Set{
		{},
		{1<<64 - 1, 1<<64 - 1, 1<<64 - 1, 1<<64 - 1},
		{0, 1<<64 - 1, 0, 0},
		{1<<64 - 1, 0, 1<<64 - 1, 1<<64 - 1},
	}
	for _, text := range []string{
		uppers, lowers, uppers + lowers, digits, puncts, cntrls, spaces,
		"aA", "aB", "aZ", "zA", "xyz{", "@ABC", "XYZ[", "`abc", "a1", "@[`{", "aBcDeFgHiJ", "\xc1\xda\xe1\xfa", "ab\xc1\xe2",
	} {
		l = append(l, byteset.Of([]byte(text)...))
	}
	for b := range 256 {
		one := byteset.Of(byte(b))
		l = append(l, one, byteset.Not(one))
	}
	x := uint64(1)
	next := func() uint64 {
		x = x*6364136223846793005 + 1442695040888963407
		return x ^ x>>29
	}
	for range 100 {
		l = append(l,
			api.Set{next(), next(), next(), next()},
			api.Set{next() & next() & next(), next() & next() & next(), 0, next()})
	}
	return l
}

func TestFold(t *testing.T) { // P2.3
	for _, s := range sets() {
		in := func(b byte) bool {
			if i := strings.IndexByte(uppers, b); i >= 0 {
				return byteset.Has(s, b) || byteset.Has(s, lowers[i])
			}
			if i := strings.IndexByte(lowers, b); i >= 0 {
				return byteset.Has(s, b) || byteset.Has(s, uppers[i])
			}
			return byteset.Has(s, b)
		}
		if got := Fold(s); !hasJust(got, in) {
			t.Errorf("Fold(%q): %q", byteset.Bytes(s), byteset.Bytes(got))
		}
	}
}

func TestFoldByHand(t *testing.T) { // P2.3
	for _, c := range []struct{ text, want string }{
		{"", ""},
		{"a1", "Aa1"},
		{"Z", "Zz"},
		{"Mm", "Mm"},
		{"aB", "aAbB"},
		{"@[`{", "@[`{"},
		{"\n_", "\n_"},
		{"\xc1", "\xc1"},
		{uppers, uppers + lowers},
		{lowers, uppers + lowers},
	} {
		if got := Fold(byteset.Of([]byte(c.text)...)); !hasJust(got, among(c.want)) {
			t.Errorf("Fold(%q): %q", c.text, byteset.Bytes(got))
		}
	}
}

func TestFoldOfFolded(t *testing.T) { // P2.4
	for _, s := range sets() {
		if once := Fold(s); Fold(once) != once {
			t.Errorf("Fold(Fold(%q)): %q", byteset.Bytes(s), byteset.Bytes(Fold(once)))
		}
	}
}

func TestEachNameIsFound(t *testing.T) { // P2.4
	if len(Names()) != 12 {
		t.Errorf("Names: %q", Names())
	}
	for _, n := range Names() {
		if s, ok := Class(n); !ok || s == (api.Set{}) {
			t.Errorf("Class(%q): %q, %v", n, byteset.Bytes(s), ok)
		}
	}
}

func TestNamesAreNew(t *testing.T) { // P2, rule 4
	first := Names()
	keep := slices.Clone(first)
	for i := range first {
		first[i] = "gone"
	}
	if got := Names(); !slices.Equal(got, keep) {
		t.Errorf("Names hands out what it handed out: %q", got)
	}
	if _, ok := Class("gone"); ok {
		t.Errorf("what was handed out has become a name")
	}
	if s, ok := Class("alnum"); !ok || byteset.Count(s) != 62 {
		t.Errorf("a name is gone with what was handed out")
	}
}
