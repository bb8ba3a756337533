package equal

import (
	"slices"
	"testing"

	"tatting/api"
	"tatting/dfa"
	"tatting/mini"
	"tatting/nfa"
	"tatting/parse"
	"tatting/subset"
)

// some are automata that are right, at the edges of what may be and between them.
func some() []api.Dfa {
	return []api.Dfa{
		wide(1, 1), wide(1, 259), wide(2, 1), wide(3, 5), wide(7, 258), wide(30, 259), wide(4095, 2), wide(4096, 1),
		table(0, "0"), table(0, "0 !"), table(1, "0; 1 !"), table(1, "1 2 0; 0 1 1 !; 2 2 2"),
	}
}

// wantApart asks for what tells two automata apart, whichever of them is the first one.
func wantApart(t *testing.T, what string, a, b api.Dfa, want []int, is bool) {
	t.Helper()
	for _, two := range [][2]api.Dfa{{a, b}, {b, a}} {
		if word, apart, e := Apart(two[0], two[1]); !slices.Equal(word, want) || apart != is || e != api.OK {
			t.Errorf("%s: Apart of %s and %s: %v, %v, %d, not %v, %v", what, brief(two[0]), brief(two[1]), word, apart, e, want, is)
		}
	}
}

// wantWord asks for the symbols that tell two automata apart.
func wantWord(t *testing.T, what string, a, b api.Dfa, want ...int) {
	t.Helper()
	wantApart(t, what, a, b, want, true)
}

// wantAlike asks that nothing tells two automata apart.
func wantAlike(t *testing.T, what string, a, b api.Dfa) {
	t.Helper()
	wantApart(t, what, a, b, nil, false)
}

// wantEmpty asks whether an automaton accepts nothing; it does just if nothing tells it from one of which no state accepts.
func wantEmpty(t *testing.T, what string, d api.Dfa, is bool) {
	t.Helper()
	if empty, e := Empty(d); empty != is || e != api.OK {
		t.Errorf("%s: Empty of %s: %v, %d", what, brief(d), empty, e)
	}
	if _, apart, e := Apart(d, table(0, "0")); apart == is || e != api.OK {
		t.Errorf("%s: %s is told from nothing: %v, %d", what, brief(d), apart, e)
	}
}

// wantModel asks for what the models tell, and for what P14.3 says.
func wantModel(t *testing.T, what string, a, b api.Dfa) {
	t.Helper()
	word, is := wordOf(a, b)
	wantApart(t, what, a, b, word, is)
	if is && leads(a, word) == leads(b, word) {
		t.Errorf("%s: %s and %s are not told apart by %v", what, brief(a), brief(b), word)
	}
	wantLeast(t, what, a, b, word, is)
	wantEmpty(t, what, a, nothing(a))
	wantEmpty(t, what, b, nothing(b))
}

// wantLeast asks that the least automata are told apart as those whose least ones they are, and just if they part.
func wantLeast(t *testing.T, what string, a, b api.Dfa, word []int, is bool) {
	t.Helper()
	x, e := mini.Of(a)
	y, f := mini.Of(b)
	if dfa.Same(x, y) == is || e != api.OK || f != api.OK {
		t.Errorf("%s: %s and %s are told apart: %v; the least ones are %s and %s", what, brief(a), brief(b), is, brief(x), brief(y))
	}
	wantApart(t, what, x, y, word, is)
	wantApart(t, what, x, b, word, is)
	wantApart(t, what, a, y, word, is)
	wantAlike(t, what, a, x)
}

// wantFirst asks, over all words of some symbols, rising, up to a length, that the first one that one of both accepts alone is told, unless there is none.
func wantFirst(t *testing.T, what string, a, b api.Dfa, symbols []int, n int) bool {
	t.Helper()
	for _, word := range wordsOf(symbols, n) {
		if leads(a, word) != leads(b, word) {
			wantWord(t, what, a, b, word...)
			return true
		}
	}
	if word, is, e := Apart(a, b); is && len(word) <= n || e != api.OK {
		t.Errorf("%s: %s and %s are told apart by %v, %d", what, brief(a), brief(b), word, e)
	}
	return false
}

// wantNotRight asks that nothing is told of what is not right, whatever it is held against.
func wantNotRight(t *testing.T, what string, d api.Dfa) {
	t.Helper()
	for _, other := range []api.Dfa{table(0, "0"), table(1, "1 2 0; 0 1 1 !; 2 2 2"), d, {}, wide(1, 260)} {
		for _, two := range [][2]api.Dfa{{d, other}, {other, d}} {
			if word, is, e := Apart(two[0], two[1]); len(word) != 0 || is || e != api.ErrForm {
				t.Errorf("%s: Apart of %s and %s: %v, %v, %d", what, brief(two[0]), brief(two[1]), word, is, e)
			}
		}
	}
	if empty, e := Empty(d); empty || e != api.ErrForm {
		t.Errorf("%s: Empty of %s: %v, %d", what, brief(d), empty, e)
	}
}

// wantOne asks for what is told of an automaton that is right, or of one that is not.
func wantOne(t *testing.T, what string, d api.Dfa, right bool) {
	t.Helper()
	if !right {
		wantNotRight(t, what, d)
		return
	}
	wantAlike(t, what, d, d)
	other := copied(d)
	for s := range other.Accept {
		other.Accept[s] = !other.Accept[s]
	}
	wantWord(t, what, d, other)
	if _, e := Empty(d); e != api.OK {
		t.Errorf("%s: Empty of %s: %d", what, brief(d), e)
	}
}

// decided is the automaton of a pattern.
func decided(t *testing.T, p string) api.Dfa {
	t.Helper()
	l, _, e := parse.Pattern(p)
	n, f := nfa.Build(l)
	d, g := subset.Build(n, api.MaxStates)
	if e != api.OK || f != api.OK || g != api.OK || !mayBe(d) {
		t.Fatalf("%s: %d, %d, %d", p, e, f, g)
	}
	return d
}

func TestExamples(t *testing.T) { // P14.1, P14.2
	wantWord(t, "a and a|b", decided(t, "a"), decided(t, "a|b"), 'b')
	wantAlike(t, "a and a", decided(t, "a"), decided(t, "a"))
	wantWord(t, "a* and a+", decided(t, "a*"), decided(t, "a+"))
	wantEmpty(t, "a[]", decided(t, "a[]"), true)
	wantEmpty(t, "()", decided(t, "()"), false)
}

// handmade are pairs of automata, and what tells them apart: -, if nothing does.
func handmade() []struct {
	what   string
	first  int
	a      string
	second int
	b      string
	word   string
} {
	return []struct {
		what   string
		first  int
		a      string
		second int
		b      string
		word   string
	}{
		{"none accepts", 0, "0", 0, "0", "-"},
		{"both accept all", 0, "0 !", 0, "0 !", "-"},
		{"one accepts all", 0, "0 !", 0, "0", ""},
		{"one accepts all, of other classes", 0, "0 0 0 !", 0, "0 0", ""},
		{"none accepts, of other classes", 0, "0 0 0", 1, "0 0; 1 0", "-"},
		{"another start", 0, "0; 1 !", 1, "0; 1 !", ""},
		{"another start that is alike", 2, "1 !; 0; 3 !; 2", 0, "1 !; 0; 3 !; 2", "-"},
		{"another start in a ring", 0, "1 !; 2; 0", 2, "1 !; 2; 0", ""},
		{"another start in a ring, which is later told apart", 1, "1 !; 2; 0", 2, "1 !; 2; 0", "0"},
		{"one symbol and nothing", 0, "1; 2 !; 2", 0, "0", "0"},
		{"one symbol and two", 0, "1; 2 !; 2", 0, "1; 2; 3 !; 3", "0"},
		{"three and two, or more", 0, "1; 2; 3; 3 !", 0, "1; 2; 2 !", "0 0"},
		{"three and four, or more", 0, "1; 2; 3; 3 !", 4, "0 !; 0; 1; 2; 3", "0 0 0"},
		{"none, and none or three, or more", 0, "1 !; 1", 0, "1 !; 2; 3; 3 !", "0 0 0"},
		{"all but none, all", 0, "1; 1 !", 0, "0 !", ""},
		{"rings of two and three", 0, "1 !; 0", 0, "1 !; 2; 0", "0 0"},
		{"rings of two and three, from elsewhere", 0, "1; 0 !", 0, "1; 2; 0 !", "0"},
		{"rings of two and three that part later", 0, "1; 0 !", 0, "1; 2 !; 0", "0 0 0"},
		{"rings of three and four that part later", 0, "1; 2; 0 !", 0, "1; 2; 3 !; 0", "0 0 0 0 0"},
		{"rings of four and six, of which every second state accepts", 0, "1 !; 2; 3 !; 0", 0, "1 !; 2; 3 !; 4; 5 !; 0", "-"},
		{"rings of four and six, of which the last one does not", 0, "1 !; 2; 3 !; 0", 0, "1 !; 2; 3 !; 4; 5; 0", "0 0 0 0"},
		{"some odd symbol, some even one", 0, "0 1; 1 1 !", 0, "1 0; 1 1 !", "0"},
		{"some odd symbol, nothing", 0, "0 1; 1 1 !", 0, "0", "1"},
		{"some odd symbol, two of them", 0, "0 1; 1 1 !", 0, "0 1; 1 2; 2 2 !", "1"},
		{"some odd symbol, and an even one behind it", 0, "0 1; 1 1 !", 0, "0 1; 2 1 !; 2 2", "1 0"},
		{"the fewest, not the least", 0, "1 2; 2 1; 2 2 !", 0, "0", "1"},
		{"the fewest, not the least, behind one", 0, "3 3; 2 1; 1 1 !; 4 1; 1 1", 0, "0", "0 1 0"},
		{"the least first one, not the least second one", 0, "1 2; 4 3; 3 4; 4 4 !; 4 4", 0, "0", "0 1"},
		{"the least first one is accepted by both", 0, "1 2; 4 3; 3 4; 4 4 !; 4 4", 0, "1 2; 2 3; 2 2; 2 2 !", "1 0"},
		{"the least second one", 0, "3 1 1; 3 2 2; 3 3 3 !; 3 3 3", 0, "0", "1 1"},
		{"the least third one", 0, "1 1 1; 2 2 2; 4 3 3; 4 4 4 !; 4 4 4", 0, "0", "0 0 1"},
		{"the second one of another first one is less", 0, "1 2 2; 4 4 3; 3 4 4; 4 4 4 !; 4 4 4", 0, "0", "0 2"},
		{"the last one is odd, one more than a third one", 0, "0 1; 0 1 !", 0, "0 1 0; 0 1 0 !", "3"},
		{"classes of four and of six", 0, "0 0 0 1; 0 0 0 1 !", 0, "0 0 0 1 0 0; 0 0 0 1 0 0 !", "7"},
		{"classes of two and of four that are alike", 0, "0 1; 0 1 !", 0, "0 1 0 1; 0 1 0 1 !", "-"},
		{"classes of two and of four, another way by one of these", 0, "0 1; 0 1 !", 0, "0 1 0 1; 0 1 0 0 !", "1 3"},
		{"classes of three and of four, behind one another", 0, "1 1 1; 0 1 0 !", 0, "1 1 1 1; 0 1 0 1 !", "0 3"},
		{"not reached", 0, "0 0 !; 1 0; 2 2 !", 0, "0 !", "-"},
		{"not alive, or at once", 0, "1 2; 1 1; 2 2 !", 0, "3 1; 1 1 !; 2 2; 4 3; 3 4", "-"},
		{"not alive but by one", 0, "1 2; 1 1; 2 2 !", 0, "3 1; 1 1 !; 2 2; 4 3; 3 1", "0 0 1"},
		{"three that are alike, one that is not", 0, "1; 2; 0 !", 0, "1; 2; 3 !; 4; 5; 6 !; 7; 8; 9; 0", "0 0 0 0 0 0 0 0"},
	}
}

func TestByHand(t *testing.T) { // P14.1, P14.3
	for _, x := range handmade() {
		a, b := table(x.first, x.a), table(x.second, x.b)
		if x.word == "-" {
			wantAlike(t, x.what, a, b)
		} else {
			wantWord(t, x.what, a, b, numbers(x.word)...)
		}
		for start := range a.Accept {
			a.Start = start
			for start := range b.Accept {
				b.Start = start
				wantModel(t, x.what, a, b)
			}
		}
		for from := range a.Accept {
			for to := range a.Accept {
				c := copied(a)
				a.Start, c.Start = from, to
				wantModel(t, x.what+", and itself from elsewhere", a, c)
			}
		}
	}
}

// word reads a text as symbols: ^ and $ are the ends, & is both at once.
func word(text string) []int {
	var l []int
	for _, b := range []byte(text) {
		l = append(l, map[byte]int{'^': 256, '$': 257, '&': 258}[b])
		if l[len(l)-1] == 0 {
			l[len(l)-1] = int(b)
		}
	}
	return l
}

// words reads texts with commas between them.
func words(text string) [][]int {
	var l [][]int
	from := 0
	for i := range len(text) + 1 {
		if i == len(text) || text[i] == ',' {
			l = append(l, word(text[from:i]))
			from = i + 1
		}
	}
	return l
}

func TestWordsByHand(t *testing.T) { // P14.1, P14.3
	for _, x := range []struct{ a, b, want string }{
		{"ab", "ab,ab", "-"}, {"ab,c", "c,ab", "-"}, {"", ",", "-"}, {"", "a", ""}, {"a", "a,", ""},
		{"b", "a", "a"}, {"a", "b", "a"}, {"b,a", "c,a", "b"}, {"c,b", "b,a", "a"}, {"cb,a", "a", "cb"},
		{"zz", "aaa", "zz"}, {"aaa,b", "b", "aaa"}, {"z,aa", "aa", "z"}, {"b,ab", "b,aab", "ab"},
		{"ba,ab", "bb", "ab"}, {"ba,ab", "ab", "ba"}, {"ba,bb", "zz", "ba"}, {"bb,ba,ca", "ca", "ba"}, {"ca,bd", "dd,bc", "bc"},
		{"acz,bcd", "bca,acz", "bca"}, {"acz,acy,acx", "acx,acz", "acy"}, {"abc,abd", "abd,acc", "abc"},
		// Classes are numbered as the symbols stand here, not by their bytes.
		{"zyxwvu", "uvwxyz", "uvwxyz"}, {"z,y,x", "z,x", "y"}, {"z,y,x", "y", "x"}, {"za,ya,xa", "ya", "xa"}, {"zc,zb,za", "zb", "za"}, {"zc,zb,za,yd", "zb", "yd"},
		// Ends are symbols as all others are, and greater than bytes.
		{"^", "$", "^"}, {"$", "^,$", "^"}, {"$", "&", "$"}, {"&", "a", "a"}, {"&,a", "a", "&"}, {"&,^,$", "$,^", "&"}, {"&,^,$", "&", "^"}, {"&,^,$", "^,&", "$"},
		{"\xff", "^", "\xff"}, {"\x00", "^", "\x00"}, {"^,\xff", "\xff", "^"}, {"^a$", "^a,^a$", "^a"}, {"^a$", "$a^", "^a$"}, {"^a$,^a", "^a", "^a$"}, {"a^,a$", "a$", "a^"}, {"a^,aa", "a^", "aa"}, {"$^,^$", "&&", "^$"},
		{"$^", "&&,^a", "^a"}, {"^^^", "^^,^^^^", "^^"}, {"&", "^^", "&"},
	} {
		a, b := trie(words(x.a)...), trie(words(x.b)...)
		if x.want == "-" {
			wantAlike(t, x.a+" and "+x.b, a, b)
		} else {
			wantWord(t, x.a+" and "+x.b, a, b, word(x.want)...)
		}
		wantModel(t, x.a+" and "+x.b, a, b)
		symbols := append(slices.Concat(words(x.a+","+x.b)...), 0, 'a', 255, 256, 257, 258)
		slices.Sort(symbols)
		wantFirst(t, x.a+" and "+x.b, a, b, slices.Compact(symbols), 3)
	}
}

// TestEverySymbol has automata which one symbol alone tells apart.
func TestEverySymbol(t *testing.T) { // P14.1
	for sym := range 259 {
		one := trie([]int{sym})
		wantWord(t, "one symbol, nothing", one, trie(), sym)
		wantWord(t, "one symbol, none", one, trie(nil))
		wantWord(t, "one symbol, two", one, trie([]int{sym}, []int{sym, 258 - sym}), sym, 258-sym)
		for _, other := range []int{0, 97, 255, 256, 257, 258, (sym + 1) % 259} {
			if other != sym {
				wantWord(t, "one symbol, another one", one, trie([]int{other}), min(sym, other))
				wantWord(t, "one symbol, this and another one", one, trie([]int{other}, []int{sym}), other)
			}
		}
		// All symbols but this one, in one class or each in a class of its own.
		all := classed(table(0, "1 2; 2 2 !; 2 2"), slices.Repeat([]int{0}, 259))
		but := copied(all)
		but.Class[sym] = 1
		wantWord(t, "all, all but one", all, but, sym)
		alone := shaped(0, 3, 259, func(s, c int) int {
			if s == 0 && c != sym {
				return 1
			}
			return 2
		}, func(s int) bool { return s == 1 })
		wantWord(t, "all, all but one in classes of their own", all, alone, sym)
		wantAlike(t, "all but one", but, alone)
		alone.Class, alone.Next[sym], alone.Next[258-sym] = slices.Clone(alone.Class), 1, 2
		slices.Reverse(alone.Class)
		wantAlike(t, "all but one, turned", but, alone)
	}
}

// TestClassesCut has classes of two automata that cut across one another.
func TestClassesCut(t *testing.T) { // P14.1
	// Each accepts what ends with a symbol of its last class; of as many classes as may be it is one symbol.
	last := func(width, shift int) api.Dfa {
		d := shaped(0, 2, width, func(s, c int) int { return c / (width - 1) }, func(s int) bool { return s == 1 })
		for sym := range d.Class {
			d.Class[sym] = (sym + shift) % width
		}
		return d
	}
	for _, x := range [][5]int{{2, 0, 3, 0, 1}, {2, 0, 3, 2, 1}, {2, 1, 3, 2, 2}, {16, 0, 17, 1, 31}, {16, 0, 16, 1, 14}, {10, 0, 20, 0, 9}, {10, 0, 20, 10, 19}, {259, 0, 259, 1, 257}, {259, 0, 258, 1, 258}, {258, 0, 259, 1, 258}, {259, 2, 257, 0, -1}, {200, 0, 100, 100, 99}} {
		a, b := last(x[0], x[1]), last(x[2], x[3])
		want, is := wordOf(a, b)
		for sym := range 259 {
			one, other := (sym+x[1])%x[0] == x[0]-1, (sym+x[3])%x[2] == x[2]-1
			if one != other {
				want, is = []int{sym}, true
				break
			}
		}
		wantApart(t, "classes that cut", a, b, want, is)
		wantModel(t, "classes that cut", a, b)
	}
	// A symbol is in each class of both, but two of the first automaton's classes lead to one state: what parts them, parts nothing.
	for p := 2; p < 17; p++ {
		for q := 2; q < 17; q++ {
			a, b := last(p, 0), last(q, 0)
			first := 0
			for first < 259 && (first%p == p-1) == (first%q == q-1) {
				first++
			}
			if first == 259 {
				wantAlike(t, "turning classes", a, b)
			} else {
				wantWord(t, "turning classes", a, b, first)
			}
		}
	}
}

// TestSetsOfWords has automata that accept some words alone, so that what tells them apart is the first one that is among one of both sets.
func TestSetsOfWords(t *testing.T) { // P14.1, P14.3
	next := generator()
	counts := map[int]int{}
	for range 3000 {
		symbols := append([]int{next(256), next(256), 256 + next(3)}, places(next, 259)[:next(4)]...)
		l := someWords(next, symbols, 4)
		m := someWords(next, symbols, 4)
		if next(3) > 0 {
			m = slices.Concat(m, l)
			l = append(l, m[:next(2)]...)
		}
		a, b := trie(l...), trie(m...)
		want, is := firstIn(l, m)
		wantApart(t, "sets of words", a, b, want, is)
		wantApart(t, "sets of words, disguised", disguised(next, a, 2), disguised(next, b, 3), want, is)
		if is {
			counts[len(want)]++
		} else {
			counts[-1]++
		}
	}
	for n := -1; n <= 3; n++ {
		if counts[n] < 100 {
			t.Errorf("%v", counts)
		}
	}
}

// TestClassesWithoutSymbols has classes that no symbol has: one comes nowhere by them, whatever Next says.
func TestClassesWithoutSymbols(t *testing.T) { // P14.1, P14.2
	for _, x := range []struct {
		rows  string
		class int // that of all symbols
		one   string
		empty bool
	}{
		{"0 1; 1 0 !", 0, "0", true}, {"0 1; 1 0 !", 1, "1; 0 !", false}, {"0 2; 1 1; 2 0 !", 0, "0", true}, {"0 2; 1 1; 2 0 !", 1, "1; 0 !", false},
		{"1 0 2; 1 2 2; 2 2 0 !", 0, "0", true}, {"1 0 2; 1 2 2; 2 2 0 !", 1, "0", true}, {"1 0 2; 1 2 2; 2 2 0 !", 2, "1; 0 !", false}, {"0 0 0 !; 1 1 0 !; 1 2 0 !; 2 3 1 !", 1, "0 !", false},
		{"1 2; 1 2 !; 2 2", 0, "1; 1 !", false}, {"1 2; 1 2 !; 2 2", 1, "0", true},
	} {
		d := classed(table(0, x.rows), slices.Repeat([]int{x.class}, 259))
		wantAlike(t, "one class has symbols", d, table(0, x.one))
		wantEmpty(t, "one class has symbols", d, x.empty)
		// One symbol of another class is enough to come anywhere by it.
		for _, sym := range []int{0, 1, 97, 255, 256, 257, 258} {
			for class := range d.Width {
				e := copied(d)
				e.Class[sym] = class
				wantModel(t, "one symbol of another class", d, e)
			}
		}
	}
	// Where classes that no symbol has go anywhere, nothing is told apart by them, how many ever there are.
	next := generator()
	for _, width := range []int{2, 3, 100, 259} {
		for range 20 {
			a := mixed(next, 5, 259, 3)
			for sym := range a.Class {
				a.Class[sym] = sym % width / 2 * 2
			}
			b := copied(a)
			for at := range b.Next {
				if c := at % 259; c >= width || c%2 == 1 {
					b.Next[at] = next(5)
				}
			}
			wantAlike(t, "classes that no symbol has", a, b)
			b.Class[next(259)] = 258
			wantModel(t, "one symbol has it", a, b)
		}
	}
}

// TestLongWords has chains and rings, up to as many states as may be, which long words alone tell apart.
func TestLongWords(t *testing.T) { // P14.1 to P14.3
	is := func(at int) func(int) bool { return func(s int) bool { return s == at } }
	ring := func(start, states, width int, accepts func(int) bool) api.Dfa {
		return shaped(start, states, width, func(s, c int) int { return (s + 1) % states }, accepts)
	}
	chain := func(states, width int, accepts func(int) bool) api.Dfa {
		return shaped(0, states, width, func(s, c int) int { return min(s+1, states-1) }, accepts)
	}
	noughts := func(n int) []int { return make([]int, n) }
	for _, width := range []int{1, 3, 259} {
		most := chain(4096, width, is(4095))
		wantWord(t, "a chain, nothing", most, table(0, "0"), noughts(4095)...)
		wantWord(t, "chains", most, chain(4095, 2, is(4094)), noughts(4094)...)
		wantWord(t, "chains of which the midst accepts, too", most, chain(4096, 1, func(s int) bool { return s == 4095 || s == 1000 }), noughts(1000)...)
		wantAlike(t, "a chain, itself", most, chain(4096, 259, is(4095)))
		wantEmpty(t, "a chain", most, false)
		wantEmpty(t, "a chain to nothing", chain(4096, width, is(-1)), true)
		wantAlike(t, "chains to nothing", chain(4096, width, is(-1)), chain(4095, 2, is(-1)))
		wantWord(t, "rings", ring(0, 4096, width, is(0)), ring(0, 4095, 2, is(0)), noughts(4095)...)
		wantWord(t, "rings of which one state does not accept", ring(1, 4096, width, func(s int) bool { return s > 0 }), ring(1, 4095, 2, func(s int) bool { return s > 0 }), noughts(4094)...)
		// Two rings without a common divisor part behind two symbols fewer than both have states, and no later.
		for _, x := range [][2]int{{2, 3}, {3, 4}, {63, 64}, {1000, 1001}, {4095, 4096}} {
			wantWord(t, "rings that part late", ring(0, x[0], width, is(x[0]-1)), ring(0, x[1], 2, is(x[0]-1)), noughts(x[0]+x[1]-2)...)
		}
		late := shaped(0, 4096, width, func(s, c int) int { return max((s+1)%4096, 1) }, is(4095))
		wantWord(t, "as late as may be", late, ring(0, 4096, 2, is(4095)), noughts(8190)...)
		for _, x := range [][2]int{{4096, 4095}, {4096, 4096}, {4093, 4096}, {1, 4096}} {
			wantAlike(t, "rings of which all accept", ring(0, x[0], width, func(int) bool { return true }), ring(5%x[1], x[1], 2, func(int) bool { return true }))
		}
		every := func(n int) func(int) bool { return func(s int) bool { return s%n == 0 } }
		for _, x := range [][3]int{{4096, 2048, 2}, {4096, 4094, 2}, {4095, 4080, 15}, {4096, 64, 64}, {3, 4095, 3}} {
			wantAlike(t, "rings of which every so many accept", ring(0, x[0], width, every(x[2])), ring(0, x[1], 3, every(x[2])))
		}
		twice := ring(0, 4096, width, func(s int) bool { return s%2 == 0 && s != 3000 })
		wantWord(t, "rings that are alike but once", twice, ring(0, 4094, 2, every(2)), noughts(3000)...)
		twice.Start = 3002
		wantWord(t, "rings that are alike but once, behind the start", twice, ring(0, 4094, 2, every(2)), noughts(4094)...)
	}
}

// TestOneLongWord has automata that accept a long word of many symbols alone.
func TestOneLongWord(t *testing.T) { // P14.1, P14.2
	next := generator()
	for _, x := range [][2]int{{10, 3}, {500, 20}, {4000, 259}, {4092, 2}} {
		var long []int
		for range x[0] {
			long = append(long, next(x[1]-1)+259-x[1])
		}
		one := trie(long)
		wantWord(t, "one long word", one, trie(), long...)
		wantEmpty(t, "one long word", one, false)
		for _, at := range []int{0, x[0] / 2, x[0] - 1} {
			other := slices.Clone(long)
			other[at]++
			wantWord(t, "two long words", one, trie(other), long...)
			other[at] -= 2
			if other[at] >= 0 {
				wantWord(t, "two long words", one, trie(other), other...)
			}
			wantWord(t, "another one is longer", one, trie(append(slices.Clone(long[:at]), 0, 0)), slices.MinFunc([][]int{long, append(slices.Clone(long[:at]), 0, 0)}, ahead)...)
		}
	}
}

func TestMixed(t *testing.T) { // P14.1 to P14.3
	next := generator()
	counts := map[string]int{}
	for k := range 3000 {
		a := mixed(next, 1+next(9), []int{1, 2, 3, 40}[k%4], 1+next(9))
		b := mixed(next, 1+next(9), []int{1, 2, 5, 30}[k/4%4], 1+next(9))
		// Of some automata most symbols are in one class, so that there are classes without any.
		for _, class := range [][]int{a.Class, b.Class} {
			if next(3) == 0 {
				copy(class, slices.Repeat(class[:1], 250+next(10)))
			}
		}
		if k%3 > 0 {
			b = disguised(next, withMore(next, a, next(3)), 3)
		}
		switch next(6) {
		case 0:
			b.Start = next(len(b.Accept))
		case 1:
			b.Class[next(259)] = next(b.Width)
		case 2:
			b.Next[next(len(b.Next))] = next(len(b.Accept))
		case 3:
			s := next(len(b.Accept))
			b.Accept[s] = !b.Accept[s]
		}
		wantModel(t, "mixed", a, b)
		word, is := wordOf(a, b)
		counts[map[bool]string{false: "alike", true: "apart"}[is]]++
		counts[[]string{"none", "one", "two", "more", "more", "more", "more", "more", "more"}[min(len(word), 8)]]++
		if slices.ContainsFunc(word, func(sym int) bool { return sym > 255 }) {
			counts["an end"]++
		}
		if slices.ContainsFunc(word, func(sym int) bool {
			return slices.Index(a.Class, a.Class[sym]) < sym && slices.Index(b.Class, b.Class[sym]) < sym
		}) {
			counts["neither's first"]++
		}
	}
	for _, what := range []string{"alike", "apart", "none", "one", "two", "more", "an end", "neither's first"} {
		if counts[what] < 25 {
			t.Errorf("only %d of: %s", counts[what], what)
		}
	}
}

// TestGreater has automata of hundreds of states, of which many are alike.
func TestGreater(t *testing.T) { // P14.1, P14.3
	next := generator()
	counts := map[bool]int{}
	for k := range 60 {
		d := mixed(next, []int{3, 30, 100}[k%3], 1+k%5, 4)
		for s := range d.Accept {
			// The greater its number, the longer is the way to a state.
			for c := range d.Width {
				if next(4) > 0 {
					d.Next[s*d.Width+c] = min(s+c, len(d.Accept)-1)
				}
			}
			d.Accept[s] = s == len(d.Accept)-1
		}
		d.Start = 0
		a, b := disguised(next, d, 5), disguised(next, d, 4)
		for range k % 4 {
			b.Next[next(len(b.Next))] = next(len(b.Accept))
		}
		want, is := plainly(a, b)
		wantApart(t, "greater", a, b, want, is)
		counts[is]++
	}
	if counts[true] < 15 || counts[false] < 15 {
		t.Errorf("%v", counts)
	}
}

func TestTheGreatest(t *testing.T) { // P14.1 to P14.3
	next := generator()
	// Anywhere by each of as many symbols as there are.
	d := mixed(next, 4096, 259, 5)
	d.Class = places(next, 259)
	wantAlike(t, "the greatest one, disguised", d, disguised(next, d, 1))
	wantAlike(t, "the greatest one, itself", d, d)
	all := shaped(5, 4096, 259, func(s, c int) int { return (s*7 + c) % 4096 }, func(int) bool { return true })
	other := shaped(0, 4095, 258, func(s, c int) int { return (s*5 + c) % 4095 }, func(int) bool { return true })
	wantAlike(t, "all accept", all, other)
	other.Accept[4094] = false
	want, is := plainly(other, table(0, "0 !"))
	wantApart(t, "all accept but one", all, other, want, is)
	for s := range other.Accept {
		all.Accept[s], other.Accept[s] = false, false
	}
	all.Accept[4095] = false
	wantAlike(t, "none accepts", all, other)
	wantEmpty(t, "none accepts", all, true)
	all.Accept[4095] = true
	wantEmpty(t, "one accepts", all, false)
	// What the last twelve of two kinds of symbols were is told.
	last := func(shift int) api.Dfa {
		return shaped(0, 4096, 2, func(s, c int) int { return (2*s + c) % 4096 }, func(s int) bool { return s >= shift })
	}
	wantWord(t, "the last twelve", last(2049), last(2048), 1, 0, 0, 0, 0, 0, 0, 0, 0, 0, 0, 0)
	wantWord(t, "the last twelve", last(4095), last(4096), slices.Repeat([]int{1}, 12)...)
	wantAlike(t, "the last twelve, disguised", last(2048), disguised(next, last(2048), 1))
}

// TestWordByWord asks for the first word, over all words of some symbols, that one of both accepts alone.
func TestWordByWord(t *testing.T) { // P14.1, P14.3
	next := generator()
	counts := map[bool]int{}
	for k := range 600 {
		a := mixed(next, 1+next(12), 1+next(5), 3)
		b := mixed(next, 1+next(12), 1+next(5), 3)
		if k%2 == 0 {
			b = disguised(next, a, 2)
			b.Next[next(len(b.Next))] = next(len(b.Accept))
			b.Class[next(259)] = next(b.Width)
		}
		symbols := symbolsOf(a, b)
		n := 2
		if len(symbols) < 5 {
			n = 5
		}
		counts[wantFirst(t, "word by word", a, b, symbols, n)]++
	}
	if counts[true] < 150 || counts[false] < 150 {
		t.Errorf("%v", counts)
	}
	for _, two := range [][2]string{{"", "a"}, {"a", "b"}, {"a|b", "a|bb"}, {"(ab|b)*", "(ab|b)+"}, {"^a*b", "a*b"}, {"[^a]b?$", "[^a]b?"}, {"^$", "$^"}, {"(^|a)b", "ab"}, {"a{2,3}", "a{2,4}"}, {"a*$", "$a*"}, {"a^b", "[]"}} {
		if a, b := decided(t, two[0]), decided(t, two[1]); !wantFirst(t, two[0]+", "+two[1], a, b, []int{0, 'a', 'b', 'c', 256, 257, 258}, 4) {
			t.Errorf("%s and %s are not told apart", two[0], two[1])
		}
	}
}

// TestPatterns has trees that are built in different ways.
func TestPatterns(t *testing.T) { // P14.1 to P14.3
	for _, l := range [][]string{
		{"", "()", "()()", "(|)", "a{0}", "()*"},
		{"a", "(a)", "a{1}", "[a]", "a()", "()a", "a|a", "(a|a)"},
		{"a|b", "b|a", "[ab]", "(a|b|a)", "[a-b]", "(a|b){1,1}"},
		{"(a|b)*", "(a*b*)*", "[ab]*", "(a*|b*)*", "(a|b)*(a|b)*", "((a|b)+)?", "([ab]{0,3})*"},
		{"a{2,3}", "aa|aaa", "aaa?", "a(a|aa)"},
		{"a+", "aa*", "a*a", "a{1,}", "a|a{2,}"},
		{"[ab]c|ac", "(a|b)c", "ac|bc"},
		{"^*a", "a|^a", "(^|)a", "^{0,1}a"},
		{"a$", "a$$", "a$+"},
		{"^", "^^", "^{2}", "^+"},
		{"^$", "^($)", "(^$|^()$)"},
		{"a^b", "(a)(^)b", "a(^b|^b)"},
		{"[^a]", "[\\x00-`b-\\xff]"},
		{"[]", "a[]", "[]b", "[]{2}", "([]|[])+", "a([]|b[])"},
	} {
		for _, p := range l {
			a, b := decided(t, l[0]), decided(t, p)
			wantAlike(t, l[0]+", "+p, a, b)
			wantModel(t, l[0]+", "+p, a, b)
			wantEmpty(t, p, b, l[0] == "[]")
		}
	}
	for _, x := range []struct{ a, b, want string }{
		{"", "a", ""}, {"a", "b", "a"}, {"[b-d]", "[c-e]", "b"}, {"a", "aa", "a"}, {"ab", "ba", "ab"}, {"a*", "a?", "aa"}, {"a{3}", "a{3,4}", "aaaa"}, {"a{31}", "a{31,32}", "aaaaaaaaaaaaaaaaaaaaaaaaaaaaaaaa"},
		{"^a", "a", "a"}, {"a$", "^a$", "a$"}, {"^", "$", "^"}, {"^$", "$^", "^$"}, {"(^|a)b", "ab", "^b"}, {"[^a]", "[^b]", "a"}, {".", "[^a]", "\n"}, {"(ab)*", "(ab)+", ""}, {"(ab)*", "(ab){0,3}", "abababab"},
		{"a|bc|cd", "a|bc|ce", "cd"}, {"[ab]*a[ab]{3}", "[ab]*a[ab]{4}", "aaaa"}, {"[ab]*b[ab]{3}", "[ab]*b[ab]{2}", "baa"}, {"a^", "a", "a"}, {"a^b", "[]", "a^b"}, {"a*^", "^", "a^"},
	} {
		a, b := decided(t, x.a), decided(t, x.b)
		wantWord(t, x.a+", "+x.b, a, b, word(x.want)...)
		wantModel(t, x.a+", "+x.b, a, b)
	}
}

// TestManyPatterns holds patterns against others that are written of the same parts.
func TestManyPatterns(t *testing.T) { // P14.1, P14.3
	next := generator()
	counts := map[bool]int{}
	for range 200 {
		x, y := mixedPattern(next, 2), mixedPattern(next, 2)
		for _, two := range [][2]string{
			{"(" + x + ")+", x + "(" + x + ")*"}, {"((" + x + ")*)*", "(" + x + ")*"}, {x + "|" + y, y + "|" + x}, {"(" + x + "){1,3}", "(" + x + ")((" + x + ")(" + x + ")?)?"},
			{"(" + x + "|" + y + ")*", "((" + x + ")*(" + y + ")*)*"}, {x + y, y + x}, {x + "|" + y, "(" + x + ")(" + y + ")?"}, {x, y},
		} {
			a, b := decided(t, two[0]), decided(t, two[1])
			wantModel(t, two[0]+", "+two[1], a, b)
			_, is := wordOf(a, b)
			counts[is]++
		}
	}
	if counts[true] < 300 || counts[false] < 300 {
		t.Errorf("%v", counts)
	}
}

func TestEmpty(t *testing.T) { // P14.2
	for _, x := range []struct {
		what  string
		start int
		rows  string
		is    bool
	}{
		{"one state", 0, "0", true}, {"one state that accepts", 0, "0 !", false}, {"one state, three classes", 0, "0 0 0", true}, {"one state that accepts, three classes", 0, "0 0 0 !", false},
		{"another one accepts", 0, "0; 1 !", true}, {"another one accepts, where it starts", 1, "0; 1 !", false}, {"the first one accepts", 1, "0 !; 1", true}, {"the first one accepts, and is reached", 1, "0 !; 0", false},
		{"none accepts", 1, "1 2; 2 0; 0 1", true}, {"all accept", 1, "1 2 !; 2 0 !; 0 1 !", false}, {"one that goes to the start accepts", 0, "1 0; 0 1; 0 1 !", true},
		{"all that are not reached accept", 1, "0 0 !; 3 1; 1 2 !; 3 1; 4 3 !", true}, {"the last symbol leads on", 0, "0 0 1; 1 1 1 !", false}, {"a chain", 3, "0 !; 0; 1; 2", false}, {"a chain to nothing", 3, "0; 0; 1; 2", true}, {"the start alone accepts, and is left", 1, "0; 0 !", false},
	} {
		wantEmpty(t, x.what, table(x.start, x.rows), x.is)
		wantEmpty(t, x.what, roomy(table(x.start, x.rows)), x.is)
	}
	// One symbol alone leads on.
	for sym := range 259 {
		d := classed(table(0, "0 1; 1 1 !"), make([]int, 259))
		wantEmpty(t, "no symbol leads on", d, true)
		d.Class[sym] = 1
		wantEmpty(t, "one symbol leads on", d, false)
		d.Accept[1] = false
		wantEmpty(t, "one symbol leads to nothing", d, true)
	}
	for p, is := range map[string]bool{"": false, "a": false, "[]": true, "[]*": false, "a[]b": true, "[]|a": false, "[]{0}": false, "([]a)+": true, "^": false, "a^": false, "$a": false, "[^\\x00-\\xff]": true} {
		wantEmpty(t, p, decided(t, p), is)
	}
	next := generator()
	counts := map[bool]int{}
	for range 2000 {
		d := withMore(next, mixed(next, 1+next(6), 1+next(3), 2+next(9)), next(3))
		if next(3) == 0 {
			copy(d.Class, slices.Repeat(d.Class[:1], 250+next(10)))
		}
		is := nothing(d)
		wantEmpty(t, "mixed", d, is)
		counts[is]++
	}
	if counts[true] < 500 || counts[false] < 500 {
		t.Errorf("%v", counts)
	}
}

func TestLengths(t *testing.T) { // P14.1, P14.2: each list alone is too short or too long
	for _, was := range some() {
		states, width := len(was.Accept), was.Width
		wantOne(t, "right", was, true)
		wantOne(t, "with room", roomy(was), true)
		for _, size := range []int{0, 1, 258, 260, 518} {
			d := was
			d.Class = append(copied(was).Class, make([]int, 5000)...)[:size]
			wantNotRight(t, "Class of another length", d)
		}
		for _, size := range []int{0, 1, states*width - 1, states*width + 1, (states - 1) * width, (states + 1) * width, states * (width - 1), states * (width + 1)} {
			d := was
			d.Next = append(copied(was).Next, make([]int, states*width+5000)...)[:size]
			wantOne(t, "Next of some length", d, size == states*width)
		}
		d := was
		d.Accept = nil
		wantNotRight(t, "no Accept", d)
		d.Next = nil
		wantNotRight(t, "no state", d)
		d.Start, d.Next = 0, []int{}
		wantNotRight(t, "no state, and from 0", d)
		d = was
		d.Start, d.Next = 0, make([]int, states*width)
		for _, size := range []int{states - 1, states + 1, 2 * states, 4097} {
			d.Accept = make([]bool, size)
			wantOne(t, "Accept of some length", d, size == states)
		}
	}
	for _, width := range []int{1, 2, 259} {
		wantNotRight(t, "too many states", wide(4097, width))
	}
	wantNotRight(t, "too many states", wide(1<<16, 1))
	wantNotRight(t, "nothing", api.Dfa{})
}

func TestWidths(t *testing.T) { // P14.1, P14.2: Width alone may not be
	for _, states := range []int{1, 2, 5} {
		for _, width := range []int{260, 261, 518} {
			wantNotRight(t, "too many classes", wide(states, width))
			// No symbol is in a class above the greatest that may be.
			wantNotRight(t, "too many classes", classed(wide(states, width), make([]int, 259)))
		}
	}
	for _, was := range some() {
		for _, width := range append(edges(), was.Width-1, was.Width+1, -was.Width) {
			d := was
			d.Width = width
			if width != was.Width {
				wantNotRight(t, "another width", d)
				wantNotRight(t, "another width, of one class", classed(d, make([]int, 259)))
			}
		}
	}
	// As many states times such a width go round to what Next has.
	for _, x := range [][2]int{{2, -1 << 63}, {4, 1 << 62}, {4, -1 << 62}, {4096, 1 << 52}, {4096, -1 << 52}} {
		wantNotRight(t, "a width that goes round", api.Dfa{Class: make([]int, 259), Width: x[1], Accept: make([]bool, x[0])})
		wantNotRight(t, "a width that goes round", api.Dfa{Class: make([]int, 259), Width: x[1] + 1, Accept: make([]bool, x[0]), Next: make([]int, x[0])})
	}
}

func TestEntries(t *testing.T) { // P14.1, P14.2: each entry alone may not be
	for _, was := range []api.Dfa{wide(1, 1), wide(1, 259), wide(3, 5), wide(7, 258), table(1, "0; 1 !")} {
		states, width := len(was.Accept), was.Width
		for _, x := range append(edges(), states-1, states, states+1, width-1, width, width+1) {
			for _, at := range []int{0, 1, 129, 255, 256, 257, 258} {
				d := copied(was)
				d.Class[at] = x
				wantOne(t, "a class", d, 0 <= x && x < width)
			}
			for _, at := range []int{0, width - 1, len(was.Next) / 2, len(was.Next) - width, len(was.Next) - 1} {
				d := copied(was)
				d.Next[at] = x
				wantOne(t, "an entry of Next", d, 0 <= x && x < states)
			}
			d := was
			d.Start = x
			wantOne(t, "Start", d, 0 <= x && x < states)
		}
	}
	// What may not be stands where nobody comes.
	d := classed(table(0, "0 1; 1 1 !; 0 2"), make([]int, 259))
	for at := range d.Next {
		for _, x := range []int{-1, 3} {
			e := copied(d)
			e.Next[at] = x
			wantNotRight(t, "an entry where nobody comes", e)
		}
	}
}

// TestRawAutomata has any fields.
func TestRawAutomata(t *testing.T) { // P1, P14.1, P14.2
	next := generator()
	right := 0
	for range 4000 {
		d := mixed(next, 1+next(4), 1+next(3), 2)
		for range next(3) {
			x := edges()[next(len(edges()))]
			switch next(8) {
			case 0:
				d.Start = x
			case 1:
				d.Width = x
			case 2:
				d.Class[next(259)] = x
			case 3:
				if len(d.Next) > 0 {
					d.Next[next(len(d.Next))] = x
				}
			case 4:
				d.Next = d.Next[:next(len(d.Next)+1)]
			case 5:
				d.Accept = d.Accept[:next(len(d.Accept)+1)]
			case 6:
				d.Accept = append(d.Accept, make([]bool, next(3))...)
			default:
				d.Next = append(d.Next, make([]int, next(3))...)
			}
		}
		if mayBe(d) {
			right++
			wantModel(t, "right", d, mixed(next, 1+next(4), 1+next(3), 2))
		}
		wantOne(t, "raw", d, mayBe(d))
	}
	if right < 1000 || right > 3500 {
		t.Errorf("%d are right", right)
	}
}

func TestWhatIsHandedInStays(t *testing.T) { // P2, rules 3 and 4
	next := generator()
	l := append(some(), mixed(next, 20, 9, 3), mixed(next, 9, 259, 2), api.Dfa{}, api.Dfa{Class: []int{3, 1, 2}, Next: []int{5, 4}, Accept: []bool{true, false, true}, Width: 2})
	for _, was := range l {
		for _, other := range l {
			d, e := roomy(was), roomy(other)
			Apart(d, e)
			Empty(d)
			Apart(d, d)
			if !same(d, was) || !same(e, other) {
				t.Fatalf("%s and %s are changed: %s, %s", brief(was), brief(other), brief(d), brief(e))
			}
			// Nor is what lies behind the lists.
			for _, x := range []api.Dfa{d, e} {
				class, to, accept := x.Class[len(x.Class):len(x.Class)+2], x.Next[len(x.Next):len(x.Next)+2], x.Accept[len(x.Accept):len(x.Accept)+2]
				if !slices.Equal(class, []int{-7, 7}) || !slices.Equal(to, []int{-7, 7}) || !slices.Equal(accept, []bool{true, false}) {
					t.Fatalf("%s: %v, %v, %v lie behind the lists", brief(was), class, to, accept)
				}
			}
		}
	}
	// What was handed in is not kept: it may be changed later.
	for range 50 {
		a, b := mixed(next, 20, 9, 3), mixed(next, 20, 9, 3)
		b.Accept[b.Start] = a.Accept[a.Start]
		want, wantIs := wordOf(a, b)
		word, is, _ := Apart(a, b)
		for _, d := range []api.Dfa{a, b} {
			for s := range d.Accept {
				d.Accept[s] = next(2) == 0
			}
			for i := range d.Next {
				d.Next[i] = next(20)
			}
			for i := range d.Class {
				d.Class[i] = (d.Class[i] + 1) % d.Width
			}
		}
		if !slices.Equal(word, want) || is != wantIs {
			t.Errorf("%v, %v, not %v, %v", word, is, want, wantIs)
		}
		wantModel(t, "what was changed", a, b)
	}
}

func TestAnswersAreNew(t *testing.T) { // P2, rule 4
	next := generator()
	a, b := trie(word("xyz^"), word("abcde")), trie(word("abcde"), word("xyz"), word("xyz&"))
	was, other := copied(a), copied(b)
	for k := range 5 {
		wantWord(t, "again", a, b, 'x', 'y', 'z')
		// What is answered may be written to, whole and into the room behind it.
		one, _, _ := Apart(a, b)
		two, _, _ := Apart(a, b)
		for i := range one[:cap(one)] {
			one[:cap(one)][i] = -k
		}
		if !same(a, was) || !same(b, other) || !slices.Equal(two, word("xyz")) {
			t.Fatalf("%s, %s, %v", brief(a), brief(b), two)
		}
		// What was asked of others ahead is not to be seen.
		wantModel(t, "others", mixed(next, 9, 3, 3), mixed(next, 9, 3, 3))
		wantNotRight(t, "nothing", api.Dfa{})
		wantEmpty(t, "again", a, false)
	}
}
