package mini

import (
	"slices"
	"testing"

	"tatting/api"
	"tatting/dfa"
	"tatting/nfa"
	"tatting/parse"
	"tatting/subset"
)

// some are automata that are right, at the edges of what may be and between them.
func some() []api.Dfa {
	return []api.Dfa{
		wide(1, 1), wide(1, 259), wide(2, 1), wide(3, 5), wide(7, 258), wide(30, 259), wide(4095, 2), wide(4096, 1),
		table(0, "0"), table(0, "0 !"), table(1, "0; 1 !"), table(1, "1 2 0; 0 1 1 !; 2 2 2"),
	}
}

// wantBlocks asks for the blocks of an automaton.
func wantBlocks(t *testing.T, what string, d api.Dfa, want []int) {
	t.Helper()
	count := 0
	for _, b := range want {
		count = max(count, b+1)
	}
	if l, n := Blocks(d); !slices.Equal(l, want) || n != count {
		t.Errorf("%s: Blocks of %s: %v, %d, not %v, %d", what, brief(d), l, n, want, count)
	}
}

// wantOf asks for an automaton's least one, and that this one's is it itself.
func wantOf(t *testing.T, what string, d, want api.Dfa) {
	t.Helper()
	for _, x := range []api.Dfa{d, want} {
		if least, e := Of(x); !same(least, want) || e != api.OK {
			t.Errorf("%s: Of %s: %s, %d, not %s", what, brief(x), brief(least), e, brief(want))
		}
	}
}

// wantLeast asks that an automaton is the least one of another one, by what P13.3 says of it.
func wantLeast(t *testing.T, what string, d, least api.Dfa) {
	t.Helper()
	if !mayBe(least) || least.Start != 0 || !dfa.Right(least) {
		t.Fatalf("%s: Of %s: %s", what, brief(d), brief(least))
	}
	if !alike(d, least) {
		t.Errorf("%s: %s and %s accept other words", what, brief(d), brief(least))
	}
	for s, row := range apart(least) {
		for r := range s {
			if !row[r] {
				t.Errorf("%s: %d and %d of %s are alike", what, s, r, brief(least))
			}
		}
	}
	if len(reachedOf(least)) != len(least.Accept) || slices.Contains(dfa.Reach(least), false) {
		t.Errorf("%s: not all states of %s are reached", what, brief(least))
	}
	if again, e := Of(least); !dfa.Same(again, least) || e != api.OK {
		t.Errorf("%s: Of %s is not it itself: %s, %d", what, brief(least), brief(again), e)
	}
}

// wantModel asks for what the models tell, and for what P13.3 says.
func wantModel(t *testing.T, what string, d api.Dfa) {
	t.Helper()
	block, count := blocksOf(d)
	if l, n := Blocks(d); !slices.Equal(l, block) || n != count {
		t.Errorf("%s: Blocks of %s: %v, %d, not %v, %d", what, brief(d), l, n, block, count)
	}
	wantOf(t, what, d, leastOf(d))
	least, _ := Of(d)
	wantLeast(t, what, d, least)
}

// wantNotRight asks that nothing is told of what is not right.
func wantNotRight(t *testing.T, what string, d api.Dfa) {
	t.Helper()
	if l, n := Blocks(d); len(l) != 0 || n != 0 {
		t.Errorf("%s: Blocks of %s: %v, %d", what, brief(d), l, n)
	}
	if least, e := Of(d); !same(least, api.Dfa{}) || e != api.ErrForm {
		t.Errorf("%s: Of %s: %s, %d", what, brief(d), brief(least), e)
	}
}

// wantOne asks for what is told of an automaton that is right, or of one that is not.
func wantOne(t *testing.T, what string, d api.Dfa, right bool) {
	t.Helper()
	if !right {
		wantNotRight(t, what, d)
		return
	}
	if l, n := Blocks(d); len(l) != len(d.Accept) || n < 1 || n != slices.Max(l)+1 {
		t.Errorf("%s: Blocks of %s: %v, %d", what, brief(d), l, n)
	}
	if least, e := Of(d); e != api.OK || !mayBe(least) || least.Accept[0] != d.Accept[d.Start] {
		t.Errorf("%s: Of %s: %s, %d", what, brief(d), brief(least), e)
	}
}

// decided is the automaton of a pattern.
func decided(t *testing.T, p string) api.Dfa {
	t.Helper()
	l, _, e := parse.Pattern(p)
	n, f := nfa.Build(l)
	d, g := subset.Build(n, api.MaxStates)
	if e != api.OK || f != api.OK || g != api.OK || !mayBe(d) {
		t.Fatalf("%s: %d, %d, %d", p, e, f, g)
	}
	return d
}

func TestExample(t *testing.T) { // P13.1, P13.2
	d := decided(t, "a|b")
	if len(d.Accept) != 4 || d.Width != 6 {
		t.Fatalf("%s", brief(d))
	}
	wantBlocks(t, "a|b", d, []int{0, 1, 2, 2})
	want := api.Dfa{Width: 3, Next: []int{1, 2, 0, 1, 1, 1, 1, 1, 2}, Accept: []bool{false, false, true}}
	for sym := range 259 {
		want.Class = append(want.Class, map[int]int{'a': 1, 'b': 1, api.Begin: 2, api.End: 2, api.Both: 2}[sym])
	}
	wantOf(t, "a|b", d, want)
}

// handmade are automata with their blocks and least automata by hand: of each class which one it becomes, and where the states go by these.
func handmade() []struct {
	what    string
	start   int
	rows    string
	blocks  string
	classes string
	least   string
} {
	return []struct {
		what    string
		start   int
		rows    string
		blocks  string
		classes string
		least   string
	}{
		{"one state", 0, "0", "0", "0", "0"},
		{"one state that accepts", 0, "0 !", "0", "0", "0 !"},
		{"one state, three classes", 0, "0 0 0", "0", "0 0 0", "0"},
		{"none accepts", 1, "1; 2; 0", "0 0 0", "0", "0"},
		{"none accepts, two classes", 2, "1 0; 2 2; 0 1", "0 0 0", "0 0", "0"},
		{"all accept", 2, "1 !; 2 !; 0 !", "0 0 0", "0", "0 !"},
		{"all accept, three classes", 0, "1 0 2 !; 2 2 1 !; 0 1 0 !", "0 0 0", "0 0 0", "0 !"},
		{"one accepts, in a ring", 0, "1; 2; 0 !", "0 1 2", "0", "1; 2; 0 !"},
		{"one accepts, and a ring begins elsewhere", 2, "1; 2; 0 !", "0 1 2", "0", "1 !; 2; 0"},
		{"the first one accepts", 2, "0 !; 0; 1", "0 1 2", "0", "1; 2; 2 !"},
		{"one accepts, and all others go to it", 3, "1; 1 !; 1; 1", "0 1 0 0", "0", "1; 1 !"},
		{"a chain", 0, "1; 2; 3; 3 !", "0 1 2 3", "0", "1; 2; 3; 3 !"},
		{"a chain, from its midst", 2, "1; 2; 3; 3 !", "0 1 2 3", "0", "1; 1 !"},
		{"a chain downwards", 3, "0 !; 0; 1; 2", "0 1 2 3", "0", "1; 2; 3; 3 !"},
		{"a chain to nothing", 0, "1; 2; 3; 3", "0 0 0 0", "0", "0"},
		{"a ring of which every second one accepts", 0, "1; 2 !; 3; 4 !; 5; 0 !", "0 1 0 1 0 1", "0", "1; 0 !"},
		{"a ring of which every third one accepts", 1, "1 !; 2; 3; 4 !; 5; 0", "0 1 2 0 1 2", "0", "1; 2; 0 !"},
		{"two rings, each alone", 4, "1; 0 !; 3; 4; 2 !", "0 1 2 3 4", "0", "1 !; 2; 0"},
		{"two rings that are alike", 3, "1; 2; 0 !; 4; 5; 3 !", "0 1 2 0 1 2", "0", "1; 2; 0 !"},
		{"rings of two and of four that are alike", 5, "1; 0 !; 3; 4 !; 5; 2 !", "0 1 0 1 0 1", "0", "1 !; 0"},
		{"blocks by their first states", 0, "3 2; 3 2; 2 2 !; 2 3; 0 1 !; 0 0 !", "0 0 1 2 3 3", "0 1", "1 2; 2 1; 2 2 !"},
		{"starts elsewhere than at 0", 1, "0 0; 1 0 !", "0 1", "0 1", "0 1 !; 1 1"},
		{"starts at one that is like an earlier one", 2, "1 0; 1 1 !; 1 2", "0 1 0", "0 1", "1 0; 1 1 !"},
		{"starts at one that is like an earlier one, from which one comes to others", 3, "1 2; 1 1; 2 2 !; 4 5; 4 4; 5 5 !", "0 1 2 0 1 2", "0 1", "1 2; 1 1; 2 2 !"},
		{"not reached, and like none", 0, "0 0 !; 1 0", "0 1", "0 0", "0 !"},
		{"not reached, and like one that is", 0, "0 1 !; 1 0; 0 1 !", "0 1 0", "0 1", "0 1 !; 1 0"},
		{"not reached, some like one another", 1, "2 0; 1 1 !; 0 2; 1 0", "0 1 0 2", "0 0", "0 !"},
		{"not alive", 0, "1 2; 3 2; 2 2; 3 2 !", "0 1 2 3", "0 1", "1 2; 3 2; 2 2; 3 2 !"},
		{"not alive, and there are some", 0, "1 2; 3 4; 4 2; 3 2 !; 2 4", "0 1 2 3 2", "0 1", "1 2; 3 2; 2 2; 3 2 !"},
		{"classes by which all go to the same block", 0, "1 2 0; 2 1 0 !; 1 1 0 !", "0 1 1", "0 0 1", "1 0; 1 0 !"},
		{"classes that part at one block alone", 0, "1 1; 2 2; 2 0 !", "0 1 2", "0 1", "1 1; 2 2; 2 0 !"},
		{"classes that part at none that is reached", 0, "1 1; 0 0 !; 0 1", "0 1 2", "0 0", "1; 0 !"},
		{"classes that part in blocks that are not reached alone, which start's state does not part", 1, "3 3; 2 2; 1 1 !; 0 3 !", "0 1 2 3", "0 0", "1; 0 !"},
		{"the first and the last class are one", 0, "1 0 1; 1 0 1 !", "0 1", "0 1 0", "1 0; 1 0 !"},
		{"the last two classes are one", 0, "1 0 0; 1 0 0 !", "0 1", "0 1 1", "1 0; 1 0 !"},
		{"states as they are met", 0, "3 2; 0 0; 1 3; 3 1 !", "0 1 2 3", "0 1", "1 2; 1 3 !; 3 1; 0 0"},
		{"states as they are met, class by class", 2, "0 1 2; 2 0 1 !; 1 0 2", "0 1 2", "0 1 2", "1 2 0; 0 2 1 !; 2 1 0"},
	}
}

func TestByHand(t *testing.T) { // P13.1, P13.2
	for _, x := range handmade() {
		d := table(x.start, x.rows)
		want := table(0, x.least)
		want.Class = nil
		for sym := range 259 {
			want.Class = append(want.Class, numbers(x.classes)[sym%d.Width])
		}
		wantBlocks(t, x.what, d, numbers(x.blocks))
		wantOf(t, x.what, d, want)
		wantModel(t, x.what, d)
		// Blocks do not hang on where one starts.
		for start := range d.Accept {
			d.Start = start
			wantBlocks(t, x.what, d, numbers(x.blocks))
			wantModel(t, x.what, d)
		}
	}
}

// signed has the classes of the symbols that stand in a text, by their places in it; all others are of the class rest.
func signed(text string, rest int) []int {
	class := slices.Repeat([]int{rest}, 259)
	for c, b := range []byte(text) {
		class[b] = c
	}
	return class
}

// TestClassesAreNumbered has classes in another order than their first symbols.
func TestClassesAreNumbered(t *testing.T) { // P13.2
	// By class 0 from 0 to 1, by class 1 to 2, by 2 to 3; each goes on alone.
	d := table(0, "1 2 3 0; 1 1 2 1; 2 3 2 2; 3 3 1 3 !")
	for _, x := range []struct {
		text string // the symbols of the classes 0, 1, 2; all others are of 3
		want string // the least automaton, whose class 0 is that of the others
	}{
		{"abc", "0 1 2 3; 1 1 1 2; 2 2 3 2; 3 3 3 1 !"},
		{"cba", "0 1 2 3; 1 3 1 1 !; 2 2 1 2; 3 2 3 3"},
		{"bca", "0 1 2 3; 1 2 1 1 !; 2 3 2 2; 3 3 3 1"},
	} {
		want := classed(table(0, x.want), signed("", 0))
		for c, sym := range []int{'a', 'b', 'c'} {
			want.Class[sym] = c + 1
		}
		wantOf(t, x.text, classed(d, signed(x.text, 3)), want)
		wantModel(t, x.text, classed(d, signed(x.text, 3)))
	}
	// Each symbol alone in its class, all in all orders that are a turn of another one.
	step := shaped(0, 259, 259, func(s, c int) int { return (s + c) % 259 }, func(s int) bool { return s == 0 })
	for _, by := range []int{1, 2, 100, 258} {
		var class []int
		for sym := range 259 {
			class = append(class, (sym*by+7)%259)
		}
		least, e := Of(classed(step, class))
		if e != api.OK || least.Width != 259 || !slices.Equal(least.Class, turning(259)) || len(least.Accept) != 259 {
			t.Errorf("by %d: %s, %d", by, brief(least), e)
		}
		wantModel(t, "all symbols alone", classed(step, class))
	}
}

// TestClassesWithoutSymbols has classes that no symbol has: one comes nowhere by them, whatever Next says.
func TestClassesWithoutSymbols(t *testing.T) { // P13.1, P13.2
	for _, x := range []struct {
		rows   string
		class  int // that of all symbols
		blocks string
		least  string
	}{
		{"0 1; 1 0 !", 0, "0 1", "0"},
		{"0 1; 1 0 !", 1, "0 1", "1; 0 !"},
		{"0 2; 1 1; 2 0 !", 0, "0 0 1", "0"},
		{"0 2; 1 1; 2 0 !", 1, "0 1 2", "1; 0 !"},
		{"1 0 2; 1 2 2; 2 2 0 !", 0, "0 0 1", "0"},
		{"1 0 2; 1 2 2; 2 2 0 !", 1, "0 1 2", "0"},
		{"1 0 2; 1 2 2; 2 2 0 !", 2, "0 0 1", "1; 0 !"},
		{"0 0 0 !; 1 1 0 !; 1 2 0 !; 2 3 1 !", 1, "0 0 0 0", "0 !"},
	} {
		d := classed(table(0, x.rows), slices.Repeat([]int{x.class}, 259))
		want := table(0, x.least)
		wantBlocks(t, "one class has symbols", d, numbers(x.blocks))
		wantOf(t, "one class has symbols", d, want)
		wantModel(t, "one class has symbols", d)
		// One symbol of another class is enough to come anywhere by it.
		for _, sym := range []int{0, 1, 97, 255, 256, 257, 258} {
			for class := range d.Width {
				e := copied(d)
				e.Class[sym] = class
				wantModel(t, "one symbol of another class", e)
			}
		}
	}
	// Of each two neighbours among the classes one has none, and it goes anywhere.
	next := generator()
	for _, width := range []int{2, 3, 4, 64, 259} {
		d := shaped(0, 6, width, func(s, c int) int { return []int{(s + 1 + c/2%2) % 6, next(6)}[c%2] }, func(s int) bool { return s%3 == 1 })
		want := table(0, "1 2; 2 0 !; 0 1")
		for sym := range 259 {
			d.Class[sym] -= d.Class[sym] % 2
			want.Class[sym] = d.Class[sym] / 2 % 2
		}
		wantModel(t, "every second class", d)
		if width > 2 {
			wantBlocks(t, "every second class", d, []int{0, 1, 2, 0, 1, 2})
			wantOf(t, "every second class", d, want)
		}
	}
}

// TestSymbolsThatPart has two classes that part at one state alone, which is reached or not.
func TestSymbolsThatPart(t *testing.T) { // P13.2
	const size = 12
	for at := range size {
		// A ring by both classes, but from one state by one of them to itself; from size on there is another ring, which goes into this one.
		d := shaped(0, 2*size, 2, func(s, c int) int {
			if s == at && c == 1 {
				return s
			}
			if s%size == size-1 {
				return 0
			}
			return s + 1
		}, func(s int) bool { return s%size == 5 })
		for start := range 2 * size {
			d.Start = start
			if least, e := Of(d); least.Width != 2 || e != api.OK {
				t.Errorf("at %d, from %d: %s", at, start, brief(least))
			}
			wantModel(t, "from anywhere to all", d)
			// It parts where nobody comes.
			e := copied(d)
			e.Next[2*at+1] = e.Next[2*at]
			e.Next = append(e.Next, 2*size, at)
			e.Accept = append(e.Accept, true)
			if least, f := Of(e); least.Width != 1 || f != api.OK || slices.Max(least.Class) != 0 {
				t.Errorf("at %d, from %d: %s", at, start, brief(least))
			}
			wantModel(t, "not reached", e)
		}
	}
	// Each symbol alone is parted from all others.
	for sym := range 259 {
		d := classed(table(1, "0 1 !; 1 0"), slices.Repeat([]int{sym % 2}, 259))
		d.Class[sym] = 1 - sym%2
		wantModel(t, "one symbol", d)
		least, _ := Of(d)
		for other := range 259 {
			if (least.Class[other] == least.Class[sym]) != (other == sym) || least.Class[0] != 0 {
				t.Fatalf("%d and %d: %s", sym, other, brief(least))
			}
		}
	}
}

// TestLongWords has chains and rings of as many states as may be, which are told apart by long words alone.
func TestLongWords(t *testing.T) { // P13.1, P13.2
	const size = 4096
	up := func(s, c int) int { return min(s+1, size-1) }
	down := func(s, c int) int { return max(s-1, 0) }
	around := func(s, c int) int { return (s + 1) % size }
	is := func(at int) func(int) bool { return func(s int) bool { return s == at } }
	to := func(f func(s int) int) []int {
		var l []int
		for s := range size {
			l = append(l, f(s))
		}
		return l
	}
	one := func(states int) api.Dfa {
		return shaped(0, states, 1, func(s, c int) int { return min(s+1, states-1) }, is(states-1))
	}
	for _, width := range []int{1, 259} {
		last := shaped(0, size, width, up, is(size-1))
		wantBlocks(t, "a chain", last, to(func(s int) int { return s }))
		wantOf(t, "a chain", last, one(size))
		last.Start = 4000
		wantOf(t, "the end of a chain", last, one(96))
		first := shaped(size-1, size, width, down, is(0))
		wantBlocks(t, "a chain downwards", first, to(func(s int) int { return s }))
		wantOf(t, "a chain downwards", first, one(size))
		midst := shaped(0, size, width, up, is(1000))
		wantBlocks(t, "a chain of which one in the midst accepts", midst, to(func(s int) int { return min(s, 1001) }))
		wantOf(t, "a chain of which one in the midst accepts", midst, shaped(0, 1002, 1, func(s, c int) int { return min(s+1, 1001) }, is(1000)))
		none := shaped(0, size, width, up, is(-1))
		wantBlocks(t, "a chain to nothing", none, make([]int, size))
		wantOf(t, "a chain to nothing", none, table(0, "0"))
		ring := shaped(77, size, width, around, is(76))
		wantBlocks(t, "a ring", ring, to(func(s int) int { return s }))
		wantOf(t, "a ring", ring, shaped(0, size, 1, around, is(size-1)))
		for _, every := range []int{1, 2, 64, 2048} {
			ring := shaped(size-1, size, width, around, func(s int) bool { return s%every == 0 })
			wantBlocks(t, "a ring that comes again and again", ring, to(func(s int) int { return s % every }))
			wantOf(t, "a ring that comes again and again", ring, shaped(0, every, 1, func(s, c int) int { return (s + 1) % every }, func(s int) bool { return s == min(1, every-1) }))
		}
	}
	// All but one state of a ring are alike up to a word that goes around it.
	ring := shaped(0, size, 1, around, func(s int) bool { return s%2 == 0 && s != 2000 })
	wantBlocks(t, "a ring that comes again and again, but once", ring, to(func(s int) int { return s }))
	wantOf(t, "a ring that comes again and again, but once", ring, ring)
}

func TestMixed(t *testing.T) { // P13.1 to P13.3
	next := generator()
	counts := map[string]int{}
	for k := range 1500 {
		d := mixed(next, 1+next(14), []int{1, 2, 3, 40}[k%4], 1+next(9))
		// Of some automata most symbols are in one class, so that there are classes without any.
		if next(3) == 0 {
			copy(d.Class, slices.Repeat(d.Class[:1], 257))
		}
		wantModel(t, "mixed", d)
		count(counts, d)
		if next(2) == 0 {
			d = withMore(next, d, next(5))
		}
		d, _ = disguised(next, d, 3)
		wantModel(t, "disguised", d)
		count(counts, d)
	}
	for _, what := range []string{"one state", "fewer blocks than states", "as many blocks as states", "fewer states than blocks", "fewer classes", "as many classes", "starts at another block than 0"} {
		if counts[what] < 100 {
			t.Errorf("only %d of: %s", counts[what], what)
		}
	}
}

// count counts what kinds of automata were met.
func count(counts map[string]int, d api.Dfa) {
	block, blocks := Blocks(d)
	least, _ := Of(d)
	for what, is := range map[string]bool{
		"one state": len(least.Accept) == 1, "fewer blocks than states": blocks < len(d.Accept), "as many blocks as states": blocks == len(d.Accept), "fewer states than blocks": len(least.Accept) < blocks,
		"fewer classes": least.Width < d.Width, "as many classes": least.Width == d.Width, "starts at another block than 0": block[d.Start] > 0,
	} {
		if is {
			counts[what]++
		}
	}
}

// TestDisguised asks that Of is the same, however an automaton is disguised, and tells of each state as which one it goes.
func TestDisguised(t *testing.T) { // P13.1, P13.3
	next := generator()
	for k := range 300 {
		d := mixed(next, 1+next(40), 1+next(12), 2+next(6))
		least, e := Of(d)
		if e != api.OK {
			t.Fatalf("%s: %d", brief(d), e)
		}
		for range 4 {
			dis, as := disguised(next, withMore(next, d, next(4)), 1+next(4))
			if other, e := Of(dis); !same(other, least) || !dfa.Same(least, other) || e != api.OK {
				t.Errorf("%d: Of %s: %s, %d; of %s: %s", k, brief(d), brief(least), e, brief(dis), brief(other))
			}
			// Two states are alike, if those are as which they go.
			dis, as = disguised(next, d, 4)
			block, blocks := Blocks(dis)
			own, count := Blocks(d)
			became := map[int]int{}
			for i, s := range as {
				if b, met := became[own[s]]; met && b != block[i] {
					t.Errorf("%d: %s is disguised as %s: %v, %v", k, brief(d), brief(dis), own, block)
				}
				became[own[s]] = block[i]
			}
			if blocks != count || len(became) != count {
				t.Errorf("%d: %d of %d", k, blocks, count)
			}
		}
	}
}

// TestGreatDisguises has automata of thousands of states, which are tens or hundreds.
func TestGreatDisguises(t *testing.T) { // P13.1 to P13.3
	next := generator()
	for _, x := range [][3]int{{1, 7, 4096}, {50, 3, 81}, {200, 9, 20}, {1000, 2, 4}, {2000, 1, 2}, {60, 120, 60}, {2048, 3, 2}} {
		d := mixed(next, x[0], x[1], 5)
		least, _ := Of(d)
		for range 3 {
			dis, _ := disguised(next, d, x[2])
			if len(dis.Accept) > 4096 {
				t.Fatalf("%d states", len(dis.Accept))
			}
			if other, e := Of(dis); !same(other, least) || e != api.OK {
				t.Errorf("%v: %s, %s: %d", x, brief(least), brief(other), e)
			}
		}
	}
}

// TestPairs holds what is the same Of two automata against whether they accept the same words.
func TestPairs(t *testing.T) { // P13.3
	next := generator()
	counts := map[bool]int{}
	for range 3000 {
		a := mixed(next, 1+next(7), 1+next(4), 3)
		b, _ := disguised(next, a, 2)
		switch next(5) {
		case 0:
			b.Start = next(len(b.Accept))
		case 1:
			b.Class[next(259)] = next(b.Width)
		case 2:
			b.Next[next(len(b.Next))] = next(len(b.Accept))
		case 3:
			s := next(len(b.Accept))
			b.Accept[s] = !b.Accept[s]
		default:
			b = withMore(next, b, 2)
		}
		x, e := Of(a)
		y, f := Of(b)
		is := alike(a, b)
		if dfa.Same(x, y) != is || same(x, y) != is || e != api.OK || f != api.OK {
			t.Errorf("of %s and %s, which accept the same words: %v: %s, %s", brief(a), brief(b), is, brief(x), brief(y))
		}
		counts[is]++
	}
	if counts[true] < 800 || counts[false] < 800 {
		t.Errorf("%v", counts)
	}
}

// TestWords asks that the least automaton accepts what its automaton does.
func TestWords(t *testing.T) { // P13.3
	next := generator()
	counts := map[bool]int{}
	for range 150 {
		d := mixed(next, 1+next(12), 1+next(5), 3)
		least, _ := Of(d)
		symbols := []int{next(256), next(256), 256, 257, 258}
		for _, word := range wordsOf(symbols, 4) {
			is := leads(d, word)
			if leads(least, word) != is || dfa.Accepts(least, word) != is {
				t.Errorf("%s, %s: %v", brief(d), brief(least), word)
			}
			counts[is]++
		}
	}
	if counts[true] < 10000 || counts[false] < 10000 {
		t.Errorf("%v", counts)
	}
	for _, p := range []string{"", "a", "a|b", "(ab|b)*", "^a*b", "[^a]b?$", "^$", "(^|a)b", "a{2,3}"} {
		d := decided(t, p)
		least, _ := Of(d)
		for _, word := range wordsOf([]int{'a', 'b', 'c', 256, 257, 258}, 5) {
			if leads(least, word) != leads(d, word) {
				t.Errorf("%s: %v", p, word)
			}
		}
	}
}

// TestSymbolBySymbol has automata that go another way by each symbol.
func TestSymbolBySymbol(t *testing.T) { // P13.2, P13.3
	next := generator()
	for _, width := range []int{1, 2, 3, 100, 258, 259} {
		for _, states := range []int{1, 2, 3, 7} {
			d := mixed(next, states, width, 2)
			d.Class = places(next, 259)
			for sym := range d.Class {
				d.Class[sym] %= width
			}
			wantModel(t, "some width", d)
			wantModel(t, "all accept but one", shaped(states-1, states, width, func(s, c int) int { return (s + c) % states }, func(s int) bool { return s > 0 }))
		}
	}
	// A star: each symbol leads from 0 to a state of its own, which is like that of its class, byte by byte.
	star := shaped(0, 260, 259, func(s, c int) int {
		if s == 0 {
			return c + 1
		}
		return s
	}, func(s int) bool { return s > 0 && s%2 == 0 })
	wantOf(t, "a star", star, classed(table(0, "1 2; 1 1; 2 2 !"), turning(2)))
	for at := range 259 {
		star.Accept[at+1] = false
	}
	wantOf(t, "a star, of which none accepts", star, table(0, "0"))
	star.Accept[259] = true
	wantOf(t, "a star, of which the last one accepts", star, classed(table(0, "1 2; 1 1; 2 2 !"), append(make([]int, 258), 1)))
}

func TestTheGreatest(t *testing.T) { // P13.1 to P13.3
	const size = 4096
	// Of the last three of the ways from 0 to 15 the place is told: one comes to 0 by 14, 14, 15.
	last := shaped(0, size, 259, func(s, c int) int { return (16*s + c%16 + 1) % size }, func(s int) bool { return s == 0 })
	want := table(0, "1 2 1 !; 1 2 1; 1 3 1; 1 3 0")
	for sym := range 259 {
		want.Class[sym] = max(sym%16-13, 0)
	}
	wantOf(t, "the last three", last, want)
	if block, n := Blocks(last); n != 4 || block[0] != 0 || block[15] != 2 || block[16] != 1 || block[255] != 3 || block[4095] != 3 {
		t.Errorf("the last three: %d blocks", n)
	}
	// A ring by the first two classes; by the others one comes from every second state to many.
	many := shaped(0, size, 259, func(s, c int) int {
		if c < 2 {
			return (s + 1) % size
		}
		return (s + c*(s&1)) % size
	}, func(s int) bool { return s == size-1 })
	want = copied(many)
	want.Next, want.Width = nil, 258
	for i, to := range many.Next {
		if i%259 != 1 {
			want.Next = append(want.Next, to)
		}
	}
	for sym := range 259 {
		want.Class[sym] = max(sym-1, 0)
	}
	wantOf(t, "a ring", many, want)
	all := shaped(5, size, 259, func(s, c int) int { return (s*7 + c) % size }, func(int) bool { return true })
	wantBlocks(t, "all accept", all, make([]int, size))
	wantOf(t, "all accept", all, table(0, "0 !"))
}

// TestPatterns has trees that are built in different ways.
func TestPatterns(t *testing.T) { // P13.3
	for _, l := range [][]string{
		{"", "()", "()()", "(|)", "a{0}", "()*"},
		{"a", "(a)", "a{1}", "[a]", "a()", "()a", "a|a", "(a|a)"},
		{"a|b", "b|a", "[ab]", "(a|b|a)", "[a-b]", "(a|b){1,1}"},
		{"(a|b)*", "(a*b*)*", "[ab]*", "(a*|b*)*", "(a|b)*(a|b)*", "((a|b)+)?", "([ab]{0,3})*"},
		{"a{2,3}", "aa|aaa", "aaa?", "a(a|aa)"},
		{"a+", "aa*", "a*a", "a{1,}", "a|a{2,}"},
		{"[ab]c|ac", "(a|b)c", "ac|bc"},
		{"^*a", "a|^a", "(^|)a", "^{0,1}a"},
		{"a$", "a$$", "a$+"},
		{"^", "^^", "^{2}", "^+"},
		{"^$", "^($)", "(^$|^()$)"},
		{"a^b", "(a)(^)b", "a(^b|^b)"},
		{"[^a]", "[\\x00-`b-\\xff]"},
	} {
		var first api.Dfa
		for k, p := range l {
			d := decided(t, p)
			least, e := Of(d)
			if k == 0 {
				first = least
			}
			if e != api.OK || !dfa.Same(least, first) {
				t.Errorf("%s is not %s: %s, %s", p, l[0], brief(least), brief(first))
			}
			wantModel(t, p, d)
		}
	}
	var built []api.Dfa
	unlike := []string{"", "a", "b", "aa", "a|b", "ab", "ba", "a*", "a+", "a?", "a{2,3}", "a{3}", "^a", "a$", "^a$", "^", "$", "^$", "$^", "(^|a)b", "[^a]", "[ab]*", "(ab)*", "a^b", "b$a", "[ab]c", "(a|bb)c"}
	for _, p := range unlike {
		d := decided(t, p)
		least, _ := Of(d)
		for j, other := range built {
			if m, _ := Of(other); dfa.Same(least, m) || alike(d, other) {
				t.Errorf("%s and %s: %s", unlike[j], p, brief(least))
			}
		}
		built = append(built, d)
	}
}

// TestManyPatterns holds patterns against others that are written of the same parts.
func TestManyPatterns(t *testing.T) { // P13.3
	next := generator()
	counts := map[bool]int{}
	for range 400 {
		x, y := mixedPattern(next, 2), mixedPattern(next, 2)
		for _, two := range [][2]string{
			{"(" + x + ")+", x + "(" + x + ")*"}, {"((" + x + ")*)*", "(" + x + ")*"}, {x + "|" + y, y + "|" + x}, {"(" + x + "){1,3}", "(" + x + ")((" + x + ")(" + x + ")?)?"},
			{"(" + x + "|" + y + ")*", "((" + x + ")*(" + y + ")*)*"}, {x + y, y + x}, {x + "|" + y, "(" + x + ")(" + y + ")?"}, {x, y},
		} {
			a, b := decided(t, two[0]), decided(t, two[1])
			m, _ := Of(a)
			n, _ := Of(b)
			is := alike(a, b)
			if dfa.Same(m, n) != is {
				t.Errorf("%s and %s accept the same words: %v: %s, %s", two[0], two[1], is, brief(m), brief(n))
			}
			counts[is]++
		}
	}
	if counts[true] < 500 || counts[false] < 500 {
		t.Errorf("%v", counts)
	}
}

func TestLengths(t *testing.T) { // P13.1, P13.2: each list alone is too short or too long
	for _, was := range some() {
		states, width := len(was.Accept), was.Width
		wantOne(t, "right", was, true)
		wantOne(t, "with room", roomy(was), true)
		for _, size := range []int{0, 1, 258, 260, 518} {
			d := was
			d.Class = append(copied(was).Class, make([]int, 5000)...)[:size]
			wantNotRight(t, "Class of another length", d)
		}
		for _, size := range []int{0, 1, states*width - 1, states*width + 1, (states - 1) * width, (states + 1) * width, states * (width - 1), states * (width + 1)} {
			d := was
			d.Next = append(copied(was).Next, make([]int, states*width+5000)...)[:size]
			wantOne(t, "Next of some length", d, size == states*width)
		}
		d := was
		d.Accept = nil
		wantNotRight(t, "no Accept", d)
		d.Next = nil
		wantNotRight(t, "no state", d)
		d.Start, d.Next = 0, []int{}
		wantNotRight(t, "no state, and from 0", d)
		d = was
		d.Start, d.Next = 0, make([]int, states*width)
		for _, size := range []int{states - 1, states + 1, 2 * states, 4097} {
			d.Accept = make([]bool, size)
			wantOne(t, "Accept of some length", d, size == states)
		}
	}
	for _, width := range []int{1, 2, 259} {
		wantNotRight(t, "too many states", wide(4097, width))
	}
	wantNotRight(t, "too many states", wide(1<<16, 1))
	wantNotRight(t, "nothing", api.Dfa{})
}

func TestWidths(t *testing.T) { // P13.1, P13.2: Width alone may not be
	for _, states := range []int{1, 2, 5} {
		for _, width := range []int{260, 261, 518} {
			wantNotRight(t, "too many classes", wide(states, width))
			// No symbol is in a class above the greatest that may be.
			wantNotRight(t, "too many classes", classed(wide(states, width), make([]int, 259)))
		}
	}
	for _, was := range some() {
		for _, width := range append(edges(), was.Width-1, was.Width+1, -was.Width) {
			d := was
			d.Width = width
			if width != was.Width {
				wantNotRight(t, "another width", d)
				wantNotRight(t, "another width, of one class", classed(d, make([]int, 259)))
			}
		}
	}
	// As many states times such a width go round to what Next has.
	for _, x := range [][2]int{{2, -1 << 63}, {4, 1 << 62}, {4, -1 << 62}, {4096, 1 << 52}, {4096, -1 << 52}} {
		wantNotRight(t, "a width that goes round", api.Dfa{Class: make([]int, 259), Width: x[1], Accept: make([]bool, x[0])})
		wantNotRight(t, "a width that goes round", api.Dfa{Class: make([]int, 259), Width: x[1] + 1, Accept: make([]bool, x[0]), Next: make([]int, x[0])})
	}
}

func TestEntries(t *testing.T) { // P13.1, P13.2: each entry alone may not be
	for _, was := range []api.Dfa{wide(1, 1), wide(1, 259), wide(3, 5), wide(7, 258), table(1, "0; 1 !")} {
		states, width := len(was.Accept), was.Width
		for _, x := range append(edges(), states-1, states, states+1, width-1, width, width+1) {
			for _, at := range []int{0, 1, 129, 255, 256, 257, 258} {
				d := copied(was)
				d.Class[at] = x
				wantOne(t, "a class", d, 0 <= x && x < width)
			}
			for _, at := range []int{0, width - 1, len(was.Next) / 2, len(was.Next) - width, len(was.Next) - 1} {
				d := copied(was)
				d.Next[at] = x
				wantOne(t, "an entry of Next", d, 0 <= x && x < states)
			}
			d := was
			d.Start = x
			wantOne(t, "Start", d, 0 <= x && x < states)
		}
	}
	// What may not be stands where nobody comes.
	d := classed(table(0, "0 1; 1 1 !; 0 2"), make([]int, 259))
	for at := range d.Next {
		for _, x := range []int{-1, 3} {
			e := copied(d)
			e.Next[at] = x
			wantNotRight(t, "an entry where nobody comes", e)
		}
	}
}

// TestRawAutomata has any fields.
func TestRawAutomata(t *testing.T) { // P1, P13.1, P13.2
	next := generator()
	right := 0
	for range 4000 {
		d := mixed(next, 1+next(4), 1+next(3), 2)
		for range next(3) {
			x := edges()[next(len(edges()))]
			switch next(8) {
			case 0:
				d.Start = x
			case 1:
				d.Width = x
			case 2:
				d.Class[next(259)] = x
			case 3:
				if len(d.Next) > 0 {
					d.Next[next(len(d.Next))] = x
				}
			case 4:
				d.Next = d.Next[:next(len(d.Next)+1)]
			case 5:
				d.Accept = d.Accept[:next(len(d.Accept)+1)]
			case 6:
				d.Accept = append(d.Accept, make([]bool, next(3))...)
			default:
				d.Next = append(d.Next, make([]int, next(3))...)
			}
		}
		if mayBe(d) {
			right++
			wantModel(t, "right", d)
		} else {
			wantNotRight(t, "not right", d)
		}
	}
	if right < 1000 || right > 3500 {
		t.Errorf("%d are right", right)
	}
}

func TestWhatIsHandedInStays(t *testing.T) { // P2, rules 3 and 4
	next := generator()
	l := append(some(), mixed(next, 20, 9, 3), mixed(next, 9, 259, 2), api.Dfa{}, api.Dfa{Class: []int{3, 1, 2}, Next: []int{5, 4}, Accept: []bool{true, false, true}, Width: 2})
	for _, was := range l {
		d := roomy(was)
		Blocks(d)
		Of(d)
		if !same(d, was) {
			t.Fatalf("%s is changed: %s", brief(was), brief(d))
		}
		// Nor is what lies behind the lists.
		class, to, accept := d.Class[len(d.Class):len(d.Class)+2], d.Next[len(d.Next):len(d.Next)+2], d.Accept[len(d.Accept):len(d.Accept)+2]
		if !slices.Equal(class, []int{-7, 7}) || !slices.Equal(to, []int{-7, 7}) || !slices.Equal(accept, []bool{true, false}) {
			t.Fatalf("%s: %v, %v, %v lie behind the lists", brief(was), class, to, accept)
		}
	}
	// What was handed in is not kept: it may be changed later.
	for _, d := range []api.Dfa{mixed(next, 20, 9, 3), leastOf(mixed(next, 20, 9, 3))} {
		want, wantCount := blocksOf(d)
		block, count := Blocks(d)
		least, _ := Of(d)
		model := leastOf(d)
		for s := range d.Accept {
			d.Accept[s] = !d.Accept[s]
		}
		for i := range d.Next {
			d.Next[i] = 0
		}
		for i := range d.Class {
			d.Class[i] = d.Width - 1
		}
		if !slices.Equal(block, want) || count != wantCount || !same(least, model) {
			t.Errorf("%v, %d, %s", block, count, brief(least))
		}
		wantModel(t, "what was changed", d)
	}
}

func TestAnswersAreNew(t *testing.T) { // P2, rule 4
	next := generator()
	d, other := mixed(next, 20, 9, 3), leastOf(mixed(next, 30, 5, 9))
	was, otherWas := copied(d), copied(other)
	for k := range 4 {
		for _, x := range []api.Dfa{d, other} {
			wantModel(t, "again", x)
			// What is answered may be written to, whole and into the room behind it.
			block, _ := Blocks(x)
			least, _ := Of(x)
			again, _ := Of(x)
			spoil(block, k)
			spoil(least.Class, -k)
			if !slices.Equal(least.Next, again.Next) || !slices.Equal(least.Accept, again.Accept) {
				t.Fatalf("Class shares what it has: %s", brief(least))
			}
			spoil(least.Next, -7)
			if !slices.Equal(least.Class, slices.Repeat([]int{-k}, 259)) || !slices.Equal(least.Accept, again.Accept) {
				t.Fatalf("Next shares what it has: %s", brief(least))
			}
			for i := range least.Accept[:cap(least.Accept)] {
				least.Accept[:cap(least.Accept)][i] = k%2 == 0
			}
			wantLeast(t, "another answer", x, again)
		}
		if !same(d, was) || !same(other, otherWas) {
			t.Fatalf("%d: %s, %s", k, brief(d), brief(other))
		}
		wantNotRight(t, "nothing", api.Dfa{})
	}
}

// spoil writes to a list, and into the room behind it.
func spoil(l []int, x int) {
	l = l[:cap(l)]
	for i := range l {
		l[i] = x
	}
}
