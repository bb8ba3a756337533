package dfa

import (
	"math"
	"slices"
	"testing"

	"tatting/api"
	"tatting/nfa"
	"tatting/parse"
	"tatting/subset"
)

// some are automata that are right, at the edges of what may be and between them.
func some() []api.Dfa {
	return []api.Dfa{
		wide(1, 1), wide(1, 259), wide(2, 1), wide(3, 5), wide(7, 258), wide(64, 259), wide(4095, 2), wide(4096, 1), wide(4096, 2),
		table(0, "0"), table(0, "0 !"), table(1, "0; 1 !"), table(1, "1 2 0; 0 1 1 !; 2 2 2"),
	}
}

// wantRight asks that an automaton is right, and that all calls speak of it.
func wantRight(t *testing.T, what string, d api.Dfa) {
	t.Helper()
	if !Right(d) {
		t.Fatalf("%s is not right: %s", what, brief(d))
	}
	for _, s := range []int{0, len(d.Accept) / 2, len(d.Accept) - 1, d.Start} {
		for _, sym := range []int{0, 97, 255, 256, 257, 258} {
			if to := Go(d, s, sym); to != d.Next[s*d.Width+d.Class[sym]] {
				t.Errorf("%s: from %d by %d to %d", what, s, sym, to)
			}
		}
		if to := Run(d, s, nil); to != s {
			t.Errorf("%s: from %d by nothing to %d", what, s, to)
		}
	}
	if is := Accepts(d, nil); is != d.Accept[d.Start] {
		t.Errorf("%s accepts nothing: %v", what, is)
	}
	if live, reached := Live(d), Reach(d); len(live) != len(d.Accept) || len(reached) != len(d.Accept) || !reached[d.Start] {
		t.Errorf("%s: %d of Live, %d of Reach", what, len(live), len(reached))
	}
}

// wantNotRight asks that an automaton is not right, and that no call speaks of it.
func wantNotRight(t *testing.T, what string, d api.Dfa) {
	t.Helper()
	if Right(d) {
		t.Errorf("%s is right: %s", what, brief(d))
	}
	for _, s := range []int{0, 1, -1, d.Start, len(d.Accept) - 1, len(d.Accept), math.MinInt, math.MaxInt} {
		for _, sym := range []int{0, 97, 255, 256, 258, -1, 259, math.MinInt, math.MaxInt} {
			if to := Go(d, s, sym); to != -1 {
				t.Errorf("%s: from %d by %d to %d", what, s, sym, to)
			}
		}
		for _, word := range [][]int{nil, {}, {0}, {258}, {97, 98, 99}, {-1}, {0, 259, 0}} {
			if to := Run(d, s, word); to != -1 {
				t.Errorf("%s: from %d by %v to %d", what, s, word, to)
			}
		}
	}
	for _, word := range [][]int{nil, {}, {0}, {258}, {97, 98, 99}, {-1}, {0, 259, 0}} {
		if Accepts(d, word) {
			t.Errorf("%s accepts %v", what, word)
		}
	}
	if live, reached := Live(d), Reach(d); len(live) != 0 || len(reached) != 0 {
		t.Errorf("%s: %d of Live, %d of Reach", what, len(live), len(reached))
	}
}

// wantOne asks for what is told of an automaton that is right, or of one that is not.
func wantOne(t *testing.T, what string, d api.Dfa, right bool) {
	t.Helper()
	if right {
		wantRight(t, what, d)
	} else {
		wantNotRight(t, what, d)
	}
}

func TestExample(t *testing.T) { // P12.3
	if l, ok := Word("ab", 0, 1); !ok || !slices.Equal(l, []int{api.Begin, 'a'}) {
		t.Errorf("%v, %v", l, ok)
	}
}

func TestRight(t *testing.T) { // P12.1
	for _, d := range some() {
		wantRight(t, brief(d), d)
		wantRight(t, "with room", roomy(d))
		for _, start := range []int{0, len(d.Accept) / 2, len(d.Accept) - 1} {
			d.Start = start
			wantRight(t, "from elsewhere", d)
		}
	}
	for width := 1; width <= 259; width++ {
		wantRight(t, "of some width", wide(3, width))
	}
	for states := 1; states <= 4096; states += 195 {
		wantRight(t, "of some states", wide(states, 2))
	}
	wantRight(t, "the greatest one", wide(4096, 259))
	// All states accept, none does; no class but 0 is one of a symbol.
	wantRight(t, "none accepts", table(1, "1 0 1; 0 1 1; 2 2 2"))
	wantRight(t, "all accept", table(1, "1 0 1 !; 0 1 1 !; 2 2 2 !"))
	d := table(1, "1 0 1; 0 1 1; 2 2 2")
	d.Class = make([]int, 259)
	wantRight(t, "one class", d)
}

func TestLengths(t *testing.T) { // P12.1: each list alone is too short or too long
	for _, was := range some() {
		states, width := len(was.Accept), was.Width
		for _, size := range []int{0, 1, 2, 100, 255, 256, 258, 260, 261, 518, 4096} {
			d := was
			d.Class = append(copied(was).Class, make([]int, 5000)...)[:size]
			wantNotRight(t, "Class of another length", d)
		}
		for _, size := range []int{0, 1, states, states*width - 1, states*width + 1, (states - 1) * width, (states + 1) * width, states * (width - 1), states * (width + 1), 2 * states * width} {
			d := was
			d.Next = append(copied(was).Next, make([]int, states*width+5000)...)[:size]
			wantOne(t, "Next of some length", d, size == states*width)
		}
		d := was
		d.Class = nil
		wantNotRight(t, "no Class", d)
		d = was
		d.Next = nil
		wantNotRight(t, "no Next", d)
		d = was
		d.Accept = nil
		wantNotRight(t, "no Accept", d)
		d.Next = nil
		wantNotRight(t, "no state", d)
		d.Start, d.Next = 0, []int{}
		wantNotRight(t, "no state, and from 0", d)
		// More or fewer states than Next speaks of; where it goes is there, for Start, too.
		d = was
		d.Start, d.Next = 0, make([]int, states*width)
		for _, size := range []int{states - 1, states + 1, 2 * states, 4096, 4097} {
			d.Accept = make([]bool, size)
			wantOne(t, "Accept of some length", d, size == states)
		}
	}
	for _, width := range []int{1, 2, 259} {
		wantNotRight(t, "too many states", wide(4097, width))
	}
	for _, states := range []int{4098, 5000, 8192, 1 << 16} {
		wantNotRight(t, "too many states", wide(states, 1))
	}
	wantNotRight(t, "nothing", api.Dfa{})
}

func TestWidths(t *testing.T) { // P12.1
	for _, states := range []int{1, 2, 3, 5, 4096} {
		for _, width := range []int{260, 261, 300, 518} {
			d := wide(states, width)
			wantNotRight(t, "too many classes", d)
			// No symbol is in a class above the greatest that may be.
			d.Class = make([]int, 259)
			wantNotRight(t, "too many classes", d)
		}
	}
	for _, was := range some() {
		for _, width := range append(edges(), was.Width-1, was.Width+1, -was.Width) {
			d := was
			d.Width = width
			wantOne(t, "another width", d, width == was.Width)
			d.Class = make([]int, 259)
			wantOne(t, "another width, of one class", d, width == was.Width)
			d.Next = nil
			wantNotRight(t, "another width, without Next", d)
			d.Class = nil
			wantNotRight(t, "another width, without lists", d)
		}
	}
	// As many states times such a width go round to what Next has.
	for _, x := range [][2]int{{2, math.MinInt}, {4, 1 << 62}, {4, -1 << 62}, {4096, 1 << 52}, {4096, -1 << 52}, {1024, 1 << 54}} {
		wantNotRight(t, "a width that goes round", api.Dfa{Class: make([]int, 259), Width: x[1], Accept: make([]bool, x[0])})
		wantNotRight(t, "a width that goes round", api.Dfa{Class: make([]int, 259), Width: x[1] + 1, Accept: make([]bool, x[0]), Next: make([]int, x[0])})
	}
}

func TestEntries(t *testing.T) { // P12.1: each entry alone
	for _, was := range some() {
		states, width := len(was.Accept), was.Width
		for _, x := range append(edges(), states-1, states, states+1, width-1, width, width+1) {
			for _, at := range []int{0, 1, 129, 255, 256, 257, 258} {
				d := copied(was)
				d.Class[at] = x
				wantOne(t, "a class", d, 0 <= x && x < width)
			}
			for _, at := range []int{0, width - 1, len(was.Next) / 2, len(was.Next) - width, len(was.Next) - 1} {
				d := copied(was)
				d.Next[at] = x
				wantOne(t, "an entry of Next", d, 0 <= x && x < states)
			}
			d := was
			d.Start = x
			wantOne(t, "Start", d, 0 <= x && x < states)
		}
	}
	// Each place of both lists.
	was := wide(5, 7)
	for _, x := range []int{-1, 0, 4, 5, 6, 7} {
		for at := range was.Class {
			d := copied(was)
			d.Class[at] = x
			wantOne(t, "a class", d, 0 <= x && x < 7)
		}
		for at := range was.Next {
			d := copied(was)
			d.Next[at] = x
			wantOne(t, "an entry of Next", d, 0 <= x && x < 5)
		}
	}
}

// TestRawAutomata: any fields end without a panic.
func TestRawAutomata(t *testing.T) { // P1, P12.1, P12.2, P12.4
	next := generator()
	right := 0
	for range 4000 {
		d := mixed(next, 1+next(4), 1+next(3), 2)
		was := copied(d)
		for range next(3) {
			x := edges()[next(len(edges()))]
			switch next(8) {
			case 0:
				d.Start = x
			case 1:
				d.Width = x
			case 2:
				d.Class[next(259)] = x
			case 3:
				if len(d.Next) > 0 {
					d.Next[next(len(d.Next))] = x
				}
			case 4:
				d.Next = d.Next[:next(len(d.Next)+1)]
			case 5:
				d.Accept = d.Accept[:next(len(d.Accept)+1)]
			case 6:
				d.Accept = append(d.Accept, make([]bool, next(3))...)
			default:
				d.Next = append(d.Next, make([]int, next(3))...)
			}
		}
		wantOne(t, brief(d), d, mayBe(d))
		if Right(d) {
			right++
		}
		if is := entries(d) == entries(was); Same(d, was) != is || Same(was, d) != is || !Same(d, d) {
			t.Errorf("%s and %s are not told to be the same: %v", brief(d), brief(was), is)
		}
	}
	if right < 1000 || right > 3500 {
		t.Errorf("%d are right", right)
	}
}

func TestGoByHand(t *testing.T) { // P12.2
	// a leads from 0 to 1 and from there to 2, b back to 0, other bytes nowhere but to themselves; the ends have a class of their own each.
	d := api.Dfa{Width: 6, Start: 1, Next: []int{
		0, 1, 0, 2, 0, 1,
		1, 2, 0, 0, 2, 1,
		2, 2, 0, 1, 1, 0,
	}, Accept: []bool{false, false, true}}
	for sym := range 259 {
		d.Class = append(d.Class, map[int]int{'a': 1, 'b': 2, api.Begin: 3, api.End: 4, api.Both: 5}[sym])
	}
	for sym, want := range map[int][]int{
		'a': {1, 2, 2}, 'b': {0, 0, 0}, 'c': {0, 1, 2}, 0: {0, 1, 2}, 255: {0, 1, 2}, '`': {0, 1, 2},
		api.Begin: {2, 0, 1}, api.End: {0, 2, 1}, api.Both: {1, 1, 0},
	} {
		for s, to := range want {
			if k := Go(d, s, sym); k != to {
				t.Errorf("from %d by %d to %d, not %d", s, sym, k, to)
			}
		}
	}
	for _, x := range []struct {
		s    int
		word []int
		to   int
	}{
		{0, nil, 0}, {1, nil, 1}, {2, []int{}, 2}, {0, []int{'a'}, 1}, {0, []int{'a', 'a'}, 2}, {0, []int{'a', 'c', 'a', 'b'}, 0}, {1, []int{'b', 'a'}, 1}, {1, []int{'a', 'b'}, 0},
		{0, []int{api.Begin, 'c', api.End}, 1}, {2, []int{api.Both}, 0}, {1, []int{api.Begin}, 0}, {1, []int{api.End}, 2}, {0, []int{api.Begin, api.Begin}, 1}, {0, []int{api.End, api.Begin}, 2}, {0, []int{255, 0, 'a'}, 1},
	} {
		if to := Run(d, x.s, x.word); to != x.to {
			t.Errorf("from %d by %v to %d, not %d", x.s, x.word, to, x.to)
		}
	}
	for _, x := range []struct {
		word []int
		is   bool
	}{
		{nil, false}, {[]int{'a'}, true}, {[]int{'b'}, false}, {[]int{'b', 'a'}, false}, {[]int{'b', 'a', 'a'}, true}, {[]int{api.End}, true}, {[]int{api.Begin}, false}, {[]int{api.Begin, 'a', 'a', api.End}, false}, {[]int{api.Both, 'a', 'c'}, true},
		{[]int{'a', 259}, false}, {[]int{-1, 'a'}, false}, {[]int{'a', -1, 'a'}, false},
	} {
		if is := Accepts(d, x.word); is != x.is {
			t.Errorf("%v: %v", x.word, is)
		}
	}
}

func TestEachStateBySymbol(t *testing.T) { // P12.2
	next := generator()
	for _, d := range append(some(), mixed(next, 9, 4, 2), mixed(next, 30, 259, 2)) {
		for _, s := range []int{0, 1, 2, len(d.Accept) / 2, len(d.Accept) - 2, len(d.Accept) - 1} {
			for sym := range 259 {
				if s < 0 || s >= len(d.Accept) {
					continue
				}
				want := d.Next[s*d.Width+d.Class[sym]]
				if to := Go(d, s, sym); to != want {
					t.Errorf("from %d by %d to %d, not %d", s, sym, to, want)
				}
				if to := Run(d, s, []int{sym}); to != want {
					t.Errorf("from %d by %d alone to %d, not %d", s, sym, to, want)
				}
			}
		}
	}
	d := mixed(next, 40, 11, 2)
	for s := range 40 {
		for sym := range 259 {
			if to := Go(d, s, sym); to != d.Next[s*11+d.Class[sym]] {
				t.Errorf("from %d by %d to %d", s, sym, to)
			}
		}
	}
}

func TestNoSuchStateOrSymbol(t *testing.T) { // P12.2
	for _, d := range some() {
		states := len(d.Accept)
		for _, s := range append(edges(), -states, states-1, states, states+1, 2*states) {
			for _, sym := range append(edges(), d.Width, -d.Width) {
				isState, isSymbol := 0 <= s && s < states, 0 <= sym && sym < 259
				want := -1
				if isState && isSymbol {
					want = d.Next[s*d.Width+d.Class[sym]]
				}
				if to := Go(d, s, sym); to != want {
					t.Errorf("from %d by %d to %d, not %d", s, sym, to, want)
				}
				if to := Run(d, s, []int{sym}); to != want {
					t.Errorf("from %d by %d alone to %d, not %d", s, sym, to, want)
				}
			}
			want := -1
			if 0 <= s && s < states {
				want = s
			}
			if to, other := Run(d, s, nil), Run(d, s, []int{}); to != want || other != want {
				t.Errorf("from %d by nothing to %d, %d", s, to, other)
			}
		}
	}
}

// TestNoSymbol has words with one that is none, at each place.
func TestNoSymbol(t *testing.T) { // P12.2
	// Each state accepts, and each goes to each.
	d := table(2, "0 1 2 !; 1 2 0 !; 2 0 1 !")
	right := []int{'a', 0, api.Begin, 255, api.End, api.Both, 'b'}
	for s := range 3 {
		if to := Run(d, s, right); to < 0 {
			t.Errorf("from %d to %d", s, to)
		}
	}
	if !Accepts(d, right) {
		t.Errorf("%v is not accepted", right)
	}
	for at := range right {
		for _, sym := range edges() {
			word := slices.Clone(right)
			word[at] = sym
			is := 0 <= sym && sym < 259
			for s := range 3 {
				if to := Run(d, s, word); (to >= 0) != is || to < -1 {
					t.Errorf("from %d by %v to %d", s, word, to)
				}
			}
			if Accepts(d, word) != is {
				t.Errorf("%v: %v", word, !is)
			}
		}
	}
}

// TestWords has words of many symbols, which lead where Go leads symbol by symbol.
func TestWords(t *testing.T) { // P12.2
	next := generator()
	counts := map[bool]int{}
	for range 2000 {
		d := mixed(next, 1+next(20), 1+next(8), 3)
		if !Right(d) {
			t.Fatalf("%s is not right", brief(d))
		}
		for range 5 {
			s := next(len(d.Accept))
			at, from := s, d.Start
			var word []int
			for range next(12) {
				sym := next(259)
				word = append(word, sym)
				at, from = d.Next[at*d.Width+d.Class[sym]], Go(d, from, sym)
			}
			if to := Run(d, s, word); to != at {
				t.Errorf("%s: from %d by %v to %d, not %d", brief(d), s, word, to, at)
			}
			if is := Accepts(d, word); is != d.Accept[from] {
				t.Errorf("%s: %v is accepted: %v", brief(d), word, is)
			}
			counts[d.Accept[from]]++
		}
	}
	if counts[true] < 2000 || counts[false] < 2000 {
		t.Errorf("%v", counts)
	}
	// A ring, gone around again and again.
	ring := api.Dfa{Class: make([]int, 259), Width: 1}
	for s := range 4096 {
		ring.Next = append(ring.Next, (s+1)%4096)
		ring.Accept = append(ring.Accept, s == 100)
	}
	for _, k := range []int{0, 1, 99, 100, 101, 4095, 4096, 4196, 100000, 1 << 20} {
		if to := Run(ring, 7, make([]int, k)); to != (7+k)%4096 {
			t.Errorf("by %d from 7 to %d", k, to)
		}
		if is := Accepts(ring, make([]int, k)); is != (k%4096 == 100) {
			t.Errorf("by %d: %v", k, is)
		}
	}
}

// wantWays asks for what Live and Reach tell, as signs: x of those that are.
func wantWays(t *testing.T, what string, d api.Dfa, live, reached string) {
	t.Helper()
	signs := func(l []bool) string {
		var p []byte
		for _, is := range l {
			p = append(p, map[bool]byte{true: 'x', false: '.'}[is])
		}
		return string(p)
	}
	if p := signs(Live(d)); p != live {
		t.Errorf("Live of %s: %s, not %s", what, p, live)
	}
	if p := signs(Reach(d)); p != reached {
		t.Errorf("Reach of %s: %s, not %s", what, p, reached)
	}
}

func TestLiveAndReachByHand(t *testing.T) { // P12.2
	for _, x := range []struct {
		start         int
		rows          string
		live, reached string
	}{
		// One state.
		{0, "0", ".", "x"}, {0, "0 !", "x", "x"}, {0, "0 0 0", ".", "x"},
		// None accepts, all do.
		{0, "1; 2; 0", "...", "xxx"}, {1, "1; 2; 0", "...", "xxx"}, {2, "0 !; 0 !; 2 !", "xxx", "..x"},
		// States that only come to themselves.
		{0, "0; 1; 2", "...", "x.."}, {1, "0; 1 !; 2", ".x.", ".x."}, {2, "0 !; 1; 2", "x..", "..x"},
		// Chains, up and down, from each end and from the midst.
		{0, "1; 2; 3; 3 !", "xxxx", "xxxx"}, {2, "1; 2; 3; 3 !", "xxxx", "..xx"}, {3, "1; 2; 3; 3 !", "xxxx", "...x"}, {0, "1; 2 !; 3; 3", "xx..", "xxxx"}, {1, "1 !; 2; 3; 3", "x...", ".xxx"},
		{3, "0 !; 0; 1; 2", "xxxx", "xxxx"}, {1, "0 !; 0; 1; 2", "xxxx", "xx.."}, {3, "0; 0; 1 !; 2", "..xx", "xxxx"}, {0, "0; 0; 1; 2 !", "...x", "x..."},
		// Rings, whole and with a way into them and out of them.
		{1, "1; 2; 0 !", "xxx", "xxx"}, {2, "2; 0; 1 !", "xxx", "xxx"}, {3, "1; 2; 0 !; 1", "xxxx", "xxxx"}, {0, "1; 2; 0 !; 1", "xxxx", "xxx."}, {1, "1 1; 2 3; 0 0; 3 3 !", "xxxx", "xxxx"}, {3, "1 1; 2 3; 0 0 !; 3 3", "xxx.", "...x"},
		// The way goes by the first class alone, by the last one, by one in the midst.
		{0, "1 0 0; 1 1 1 !", "xx", "xx"}, {0, "0 0 1; 1 1 1 !", "xx", "xx"}, {0, "0 1 0; 1 1 1 !", "xx", "xx"}, {1, "0 1 0; 1 1 1 !", "xx", ".x"}, {1, "0 0 0 !; 1 1 0", "xx", "xx"}, {1, "0 0 0 !; 0 1 1", "xx", "xx"},
		// Two parts with no way between them.
		{0, "1 0; 0 1 !; 3 2; 2 3", "xx..", "xx.."}, {3, "1 0; 0 1 !; 3 2; 2 3", "xx..", "..xx"}, {2, "2 0; 3 1 !; 0 2; 1 3", ".x.x", "x.x."}, {1, "2 0; 3 1; 0 2 !; 1 3", "x.x.", ".x.x"},
		// Two that accept, of which one is not reached.
		{1, "0 0 !; 2 3; 2 2 !; 3 3", "xxx.", ".xxx"},
		// What is reached through many others, up and down.
		{4, "6; 0 !; 1; 2; 5; 3; 6", ".xxxxx.", "xxxxxxx"},
	} {
		wantWays(t, x.rows, table(x.start, x.rows), x.live, x.reached)
	}
}

// TestClassesWithoutSymbols: a class in which no symbol is leads nowhere.
func TestClassesWithoutSymbols(t *testing.T) { // P12.2
	for class := range 3 {
		d := table(0, "1 2 3; 1 1 1 !; 2 2 2 !; 3 3 3 !; 0 0 0")
		d.Class = slices.Repeat([]int{class}, 259)
		wantWays(t, "one class alone", d, "xxxxx", []string{"xx...", "x.x..", "x..x."}[class])
		d.Accept = []bool{false, true, false, false, false}
		wantWays(t, "one class alone", d, []string{"xx..x", ".x...", ".x..."}[class], []string{"xx...", "x.x..", "x..x."}[class])
		d.Accept = []bool{false, false, false, true, false}
		wantWays(t, "one class alone", d, []string{"...x.", "...x.", "x..xx"}[class], []string{"xx...", "x.x..", "x..x."}[class])
		// One symbol, the first one or the last one, in the midst of the others.
		for _, sym := range []int{0, 1, 200, 255, 256, 257, 258} {
			d.Class = slices.Repeat([]int{2}, 259)
			d.Class[sym] = class
			wantWays(t, "one symbol of a class", d, "x..xx", []string{"xx.x.", "x.xx.", "x..x."}[class])
		}
	}
}

// wantModel asks for what the models tell of the ways between states.
func wantModel(t *testing.T, what string, d api.Dfa) {
	t.Helper()
	if live, want := Live(d), alive(d); !slices.Equal(live, want) {
		t.Errorf("Live of %s: %v, not %v", what, live, want)
	}
	if reached, want := Reach(d), ways(d)[d.Start]; !slices.Equal(reached, want) {
		t.Errorf("Reach of %s: %v, not %v", what, reached, want)
	}
}

// wantFollowing asks for what follows: that no symbol leads from what is not alive to what is, nor from what is reached to what is not.
func wantFollowing(t *testing.T, what string, d api.Dfa) {
	t.Helper()
	live, reached := Live(d), Reach(d)
	if !reached[d.Start] {
		t.Errorf("%s: %d, from which one goes, is not reached", what, d.Start)
	}
	for s := range d.Accept {
		if d.Accept[s] && !live[s] {
			t.Errorf("%s: %d accepts, and is not alive", what, s)
		}
		onward := d.Accept[s]
		for sym := range 259 {
			to := d.Next[s*d.Width+d.Class[sym]]
			onward = onward || live[to]
			if !live[s] && live[to] {
				t.Errorf("%s: from %d, which is not alive, by %d to %d, which is", what, s, sym, to)
			}
			if reached[s] && !reached[to] {
				t.Errorf("%s: from %d, which is reached, by %d to %d, which is not", what, s, sym, to)
			}
		}
		if live[s] != onward {
			t.Errorf("%s: %d is alive: %v", what, s, live[s])
		}
	}
}

func TestMixed(t *testing.T) { // P12.2, P12.5
	next := generator()
	counts := map[string]int{}
	for k := range 1500 {
		d := mixed(next, 1+next(14), []int{1, 2, 3, 40}[k%4], 1+next(9))
		// Of some automata most symbols are in one class, so that there are classes without any.
		if next(3) == 0 {
			copy(d.Class, slices.Repeat(d.Class[:1], 257))
		}
		wantModel(t, brief(d), d)
		wantFollowing(t, brief(d), d)
		for _, is := range Live(d) {
			counts[map[bool]string{true: "alive", false: "not alive"}[is]]++
		}
		for _, is := range Reach(d) {
			counts[map[bool]string{true: "reached", false: "not reached"}[is]]++
		}
	}
	for _, what := range []string{"alive", "not alive", "reached", "not reached"} {
		if counts[what] < 1000 {
			t.Errorf("only %d are %s", counts[what], what)
		}
	}
	for _, d := range some() {
		wantFollowing(t, brief(d), d)
	}
}

// wantAll asks for what is told of each state by a function.
func wantAll(t *testing.T, what string, l []bool, size int, want func(s int) bool) {
	t.Helper()
	if len(l) != size {
		t.Fatalf("%s: %d", what, len(l))
	}
	for s, is := range l {
		if is != want(s) {
			t.Fatalf("%s, %d: %v", what, s, is)
		}
	}
}

// TestGreatAutomata has as many states as may be, and ways through all of them.
func TestGreatAutomata(t *testing.T) { // P12.2, P12.5
	const size = 4096
	for _, width := range []int{1, 2, 259} {
		up, down, alone := wide(size, width), wide(size, width), wide(size, width)
		for i := range up.Next {
			s := i / width
			up.Next[i], down.Next[i], alone.Next[i] = min(s+1, size-1), max(s-1, 0), s
		}
		for _, at := range []int{0, 1, size / 2, size - 2, size - 1} {
			one := make([]bool, size)
			one[at] = true
			for _, start := range []int{0, 1, at, size/2 + 1, size - 1} {
				up.Start, down.Start, alone.Start = start, start, start
				up.Accept, down.Accept, alone.Accept = one, one, one
				wantAll(t, "Live, up", Live(up), size, func(s int) bool { return s <= at })
				wantAll(t, "Live, down", Live(down), size, func(s int) bool { return s >= at })
				wantAll(t, "Live, alone", Live(alone), size, func(s int) bool { return s == at })
				wantAll(t, "Reach, up", Reach(up), size, func(s int) bool { return s >= start })
				wantAll(t, "Reach, down", Reach(down), size, func(s int) bool { return s <= start })
				wantAll(t, "Reach, alone", Reach(alone), size, func(s int) bool { return s == start })
			}
		}
	}
	ring := wide(size, 3)
	for i := range ring.Next {
		ring.Next[i] = (i/3 + 1 + 2*(i%3)) % size
	}
	for _, accept := range []bool{false, true} {
		ring.Accept = slices.Repeat([]bool{accept}, size)
		wantAll(t, "Live of a ring", Live(ring), size, func(int) bool { return accept })
		wantAll(t, "Reach of a ring", Reach(ring), size, func(int) bool { return true })
	}
	// All go to one, and one to all.
	star := wide(size, 259)
	for i := range star.Next {
		star.Next[i] = 2000
	}
	star.Accept = make([]bool, size)
	star.Accept[2000] = true
	wantAll(t, "Live of a star", Live(star), size, func(int) bool { return true })
	wantAll(t, "Reach of a star", Reach(star), size, func(s int) bool { return s == 2000 || s == size-1 })
	star.Accept[2000], star.Accept[3000] = false, true
	wantAll(t, "Live of a star", Live(star), size, func(s int) bool { return s == 3000 })
	star.Next[1000*259+258] = 3000
	wantAll(t, "Live of a star", Live(star), size, func(s int) bool { return s == 3000 || s == 1000 })
	for sym := range 259 {
		star.Next[2000*259+sym] = sym
	}
	wantAll(t, "Reach of a star", Reach(star), size, func(s int) bool { return s == 2000 || s == size-1 || s < 259 })
}

// wantWord asks for the symbols of a part of a text; or for none, if it is no part of it.
func wantWord(t *testing.T, text string, i, j int) {
	t.Helper()
	var want []int
	is := 0 <= i && i <= j && j <= len(text)
	if is {
		want = symbols(text, i, j)
	}
	if l, ok := Word(text, i, j); !slices.Equal(l, want) || ok != is {
		t.Errorf("Word(%q, %d, %d): %v, %v", text, i, j, l, ok)
	}
}

func TestWordByHand(t *testing.T) { // P12.3
	for _, x := range []struct {
		text string
		i, j int
		want []int
	}{
		{"", 0, 0, []int{api.Both}},
		{"a", 0, 0, []int{api.Begin}}, {"a", 0, 1, []int{api.Begin, 'a', api.End}}, {"a", 1, 1, []int{api.End}},
		{"ab", 0, 1, []int{api.Begin, 'a'}}, {"ab", 1, 1, nil}, {"ab", 1, 2, []int{'b', api.End}}, {"ab", 0, 2, []int{api.Begin, 'a', 'b', api.End}}, {"ab", 2, 2, []int{api.End}}, {"ab", 0, 0, []int{api.Begin}},
		{"abcd", 1, 3, []int{'b', 'c'}}, {"abcd", 3, 3, nil}, {"abcd", 1, 4, []int{'b', 'c', 'd', api.End}},
		{"\x00\xff", 0, 2, []int{api.Begin, 0, 255, api.End}}, {"\xff\x00\x80\x7f\n", 1, 4, []int{0, 128, 127}}, {"é", 0, 2, []int{api.Begin, 0xc3, 0xa9, api.End}}, {"xé", 1, 2, []int{0xc3}}, {"\xe2\x82", 0, 2, []int{api.Begin, 0xe2, 0x82, api.End}},
	} {
		if l, ok := Word(x.text, x.i, x.j); !ok || !slices.Equal(l, x.want) {
			t.Errorf("Word(%q, %d, %d): %v, %v", x.text, x.i, x.j, l, ok)
		}
	}
	for _, x := range [][2]int{{-1, 0}, {-1, -1}, {0, -1}, {0, 3}, {1, 3}, {2, 3}, {3, 3}, {2, 1}, {1, 0}, {2, 0}, {-1, 2}, {3, 2}, {math.MinInt, math.MaxInt}, {math.MaxInt, math.MinInt}, {math.MaxInt, math.MaxInt}, {math.MinInt, math.MinInt}, {0, math.MaxInt}, {math.MinInt, 0}} {
		if l, ok := Word("ab", x[0], x[1]); ok || len(l) != 0 {
			t.Errorf("Word of ab from %d to %d: %v, %v", x[0], x[1], l, ok)
		}
	}
	for _, x := range [][2]int{{0, 1}, {1, 1}, {-1, 0}, {1, 0}, {0, -1}, {-1, -1}, {math.MinInt, 0}, {0, math.MaxInt}, {math.MaxInt, math.MaxInt}} {
		if l, ok := Word("", x[0], x[1]); ok || len(l) != 0 {
			t.Errorf("Word of nothing from %d to %d: %v, %v", x[0], x[1], l, ok)
		}
	}
}

func TestWordsOfTexts(t *testing.T) { // P1, P12.3
	var all []byte
	for b := range 256 {
		all = append(all, byte(b))
	}
	for _, text := range append(textsOf("a\x00\xff", 4), "abcdefgh", "日本") {
		for i := -2; i <= len(text)+2; i++ {
			for j := -2; j <= len(text)+2; j++ {
				wantWord(t, text, i, j)
			}
		}
		for _, i := range edges() {
			for _, j := range edges() {
				wantWord(t, text, i, j)
			}
		}
	}
	text := string(all)
	for i := range 257 {
		wantWord(t, text, i, i)
		wantWord(t, text, i, i+1)
		wantWord(t, text, i, 256)
		wantWord(t, text, 0, i)
		wantWord(t, text, i, i-1)
	}
	great := string(slices.Repeat([]byte("ab\x00\xff"), 1<<18))
	for _, x := range [][2]int{{0, 1 << 20}, {0, 1<<20 - 1}, {1, 1 << 20}, {1, 1<<20 - 1}, {1 << 20, 1 << 20}, {0, 1<<20 + 1}} {
		is := x[1] <= 1<<20
		if l, ok := Word(great, x[0], x[1]); ok != is || is && !slices.Equal(l, symbols(great, x[0], x[1])) {
			t.Errorf("from %d to %d: %d, %v", x[0], x[1], len(l), ok)
		}
	}
}

// TestWordsAreAccepted holds Accepts of Word against what fits a pattern.
func TestWordsAreAccepted(t *testing.T) { // P12.2, P12.3
	counts := map[bool]int{}
	for _, p := range []string{"", "a", "ab|b", "(ab)*", "^a*", "b$", "^$", "^", "$", "(^|a)b", "a(b|$)", "[^a]b?", "(^a|b$)", "\\x00+"} {
		l, _, e := parse.Pattern(p)
		n, f := nfa.Build(l)
		d, g := subset.Build(n, 100)
		if e != api.OK || f != api.OK || g != api.OK || !Right(d) {
			t.Fatalf("%s: %d, %d, %d", p, e, f, g)
		}
		for _, text := range append(textsOf("ab", 4), "\x00a", "\xff\x00\x00") {
			for i := range len(text) + 1 {
				for j := i; j <= len(text); j++ {
					w, ok := Word(text, i, j)
					fits := nfa.Fits(n, text, i, j)
					if !ok || Accepts(d, w) != fits {
						t.Errorf("%s: from %d to %d of %q: %v, %v", p, i, j, text, w, ok)
					}
					counts[fits]++
				}
			}
		}
	}
	if counts[true] < 100 || counts[false] < 100 {
		t.Errorf("%v", counts)
	}
}

// wantSame asks whether two automata are the same, either way round.
func wantSame(t *testing.T, what string, a, b api.Dfa, is bool) {
	t.Helper()
	if Same(a, b) != is || Same(b, a) != is {
		t.Errorf("%s: Same of %s, and %s: %v, %v", what, brief(a), brief(b), Same(a, b), Same(b, a))
	}
}

func TestSame(t *testing.T) { // P12.4
	l := append(some(), wide(3, 4), wide(4, 3), wide(2, 6), wide(6, 2))
	for _, a := range l {
		wantSame(t, "itself", a, a, true)
		wantSame(t, "a copy", a, copied(a), true)
		wantSame(t, "with room", a, roomy(a), true)
		wantSame(t, "with room twice", roomy(a), roomy(a), true)
		wantSame(t, "nothing", a, api.Dfa{}, false)
		for _, b := range l {
			wantSame(t, "another one", a, b, entries(a) == entries(b))
		}
	}
}

func TestSameButOne(t *testing.T) { // P12.4
	for _, a := range []api.Dfa{wide(1, 1), wide(1, 259), wide(3, 5), wide(4096, 2)} {
		for _, at := range []int{0, 1, 100, 255, 256, 257, 258} {
			for _, x := range edges() {
				b := copied(a)
				b.Class[at] = x
				wantSame(t, "a class", a, b, x == a.Class[at])
			}
		}
		for _, at := range []int{0, a.Width - 1, len(a.Next) / 2, len(a.Next) - 1} {
			for _, x := range edges() {
				b := copied(a)
				b.Next[at] = x
				wantSame(t, "an entry of Next", a, b, x == a.Next[at])
			}
		}
		for _, at := range []int{0, len(a.Accept) / 2, len(a.Accept) - 1} {
			b := copied(a)
			b.Accept[at] = !b.Accept[at]
			wantSame(t, "an entry of Accept", a, b, false)
		}
		for _, x := range edges() {
			b := a
			b.Width = x
			wantSame(t, "Width", a, b, x == a.Width)
			b = a
			b.Start = x
			wantSame(t, "Start", a, b, x == a.Start)
		}
	}
	a := wide(4, 3)
	for at := range a.Class {
		b := copied(a)
		b.Class[at]++
		wantSame(t, "a class", a, b, false)
	}
	for at := range a.Next {
		b := copied(a)
		b.Next[at]--
		wantSame(t, "an entry of Next", a, b, false)
	}
	for at := range a.Accept {
		b := copied(a)
		b.Accept[at] = !b.Accept[at]
		wantSame(t, "an entry of Accept", a, b, false)
	}
}

// TestSameOfBeginnings has lists of which one is the beginning of the other one, or is none.
func TestSameOfBeginnings(t *testing.T) { // P12.4
	a := wide(4, 3)
	for _, k := range []int{0, 1, 2, 3} {
		b := a
		b.Class = a.Class[:len(a.Class)-k]
		wantSame(t, "a beginning of Class", a, b, k == 0)
		b = a
		b.Next = a.Next[:len(a.Next)-k]
		wantSame(t, "a beginning of Next", a, b, k == 0)
		b = a
		b.Accept = a.Accept[:len(a.Accept)-k]
		wantSame(t, "a beginning of Accept", a, b, k == 0)
	}
	b := a
	b.Class = nil
	wantSame(t, "no Class", a, b, false)
	c := b
	c.Class = []int{}
	wantSame(t, "no Class in both", b, c, true)
	b = a
	b.Next = nil
	wantSame(t, "no Next", a, b, false)
	c = b
	c.Next = []int{}
	wantSame(t, "no Next in both", b, c, true)
	b = a
	b.Accept = nil
	wantSame(t, "no Accept", a, b, false)
	c = b
	c.Accept = []bool{}
	wantSame(t, "no Accept in both", b, c, true)
	// An end of a list is not its beginning.
	b, c = a, a
	b.Class, c.Class = []int{7, 7, 8}, []int{7, 8, 7}
	wantSame(t, "the order", b, c, false)
	wantSame(t, "nothing", api.Dfa{}, api.Dfa{}, true)
	wantSame(t, "nothing, and lists without entries", api.Dfa{}, api.Dfa{Class: []int{}, Next: []int{}, Accept: []bool{}}, true)
	wantSame(t, "not right, and the same", api.Dfa{Width: -1, Start: 9}, api.Dfa{Width: -1, Start: 9}, true)
	wantSame(t, "not right, and another one", api.Dfa{Width: -1, Start: 9}, api.Dfa{Width: 9, Start: -1}, false)
}

// call calls all functions, with an automaton and words that are right or not.
func call(d api.Dfa, word []int) {
	Right(d)
	for _, s := range []int{-1, 0, d.Start, len(d.Accept)} {
		Go(d, s, 'a')
		Run(d, s, word)
	}
	Accepts(d, word)
	Live(d)
	Reach(d)
	Same(d, d)
	Same(d, api.Dfa{})
}

func TestWhatIsHandedInStays(t *testing.T) { // P2, rules 3 and 4
	next := generator()
	l := append(some(), mixed(next, 20, 9, 3), mixed(next, 9, 259, 2), api.Dfa{}, api.Dfa{Class: []int{3, 1, 2}, Next: []int{5, 4}, Accept: []bool{true, false, true}, Width: 2})
	for _, was := range l {
		d := roomy(was)
		word := []int{'a', 0, 300, -1, 5}
		for k := range len(word) + 1 {
			call(d, word[:k])
		}
		if entries(d) != entries(was) || !slices.Equal(word, []int{'a', 0, 300, -1, 5}) {
			t.Fatalf("%s is changed: %s, %v", brief(was), brief(d), word)
		}
		// Nor is what lies behind the lists.
		class, to, accept := d.Class[len(d.Class):len(d.Class)+2], d.Next[len(d.Next):len(d.Next)+2], d.Accept[len(d.Accept):len(d.Accept)+2]
		if !slices.Equal(class, []int{-7, 7}) || !slices.Equal(to, []int{-7, 7}) || !slices.Equal(accept, []bool{true, false}) {
			t.Fatalf("%s: %v, %v, %v lie behind the lists", brief(was), class, to, accept)
		}
	}
	// What was handed in is not kept: it may be changed later.
	d := mixed(next, 20, 9, 3)
	live, reached := Live(d), Reach(d)
	wantLive, wantReached := alive(d), slices.Clone(ways(d)[d.Start])
	for s := range d.Accept {
		d.Accept[s] = !d.Accept[s]
	}
	clear(d.Next)
	clear(d.Class)
	if !slices.Equal(live, wantLive) || !slices.Equal(reached, wantReached) {
		t.Errorf("%v, %v", live, reached)
	}
	wantModel(t, "what was changed", d)
}

func TestAnswersAreNew(t *testing.T) { // P2, rule 4
	next := generator()
	d, other := mixed(next, 20, 9, 3), mixed(next, 30, 5, 9)
	was := entries(d)
	for k := range 4 {
		wantModel(t, "one", d)
		wantModel(t, "another one", other)
		wantWord(t, "abcab", 0, 5)
		wantWord(t, "xyz", 2, 1)
		// What is answered may be written to, whole and into the room behind it.
		for _, l := range [][]bool{Live(d), Reach(d), Live(other), Reach(other)} {
			for i := range l[:cap(l)] {
				l[:cap(l)][i] = k%2 == 0
			}
		}
		for _, x := range [][2]int{{0, 5}, {1, 4}, {2, 2}, {3, 1}} {
			l, _ := Word("abcab", x[0], x[1])
			for i := range l[:cap(l)] {
				l[:cap(l)][i] = -7
			}
		}
		wantNotRight(t, "nothing", api.Dfa{})
		if entries(d) != was || Run(d, 3, []int{1, 2}) != Go(d, Go(d, 3, 1), 2) {
			t.Fatalf("%d: %s", k, brief(d))
		}
	}
}
