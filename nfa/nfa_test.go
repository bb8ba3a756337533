package nfa

import (
	"math"
	"slices"
	"strings"
	"testing"

	"tatting/api"
	"tatting/facts"
	"tatting/parse"
	"tatting/tree"
)

// wantBuilt asks for the automaton of a tree, and that it is right. It answers what was built.
func wantBuilt(t *testing.T, l []api.Node, want api.Nfa) api.Nfa {
	t.Helper()
	n, e := Build(l)
	if !same(n, want) || e != api.OK {
		// What follows would be asked of another automaton.
		t.Fatalf("Build(%s): %s, %d; not %s", brief(l), told(n), e, told(want))
	}
	if size := facts.Size(l); len(n.States) != size || !Right(n) {
		t.Errorf("Build(%s): %s; Size %d, right: %v", brief(l), told(n), size, Right(n))
	}
	return n
}

// wantSigns asks for the same, of what is written as signs and as words. Final is the last state always.
func wantSigns(t *testing.T, signs string, start int, words string) {
	t.Helper()
	if !tree.Right(list(signs)) {
		t.Fatalf("%s is no tree", signs)
	}
	n := wantBuilt(t, list(signs), automaton(start, words))
	if n.Final != len(n.States)-1 || n.States[n.Final] != (api.State{Kind: api.StFinal}) {
		t.Errorf("%s: %s", signs, told(n))
	}
}

// againstModel asks of a tree what the model tells.
func againstModel(t *testing.T, l []api.Node) api.Nfa {
	t.Helper()
	return wantBuilt(t, l, model(l))
}

// wantError asks for an error and no automaton.
func wantError(t *testing.T, l []api.Node, want api.Errno) {
	t.Helper()
	if n, e := Build(l); len(n.States) != 0 || n.Start != 0 || n.Final != 0 || e != want {
		t.Errorf("Build(%s): %s, %d; not %d alone", brief(l), told(n), e, want)
	}
}

func TestExamples(t *testing.T) { // P9.1
	wantSigns(t, "a", 0, "a>1 !")
	wantSigns(t, "ab|", 4, "a>1 _>5 b>3 _>5 |>0,2 !")
	for p, size := range map[string]int{"a": 2, "a|b": 6, "abc": 6, "a*": 5, "(ab|c)+": 19, "a{2,3}": 9, "": 2, "^a$": 6, "((a{9}){8}){4}": -1} {
		l, _, _ := parse.Pattern(p)
		if size == -1 {
			wantError(t, l, api.ErrLong)
		} else if n := againstModel(t, l); len(n.States) != size {
			t.Errorf("%s: %d states", p, len(n.States))
		}
	}
}

func TestEachKindAlone(t *testing.T) { // P9.1
	for _, leaf := range []string{"a", "-", "#", "~", "_", "^", "$"} {
		wantSigns(t, leaf, 0, leaf+">1 !")
	}
	for b := range 256 {
		one := api.State{Kind: api.StSet, Set: setOf(byte(b)), A: 1}
		wantBuilt(t, []api.Node{{Kind: api.NdSet, Set: one.Set}}, api.Nfa{States: []api.State{one, {Kind: api.StFinal}}, Final: 1})
		one.Set = setOf(byte(b), byte(b*7+1), 0, 255)
		wantBuilt(t, []api.Node{{Kind: api.NdSet, Set: one.Set}}, api.Nfa{States: []api.State{one, {Kind: api.StFinal}}, Final: 1})
	}
	// What needs arguments stands not alone.
	for _, signs := range []string{".", "|", "*", "?", "0"} {
		wantError(t, list(signs), api.ErrForm)
	}
}

func TestCat(t *testing.T) { // P9.1: NdCat
	for _, x := range []struct {
		signs string
		start int
		words string
	}{
		{"ab.", 0, "a>1 _>2 b>3 !"}, {"ba.", 0, "b>1 _>2 a>3 !"}, {"a_.", 0, "a>1 _>2 _>3 !"}, {"_a.", 0, "_>1 _>2 a>3 !"}, {"^$.", 0, "^>1 _>2 $>3 !"}, {"$^.", 0, "$>1 _>2 ^>3 !"}, {"-#.", 0, "->1 _>2 #>3 !"},
		// On the left and on the right, and on both.
		{"ab.c.", 0, "a>1 _>2 b>3 _>4 c>5 !"}, {"abc..", 0, "a>1 _>2 b>3 _>4 c>5 !"}, {"ab.cd..", 0, "a>1 _>2 b>3 _>4 c>5 _>6 d>7 !"}, {"abcd...", 0, "a>1 _>2 b>3 _>4 c>5 _>6 d>7 !"},
		// What begins with a state that is not its first one.
		{"ab|c.", 4, "a>1 _>5 b>3 _>5 |>0,2 _>6 c>7 !"}, {"abc|.", 0, "a>1 _>6 b>3 _>7 c>5 _>7 |>2,4 !"}, {"ab|cd|.", 4, "a>1 _>5 b>3 _>5 |>0,2 _>10 c>7 _>11 d>9 _>11 |>6,8 !"},
		{"a*b.", 0, "_>3 a>2 _>3 |>1,4 _>5 b>6 !"}, {"ab*.", 0, "a>1 _>2 _>5 b>4 _>5 |>3,6 !"}, {"a*b*.", 0, "_>3 a>2 _>3 |>1,4 _>5 _>8 b>7 _>8 |>6,9 !"},
		{"a0b.", 0, "_>1 _>2 b>3 !"}, {"ab0.", 0, "a>1 _>2 _>3 !"},
	} {
		wantSigns(t, x.signs, x.start, x.words)
	}
}

func TestOr(t *testing.T) { // P9.1: NdOr
	for _, x := range []struct {
		signs string
		start int
		words string
	}{
		{"ba|", 4, "b>1 _>5 a>3 _>5 |>0,2 !"}, {"aa|", 4, "a>1 _>5 a>3 _>5 |>0,2 !"}, {"a_|", 4, "a>1 _>5 _>3 _>5 |>0,2 !"}, {"_a|", 4, "_>1 _>5 a>3 _>5 |>0,2 !"}, {"^$|", 4, "^>1 _>5 $>3 _>5 |>0,2 !"}, {"-~|", 4, "->1 _>5 ~>3 _>5 |>0,2 !"},
		// On the left and on the right, and on both.
		{"ab|c|", 8, "a>1 _>5 b>3 _>5 |>0,2 _>9 c>7 _>9 |>4,6 !"}, {"abc||", 8, "a>1 _>9 b>3 _>7 c>5 _>7 |>2,4 _>9 |>0,6 !"}, {"ab|cd||", 12, "a>1 _>5 b>3 _>5 |>0,2 _>13 c>7 _>11 d>9 _>11 |>6,8 _>13 |>4,10 !"},
		// NdCat within it.
		{"ab.c|", 6, "a>1 _>2 b>3 _>7 c>5 _>7 |>0,4 !"}, {"abc.|", 6, "a>1 _>7 b>3 _>4 c>5 _>7 |>0,2 !"}, {"ab.cd.|", 8, "a>1 _>2 b>3 _>9 c>5 _>6 d>7 _>9 |>0,4 !"},
		// NdRep within it.
		{"a*b|", 7, "_>3 a>2 _>3 |>1,4 _>8 b>6 _>8 |>0,5 !"}, {"ab*|", 7, "a>1 _>8 _>5 b>4 _>5 |>3,6 _>8 |>0,2 !"}, {"a0b|", 4, "_>1 _>5 b>3 _>5 |>0,2 !"},
	} {
		wantSigns(t, x.signs, x.start, x.words)
	}
}

func TestRep(t *testing.T) { // P9.1: NdRep
	for _, x := range []struct {
		signs string
		start int
		words string
	}{
		{"a*", 0, "_>3 a>2 _>3 |>1,4 !"},
		{"a+", 0, "_>1 a>2 _>5 a>4 _>5 |>3,6 !"},
		{"a5", 0, "_>1 a>2 _>3 a>4 _>5 a>6 _>7 a>8 _>9 a>10 _>13 a>12 _>13 |>11,14 !"},
		{"a0", 0, "_>1 !"},
		{"a1", 0, "_>1 a>2 _>3 !"},
		{"a2", 0, "_>1 a>2 _>3 a>4 _>5 !"},
		{"a?", 0, "_>3 a>2 _>4 |>1,4 !"},
		{"a4", 0, "_>3 a>2 _>6 |>1,7 a>5 _>7 |>4,7 !"},
		{"a3", 0, "_>1 a>2 _>5 a>4 _>8 |>3,9 a>7 _>9 |>6,9 !"},
		// Of each other kind without arguments.
		{"_*", 0, "_>3 _>2 _>3 |>1,4 !"}, {"^?", 0, "_>3 ^>2 _>4 |>1,4 !"}, {"$2", 0, "_>1 $>2 _>3 $>4 _>5 !"}, {"-+", 0, "_>1 ->2 _>5 ->4 _>5 |>3,6 !"}, {"$0", 0, "_>1 !"},
		// Of NdCat, and of NdOr: its first state is not the least one.
		{"ab.*", 0, "_>5 a>2 _>3 b>4 _>5 |>1,6 !"}, {"ab.2", 0, "_>1 a>2 _>3 b>4 _>5 a>6 _>7 b>8 _>9 !"}, {"ab.?", 0, "_>5 a>2 _>3 b>4 _>6 |>1,6 !"}, {"ab.c.0", 0, "_>1 !"},
		{"ab|*", 0, "_>7 a>2 _>6 b>4 _>6 |>1,3 _>7 |>5,8 !"}, {"ab|1", 0, "_>5 a>2 _>6 b>4 _>6 |>1,3 _>7 !"}, {"ab|?", 0, "_>7 a>2 _>6 b>4 _>6 |>1,3 _>8 |>5,8 !"}, {"ab|0", 0, "_>1 !"},
		// Within one another.
		{"a**", 0, "_>6 _>4 a>3 _>4 |>2,5 _>6 |>1,7 !"}, {"a?*", 0, "_>6 _>4 a>3 _>5 |>2,5 _>6 |>1,7 !"}, {"a*?", 0, "_>6 _>4 a>3 _>4 |>2,5 _>7 |>1,7 !"}, {"a22", 0, "_>1 _>2 a>3 _>4 a>5 _>6 _>7 _>8 a>9 _>10 a>11 _>12 _>13 !"}, {"a11", 0, "_>1 _>2 a>3 _>4 _>5 !"},
		{"a0*", 0, "_>3 _>2 _>3 |>1,4 !"}, {"a*0", 0, "_>1 !"}, {"a02", 0, "_>1 _>2 _>3 _>4 _>5 !"}, {"a00", 0, "_>1 !"}, {"a+1", 0, "_>1 _>2 a>3 _>6 a>5 _>6 |>4,7 _>8 !"}, {"a1+", 0, "_>1 _>2 a>3 _>4 _>9 _>6 a>7 _>8 _>9 |>5,10 !"},
	} {
		wantSigns(t, x.signs, x.start, x.words)
	}
}

// TestAllRepeats has each Lo and each Hi, of a part of two states, of some more, and within others.
func TestAllRepeats(t *testing.T) { // P9.1: NdRep
	count := 0
	for lo := range 33 {
		for hi := -1; hi <= 32; hi++ {
			if 0 <= hi && hi < lo {
				continue
			}
			count++
			r := []api.Node{rep(lo, hi)}
			want := 2 + lo*2 + (hi-lo)*3
			if hi == -1 {
				want = 2 + lo*2 + 3
			}
			if n := againstModel(t, append(list("a"), r...)); len(n.States) != want {
				t.Errorf("from %d to %d: %d states", lo, hi, len(n.States))
			}
			againstModel(t, slices.Concat(list("^ab|"), r, list("*.")))
			againstModel(t, slices.Concat(list("ab.c|"), r, list("d|")))
			againstModel(t, slices.Concat(list("a*"), r, list("$.")))
			if lo < 10 && hi < 16 {
				againstModel(t, slices.Concat(list("ab|?"), r, list("2")))
			}
		}
	}
	if count != 33+33*34/2 {
		t.Errorf("%d repeats", count)
	}
}

// kinds are parts of each kind, made of two letters, so that several in one tree can be told apart.
func kinds(x, y string) []string {
	return []string{x, "_", "^", "$", x + y + ".", x + y + "|", x + "*", x + "0", x + y + ".3", x + "^|"}
}

func TestEachTwoAndThree(t *testing.T) { // P9.1: NdCat, NdOr
	for _, a := range kinds("a", "b") {
		for _, b := range kinds("c", "d") {
			for _, both := range []string{".", "|"} {
				ab := a + b + both
				againstModel(t, list(ab))
				againstModel(t, list(ab+"*"))
				againstModel(t, list(ab+"3"))
				for _, c := range kinds("e", "f") {
					for _, all := range []string{".", "|"} {
						againstModel(t, list(ab+c+all))
						againstModel(t, list(c+ab+all))
						againstModel(t, list(ab+c+"*"+b+all+all))
					}
				}
			}
		}
	}
}

// row has parts one behind the other, by NdCat.
func row(parts ...[]api.Node) []api.Node {
	l := slices.Clone(parts[0])
	for _, p := range parts[1:] {
		l = slices.Concat(l, p, list("."))
	}
	return l
}

// times is the same part so often, in a row.
func times(signs string, n int) []api.Node {
	return row(slices.Repeat([][]api.Node{list(signs)}, n)...)
}

// with is a list and some nodes more, so often.
func with(l []api.Node, signs string, n int) []api.Node {
	return slices.Concat(l, slices.Repeat(list(signs), n))
}

// TestMostStates has trees of just 600 states, of 601, and of some and many more.
func TestMostStates(t *testing.T) { // P9.1: ErrLong
	nine := times("a8", 9)            // 9 times 66 states
	tall := with(list("a"), "1", 299) // 2 states for each node
	wide := times("b", 255)           // 2 states for each b
	huge := with(list("a"), "8", 500) // far more than there may be
	for _, x := range []struct {
		l    []api.Node
		size int
	}{
		{nine, 594}, {row(nine, times("b", 3)), 600}, {row(nine, times("b", 4)), 602}, {row(nine, list("b*")), 599}, {row(nine, list("b?")), 599}, {row(nine, list("bc|")), 600}, {row(nine, list("b2")), 600}, {row(nine, list("b0"), list("c1")), 600}, {row(list("b0"), nine, list("c2")), 602},
		{row(nine, list("b*"), list("c")), 601}, {row(list("b?"), list("_"), nine), 601}, {row(nine, list("b0"), list("^*")), 601}, {row(nine, list("bc.*")), 601}, {row(nine, list("bc|_|")), 604},
		{tall, 600}, {with(tall, "0", 1), 2}, {with(tall, "01", 1), 4}, {with(tall, "1", 1), 602}, {with(tall, "*", 1), 603}, {with(tall, "2", 1), 1202}, {with(tall, "8", 1), 19202}, {row(tall, list("_")), 602}, {row(list("_"), tall), 602}, {row(tall, tall), -1}, {row(with(tall, "0", 1), list("b")), 4},
		{wide, 510}, {with(wide, "1", 1), 512}, {with(wide, "*", 1), 513}, {with(wide, "?", 1), 513}, {with(wide, "11", 1), 514}, {with(wide, "**", 1), 516}, {with(wide, "2", 1), 1022}, {with(wide, "3", 1), 1534}, {with(wide, "|", 1), -1}, {with(wide, "1111", 1), -1},
		{with(list("a"), "*", 199), 599}, {with(list("a"), "*", 200), 602}, {with(list("a"), "?", 199), 599}, {with(list("a"), "?", 200), 602}, {with(list("_a|"), "*", 198), 600}, {with(list("_a*|"), "*", 197), 600}, {with(list("a*"), "1", 298), 601}, {with(list("a*"), "1", 297), 599},
		{with(list("a"), "b|", 149), 598}, {with(list("a"), "b|", 150), 602}, {with(list("a1"), "b|", 149), 600}, {with(list("a*"), "b|", 149), 601},
		{with(list("a"), "8", 2), 2 + 32*66}, {with(list("a"), "8", 4), 1 << 20}, {huge, 1 << 20}, {with(huge, "0", 1), 2}, {with(huge, "01", 1), 4}, {row(list("a"), with(huge, "0", 1), list("b")), 6}, {row(with(huge, "0", 1), list("b8")), 68}, {with(huge, "a|", 1), 1 << 20}, {with(huge, "a", 1), -1}, {with(huge, "8", 12), -1},
	} {
		if size := facts.Size(x.l); size != x.size {
			t.Errorf("%s: %d, not %d states", brief(x.l), size, x.size)
		}
		switch {
		case x.size < 0:
			wantError(t, x.l, api.ErrForm)
		case x.size > 600:
			wantError(t, x.l, api.ErrLong)
		default:
			againstModel(t, x.l)
		}
	}
}

func TestMostNodes(t *testing.T) { // P9.1, P9.5
	for _, l := range [][]api.Node{
		times("a", 256), with(times("a", 256), "*", 1), with(times("^", 256), "0", 1), slices.Concat(times("a", 200), list("1"), times("b*", 37), list(".")),
		with(with(nil, "b", 256), ".", 255), slices.Concat(with(nil, "b", 240), with(nil, ".|", 22), with(nil, ".", 195)), with(with(list("a"), "1", 290), "0", 221),
	} {
		if n := againstModel(t, l); len(n.States) != facts.Size(l) {
			t.Errorf("%s: %d states", brief(l), len(n.States))
		}
		wantError(t, with(l, "0", 513-len(l)), api.ErrForm)
	}
}

func TestListsThatAreNoTrees(t *testing.T) { // P9.1: ErrForm
	wantError(t, nil, api.ErrForm)
	wantError(t, []api.Node{}, api.ErrForm)
	for _, signs := range []string{
		// An argument too few.
		".", "|", "*", "a.", "a|", "*a", ".ab", "|ab", "a.b", "a|b", "ab..", "ab||", "ab.|", "a*.", "a*|", "^.", "$*|",
		// An argument too many.
		"ab", "aa", "^$", "^a", "__", "abc.", "abc|", "ab*", "a*b", "a*b*", "ab.c", "ab|c", "ab.cd.", "ab.cd|", "abcd..", "ab.c.d",
		// Both.
		".a", "*ab.", "a.b.c", "|abc..",
		// They would have more than 600 states.
		"a888.", "a888a", "aa888", ".a888", "a888|", "aa888.8a", "*a8888", "888", "a88b88",
	} {
		wantError(t, list(signs), api.ErrForm)
	}
	for _, kind := range []int{0, 8, 9, -1, -5, 256 + api.NdSet, 1<<32 + api.NdCat, math.MaxInt, math.MinInt} {
		none := api.Node{Kind: kind}
		for _, signs := range []string{"a", "ab.", "ab.c.", "ab|*", "^a.$.", "a88"} {
			for i := range len(signs) + 1 {
				wantError(t, slices.Insert(list(signs), i, none), api.ErrForm)
				if i < len(signs) {
					l := list(signs)
					l[i] = none
					wantError(t, l, api.ErrForm)
				}
			}
		}
	}
	for _, n := range []int{513, 514, 1000, 1 << 16} {
		for _, signs := range []string{"*", "0", "1", "8"} {
			wantError(t, append(list("a"), slices.Repeat(list(signs), n-1)...), api.ErrForm)
		}
		wantError(t, slices.Repeat(list("a"), n), api.ErrForm)
	}
}

// TestFieldsWhereNoneMayBe puts something into each field of each node of a tree.
func TestFieldsWhereNoneMayBe(t *testing.T) { // P9.1: ErrForm
	for _, signs := range []string{"^ab.|_*$a3...", "^ab.|_*$a3...88"} {
		l := list(signs)
		for i, n := range l {
			for b := range 256 {
				bad := slices.Clone(l)
				bad[i].Set = setOf(byte(b))
				if n.Kind != api.NdSet {
					wantError(t, bad, api.ErrForm)
				} else if len(l) == 13 {
					againstModel(t, bad)
				} else {
					wantError(t, bad, api.ErrLong)
				}
			}
			for _, x := range [][2]int{{1, 0}, {0, -2}, {-1, -1}, {-1, 0}, {33, 33}, {33, -1}, {0, 33}, {5, 4}, {math.MinInt, -1}, {math.MaxInt, math.MaxInt}, {0, math.MinInt}, {1 << 32, 1 << 32}} {
				bad := slices.Clone(l)
				bad[i].Lo, bad[i].Hi = x[0], x[1]
				wantError(t, bad, api.ErrForm)
			}
			for _, x := range [][2]int{{0, -1}, {1, 1}, {0, 1}, {7, 7}, {4, -1}} {
				l := slices.Clone(l)
				l[i].Lo, l[i].Hi = x[0], x[1]
				if n.Kind != api.NdRep {
					wantError(t, l, api.ErrForm)
				} else if len(l) == 13 {
					againstModel(t, l)
				}
			}
		}
	}
}

// TestRight has automata by hand.
func TestRight(t *testing.T) { // P9.2
	for _, x := range []struct {
		start int
		words string
		right bool
	}{
		{0, "!", true}, {0, "", false}, {0, "a>1 !", true}, {1, "a>1 !", true}, {0, "a>0 !", true}, {2, "a>1 ! b>0", true}, {0, "_>0 !", true}, {0, "|>0,0 !", true}, {0, "^>0 $>1 !", true}, {3, "a>3 _>2 |>1,4 ! ^>0", true},
		// What is not come to, and sets without a byte, may be.
		{0, "! a>1 _>2 |>0,3", true}, {0, "->1 !", true}, {0, "#>1 !", true},
		{0, "a>0", false}, {0, "_>0", false}, {0, "a>1 _>0", false}, {0, "! !", false}, {0, "a>1 ! !", false}, {0, "! a>0 !", false}, {-1, "!", false}, {1, "!", false}, {2, "a>1 !", false}, {-1, "a>1 !", false}, {math.MinInt, "a>1 !", false}, {math.MaxInt, "a>1 !", false},
		{0, "a>2 !", false}, {0, "a>-1 !", false}, {0, "_>2 !", false}, {0, "_>-1 !", false}, {0, "^>2 !", false}, {0, "^>-1 !", false}, {0, "$>2 !", false}, {0, "$>-1 !", false}, {0, "|>2,0 !", false}, {0, "|>-1,0 !", false}, {0, "|>0,2 !", false}, {0, "|>0,-1 !", false}, {0, "|>2,2 !", false},
		{0, "a>1,1 !", false}, {0, "_>1,1 !", false}, {0, "^>1,1 !", false}, {0, "$>1,-1 !", false}, {0, "! a>9", false},
	} {
		n := automaton(x.start, x.words)
		if x.right {
			wantRight(t, n)
		} else {
			wantNothing(t, n)
		}
	}
}

// wantRight asks that an automaton is right, and that it is told of.
func wantRight(t *testing.T, n api.Nfa) {
	t.Helper()
	all := placesOf(n)
	if !Right(n) || !mayBe(n) || len(Close(n, all, 0)) != len(all) {
		t.Errorf("%s: not right, or nothing is told", told(n))
	}
}

// wantNothing asks that an automaton is not right, and what is told of it then.
func wantNothing(t *testing.T, n api.Nfa) {
	t.Helper()
	if Right(n) || mayBe(n) {
		t.Errorf("%s: right", told(n))
	}
	all := placesOf(n)
	for _, sym := range []int{0, 'a', api.Begin, api.End, api.Both} {
		if l := Close(n, all, sym); len(l) > 0 {
			t.Errorf("%s: Close by %d tells %v", told(n), sym, l)
		}
	}
	for _, b := range []byte{'a', 'b', 0, 255} {
		if l := Step(n, all, b); len(l) > 0 {
			t.Errorf("%s: Step by %d tells %v", told(n), b, l)
		}
	}
	for _, text := range []string{"", "a", "ab"} {
		for i := range len(text) + 1 {
			if Fits(n, text, 0, i) || Fits(n, text, i, len(text)) {
				t.Errorf("%s: a part of %q fits", told(n), text)
			}
		}
	}
}

// TestFieldsOutOfRange puts each field of each kind of state out of its range, by one and by more, on both sides.
func TestFieldsOutOfRange(t *testing.T) { // P9.2
	n := automaton(2, "a>5 _>0 |>1,3 ^>4 $>5 !")
	far := []int{-1, 6, 7, -2, 256, math.MinInt, math.MaxInt, 1 << 32, -1 << 32}
	change := func(f func(n *api.Nfa)) api.Nfa {
		m := api.Nfa{States: slices.Clone(n.States), Start: n.Start, Final: n.Final}
		f(&m)
		return m
	}
	wantRight(t, n)
	for i, s := range n.States {
		for to := range 6 {
			a := change(func(m *api.Nfa) { m.States[i].A = to })
			b := change(func(m *api.Nfa) { m.States[i].B = to })
			wantOne(t, a, s.Kind != api.StFinal || to == 0)
			wantOne(t, b, s.Kind == api.StSplit || to == 0)
			wantOne(t, change(func(m *api.Nfa) { m.Start = to }), true)
			wantOne(t, change(func(m *api.Nfa) { m.Final = to }), to == 5)
		}
		for _, to := range far {
			wantNothing(t, change(func(m *api.Nfa) { m.States[i].A = to }))
			wantNothing(t, change(func(m *api.Nfa) { m.States[i].B = to }))
			wantNothing(t, change(func(m *api.Nfa) { m.Start = to }))
			wantNothing(t, change(func(m *api.Nfa) { m.Final = to }))
		}
		for b := range 256 {
			wantOne(t, change(func(m *api.Nfa) { m.States[i].Set = setOf(byte(b)) }), s.Kind == api.StSet)
		}
		for kind := -2; kind < 10; kind++ {
			changed := change(func(m *api.Nfa) { m.States[i].Kind = kind })
			wantOne(t, changed, mayBe(changed))
		}
		for _, kind := range []int{0, -1, 7, 256 + s.Kind, 1<<32 + s.Kind, -s.Kind, math.MinInt, math.MaxInt} {
			wantNothing(t, change(func(m *api.Nfa) { m.States[i].Kind = kind }))
		}
	}
}

// wantOne asks for the one or the other.
func wantOne(t *testing.T, n api.Nfa, right bool) {
	t.Helper()
	if right {
		wantRight(t, n)
	} else {
		wantNothing(t, n)
	}
}

// chain has so many states, one of which goes to the next.
func chain(kind, n int) api.Nfa {
	var c api.Nfa
	for i := range n {
		c.States = append(c.States, api.State{Kind: kind, A: min(i+1, n-1)})
	}
	if n > 0 {
		c.Final = n - 1
		c.States[n-1] = api.State{Kind: api.StFinal}
	}
	return c
}

func TestHowManyStates(t *testing.T) { // P9.2
	wantNothing(t, api.Nfa{})
	wantNothing(t, api.Nfa{States: []api.State{}})
	for _, kind := range []int{api.StSet, api.StEmpty, api.StSplit, api.StBegin, api.StEnd} {
		for _, n := range []int{1, 2, 3, 599, 600} {
			wantRight(t, chain(kind, n))
		}
		for _, n := range []int{0, 601, 602, 1000, 1 << 16} {
			wantNothing(t, chain(kind, n))
		}
	}
	if n := chain(api.StEmpty, 600); !Fits(n, "ab", 1, 1) || len(Close(n, []int{0}, 0)) != 600 || len(Close(n, []int{599, 598}, 0)) != 2 {
		t.Errorf("600 states: %v", Close(n, []int{0}, 0))
	}
	wantNothing(t, api.Nfa{States: chain(api.StEmpty, 600).States, Start: 600, Final: 599})
	wantNothing(t, api.Nfa{States: chain(api.StEmpty, 600).States, Start: 0, Final: 600})
}

func wantList(t *testing.T, what string, got, want []int) {
	t.Helper()
	if !slices.Equal(got, want) {
		t.Errorf("%s: %v; not %v", what, got, want)
	}
}

func TestClose(t *testing.T) { // P9.3
	n := automaton(2, "a>5 _>0 |>1,3 ^>4 $>5 !")
	for _, x := range []struct {
		from []int
		sym  int
		want []int
	}{
		{nil, 0, nil}, {[]int{}, api.Both, nil},
		// Each kind of state.
		{[]int{0}, 0, []int{0}}, {[]int{1}, 0, []int{0, 1}}, {[]int{2}, 0, []int{0, 1, 2, 3}}, {[]int{3}, 0, []int{3}}, {[]int{4}, 0, []int{4}}, {[]int{5}, 0, []int{5}},
		{[]int{0}, api.Both, []int{0}}, {[]int{1}, api.Both, []int{0, 1}}, {[]int{5}, api.Both, []int{5}},
		{[]int{3}, api.Begin, []int{3, 4}}, {[]int{3}, api.End, []int{3}}, {[]int{3}, api.Both, []int{3, 4, 5}}, {[]int{4}, api.Begin, []int{4}}, {[]int{4}, api.End, []int{4, 5}}, {[]int{4}, api.Both, []int{4, 5}},
		{[]int{2}, api.Begin, []int{0, 1, 2, 3, 4}}, {[]int{2}, api.End, []int{0, 1, 2, 3}}, {[]int{2}, api.Both, []int{0, 1, 2, 3, 4, 5}}, {[]int{3, 4}, api.End, []int{3, 4, 5}}, {[]int{3, 4}, api.Begin, []int{3, 4}},
		// By a byte one comes nowhere at once.
		{[]int{0, 3}, 'a', []int{0, 3}}, {[]int{0, 4}, 'a', []int{0, 4}}, {[]int{2}, 255, []int{0, 1, 2, 3}},
		// Places that are none, that come twice, and that do not rise.
		{[]int{-1}, 0, nil}, {[]int{6, 7, -2, math.MinInt, math.MaxInt, 1 << 32}, api.Both, nil}, {[]int{-1, 1, 6}, 0, []int{0, 1}}, {[]int{6, 4, -1, 3}, 0, []int{3, 4}}, {[]int{1, 1, 1}, 0, []int{0, 1}}, {[]int{0, 1, 0}, 0, []int{0, 1}}, {[]int{5, 4, 3, 2, 1, 0}, 0, []int{0, 1, 2, 3, 4, 5}}, {[]int{5, 0}, 0, []int{0, 5}}, {[]int{4, 1, 4, 1}, api.End, []int{0, 1, 4, 5}}, {[]int{5, 3, 1}, api.Begin, []int{0, 1, 3, 4, 5}},
	} {
		wantList(t, "Close", Close(n, x.from, x.sym), x.want)
	}
	// Only by an end, or by both at once, one goes through it: by no other symbol, and by what is none.
	symbols := []int{math.MinInt, math.MaxInt, 1<<32 + api.Begin, 1<<32 + api.End, 1<<32 + api.Both, -1<<32 + api.Both}
	for sym := -1000; sym < 1000; sym++ {
		symbols = append(symbols, sym)
	}
	for _, sym := range symbols {
		begin, end := []int{3}, []int{4}
		switch sym {
		case api.Begin:
			begin = []int{3, 4}
		case api.End:
			end = []int{4, 5}
		case api.Both:
			begin, end = []int{3, 4, 5}, []int{4, 5}
		}
		wantList(t, "Close by each symbol", Close(n, []int{3}, sym), begin)
		wantList(t, "Close by each symbol", Close(n, []int{4}, sym), end)
	}
	wantList(t, "Close of many", Close(n, slices.Repeat([]int{4, 9, 1}, 100000), 0), []int{0, 1, 4})
}

func TestCircles(t *testing.T) { // P9.3: Close
	for _, x := range []struct {
		words string
		from  int
		sym   int
		want  []int
	}{
		{"_>0 !", 0, 0, []int{0}}, {"_>1 _>0 !", 1, 0, []int{0, 1}}, {"|>0,0 !", 0, 0, []int{0}}, {"|>1,1 |>0,0 !", 0, 0, []int{0, 1}}, {"|>1,0 |>1,2 !", 0, 0, []int{0, 1, 2}}, {"|>0,1 _>2 |>0,3 !", 2, 0, []int{0, 1, 2, 3}},
		{"_>1 _>2 _>3 _>1 !", 0, 0, []int{0, 1, 2, 3}}, {"_>1 _>2 _>3 _>1 !", 3, 0, []int{1, 2, 3}}, {"|>1,2 |>0,2 |>0,1 !", 2, 0, []int{0, 1, 2}},
		{"^>0 !", 0, api.Begin, []int{0}}, {"$>1 $>0 !", 1, api.End, []int{0, 1}}, {"$>1 ^>0 !", 0, api.Both, []int{0, 1}}, {"$>1 ^>0 !", 0, api.Begin, []int{0}}, {"$>1 ^>0 !", 0, api.End, []int{0, 1}}, {"|>1,2 ^>0 $>3 !", 1, api.Begin, []int{0, 1, 2}}, {"|>1,2 ^>0 $>3 !", 1, api.Both, []int{0, 1, 2, 3}},
		{"^>1 _>2 $>3 _>0 !", 0, api.Both, []int{0, 1, 2, 3}}, {"^>1 _>2 $>3 _>0 !", 2, api.End, []int{0, 2, 3}}, {"^>1 _>2 $>3 _>0 !", 2, api.Begin, []int{2}},
	} {
		n := automaton(0, x.words)
		wantList(t, x.words, Close(n, []int{x.from}, x.sym), x.want)
		wantList(t, x.words, reached(n, []int{x.from}, x.sym), x.want)
	}
	// One that goes through 599 states, backwards, and one of splits that all go to all.
	n := chain(api.StEmpty, 600)
	for i := range 599 {
		n.States[i].A = (i + 598) % 599
	}
	wantList(t, "backwards", Close(n, []int{7}, 0), placesOf(n)[:599])
	for i := range 599 {
		n.States[i] = api.State{Kind: api.StSplit, A: i * 7 % 599, B: (i + 1) % 599}
	}
	wantList(t, "splits", Close(n, []int{598}, 0), placesOf(n)[:599])
}

func TestStep(t *testing.T) { // P9.3
	n := automaton(0, "a>2 ~>2 _>3 |>0,4 ^>5 ! $>5 b>7 #>5 ->5 a>4 b>6")
	for _, x := range []struct {
		from []int
		b    byte
		want []int
	}{
		// In the set and not, and what lies behind by StEmpty and StSplit.
		{[]int{0}, 'a', []int{0, 2, 3, 4}}, {[]int{0}, 'b', nil}, {[]int{1}, 'b', []int{0, 2, 3, 4}}, {[]int{1}, 'c', []int{0, 2, 3, 4}}, {[]int{1}, 'a', nil}, {[]int{1}, 0, []int{0, 2, 3, 4}}, {[]int{1}, 255, []int{0, 2, 3, 4}}, {[]int{1}, 1, nil}, {[]int{1}, 254, nil},
		// Of what is no StSet nothing goes by a byte, also where it would at once.
		{[]int{2}, 'a', nil}, {[]int{3}, 'a', nil}, {[]int{4}, 'a', nil}, {[]int{5}, 'a', nil}, {[]int{6}, 'a', nil}, {[]int{2, 3, 4, 5, 6}, 0, nil},
		// Several that go to one state, and to several ones.
		{[]int{0, 1, 8}, 'a', []int{0, 2, 3, 4, 5}}, {[]int{0, 1, 8}, 'b', []int{0, 2, 3, 4, 5}}, {[]int{8, 7}, 'b', []int{5, 7}}, {[]int{8, 7, 7, 8}, 'b', []int{5, 7}}, {[]int{7}, 'b', []int{7}}, {[]int{7}, 'a', nil}, {[]int{11, 10, 9, 8, 7, 6, 5, 4, 3, 2, 1, 0}, 'b', []int{0, 2, 3, 4, 5, 6, 7}},
		// All bytes, and none.
		{[]int{8}, 0, []int{5}}, {[]int{8}, 255, []int{5}}, {[]int{9}, 0, nil}, {[]int{9}, 255, nil}, {[]int{9}, 'a', nil},
		// The ends are come to, but not gone through.
		{[]int{10}, 'a', []int{4}}, {[]int{11}, 'b', []int{6}}, {[]int{10, 11}, 'c', nil},
		// Places that are none.
		{nil, 'a', nil}, {[]int{-1, 12, math.MinInt, math.MaxInt}, 'a', nil}, {[]int{-1, 7, 12}, 'b', []int{7}}, {[]int{1 << 32, 8, -1 << 32}, 0, []int{5}},
	} {
		wantList(t, "Step", Step(n, x.from, x.b), x.want)
	}
	for b := range 256 {
		wantList(t, "by all bytes", Step(n, []int{8}, byte(b)), []int{5})
		wantList(t, "by none", Step(n, []int{9}, byte(b)), nil)
		one := automaton(0, "a>1 !")
		one.States[0].Set = setOf(byte(b))
		for c := range 256 {
			want := []int{1}
			if c != b {
				want = nil
			}
			wantList(t, "by one byte", Step(one, []int{0, 1}, byte(c)), want)
		}
	}
	// The first state of what goes by a byte is not closed ahead of it.
	wantList(t, "from a state ahead", Step(automaton(0, "_>1 a>2 !"), []int{0}, 'a'), nil)
	wantList(t, "of many", Step(n, slices.Repeat([]int{8, 12, 1}, 100000), 'b'), []int{0, 2, 3, 4, 5})
}

func wantFits(t *testing.T, n api.Nfa, text string, i, j int, want bool) {
	t.Helper()
	if got := Fits(n, text, i, j); got != want {
		t.Errorf("%s: from %d to %d of %.40q: %v", told(n), i, j, text, got)
	}
}

// built is the automaton of a pattern.
func built(t *testing.T, p string) api.Nfa {
	t.Helper()
	l, at, e := parse.Pattern(p)
	n, f := Build(l)
	if e != api.OK || f != api.OK {
		t.Fatalf("%s: %d at %d, %d", p, e, at, f)
	}
	return n
}

func TestFits(t *testing.T) { // P9.4
	for _, x := range []struct {
		p, text string
		i, j    int
		want    bool
	}{
		{"a", "a", 0, 1, true}, {"a", "b", 0, 1, false}, {"a", "", 0, 0, false}, {"a", "xay", 1, 2, true}, {"a", "xay", 0, 2, false}, {"a", "xay", 1, 3, false}, {"ab", "xaby", 1, 3, true}, {"ab", "xaby", 1, 2, false}, {"ab", "xaby", 2, 3, false}, {"a*", "baab", 1, 3, true}, {"a*", "baab", 0, 3, false}, {"a*", "baab", 4, 4, true}, {"(ab|c)+", "abcab", 0, 5, true}, {"(ab|c)+", "abcab", 0, 4, false}, {"a{2,3}", "aaaa", 0, 4, false}, {"a{2,3}", "aaaa", 1, 4, true}, {"a{2,3}", "aaaa", 1, 3, true}, {"a{2,3}", "aaaa", 1, 2, false},
		// The empty text.
		{"", "", 0, 0, true}, {"^", "", 0, 0, true}, {"$", "", 0, 0, true}, {"^$", "", 0, 0, true}, {"$^", "", 0, 0, true}, {"(^|a)($|b)", "", 0, 0, true}, {"($^){3}", "", 0, 0, true}, {"^a$", "", 0, 0, false}, {"a*", "", 0, 0, true}, {"a+", "", 0, 0, false}, {"[]", "", 0, 0, false},
		// The ends of a text, and what lies between them.
		{"", "ab", 0, 0, true}, {"", "ab", 1, 1, true}, {"", "ab", 2, 2, true}, {"", "ab", 0, 1, false}, {"^", "ab", 0, 0, true}, {"^", "ab", 1, 1, false}, {"^", "ab", 2, 2, false}, {"$", "ab", 0, 0, false}, {"$", "ab", 1, 1, false}, {"$", "ab", 2, 2, true}, {"^$", "ab", 0, 0, false}, {"^$", "ab", 2, 2, false}, {"$^", "ab", 0, 0, false}, {"$^", "ab", 2, 2, false}, {"^ab$", "ab", 0, 2, true}, {"^a", "ab", 0, 1, true}, {"^a$", "ab", 0, 1, false}, {"b$", "ab", 1, 2, true}, {"^b$", "ab", 1, 2, false}, {"a$", "ab", 0, 1, false}, {"^b", "ab", 1, 2, false}, {"^^ab$$", "ab", 0, 2, true}, {"a^b", "ab", 0, 2, false}, {"a$b", "ab", 0, 2, false}, {"$ab", "ab", 0, 2, false}, {"ab^", "ab", 0, 2, false}, {"(^a)*", "aa", 0, 1, true}, {"(^a)*", "aa", 0, 2, false}, {"(^a)*", "aa", 1, 1, true}, {"(^a)*", "aa", 1, 2, false}, {"(a$)*", "aa", 0, 1, false}, {"(a$)*", "aa", 1, 2, true}, {"(a$)*", "aa", 0, 2, false}, {"(^|b)a($|b)", "aba", 0, 2, true}, {"(^|b)a($|b)", "aba", 1, 3, true}, {"(^|b)a($|b)", "aba", 0, 3, false}, {"(^|b)a($|b)", "a", 0, 1, true}, {"(^|b)a($|b)", "aa", 0, 1, false}, {"(^|b)a($|b)", "aa", 1, 2, false}, {"(^|$)a*(^|$)", "aa", 0, 2, true}, {"(^|$)a*(^|$)", "aa", 0, 1, false}, {"(^|$)a*(^|$)", "aa", 2, 2, true}, {"(^|$)a*(^|$)", "aa", 0, 0, true}, {"(^|$)a*(^|$)", "aa", 1, 1, false},
		// The text beside the part is not looked at.
		{"a", "bac", 1, 2, true}, {"a*b", "aaaab", 3, 5, true}, {"a*b", "aaaabb", 3, 6, false},
		// Places that are none, and j below i.
		{"a*", "aa", -1, 1, false}, {"a*", "aa", -1, -1, false}, {"a*", "aa", 0, 3, false}, {"a*", "aa", 2, 3, false}, {"a*", "aa", 3, 3, false}, {"a*", "aa", 2, 1, false}, {"a*", "aa", 1, 0, false}, {"a*", "aa", 3, 2, false}, {"a*", "aa", 0, -1, false}, {"a*", "", 0, 1, false}, {"a*", "", 1, 1, false}, {"a*", "", 1, 0, false}, {"a*", "", -1, 0, false}, {"", "", -1, -1, false}, {"", "", 1, 1, false}, {"", "", 0, -1, false}, {"a*", "aa", math.MinInt, math.MaxInt, false}, {"a*", "aa", math.MinInt, 1, false}, {"a*", "aa", 0, math.MaxInt, false}, {"a*", "aa", math.MaxInt, math.MinInt, false}, {"a*", "aa", 0, 1<<32 + 1, false}, {"a*", "aa", 1 << 32, 1, false}, {"a*", "aa", 0, 2, true}, {"a*", "aa", 2, 2, true},
		// Bytes that are no UTF-8, and letters of several bytes.
		{"\\xff\\x00", "\xff\x00", 0, 2, true}, {"\\xff\\x00", "\x00\xff", 0, 2, false}, {"\xc3\xa9", "é", 0, 2, true}, {"[\xc3\xa9]", "é", 0, 1, true}, {"[\xc3\xa9]", "é", 1, 2, true}, {"[\xc3\xa9]", "é", 0, 2, false}, {"\xa9", "é", 1, 2, true}, {"[\\x80-\\xff]*", "\x80\xff\xfe\xed\xa0\x80", 0, 6, true}, {"[\\x80-\\xff]*", "\x80\x7f", 0, 2, false}, {"\\x00*", "\x00\x00\x01", 0, 2, true}, {"\\x00*", "\x00\x00\x01", 0, 3, false},
	} {
		l, _, e := parse.Pattern(x.p)
		if x.p == "[]" {
			l, e = list("-"), api.OK
		}
		n, f := Build(l)
		if e != api.OK || f != api.OK {
			t.Fatalf("%s: %d, %d", x.p, e, f)
		}
		if got := Fits(n, x.text, x.i, x.j); got != x.want {
			t.Errorf("%s: from %d to %d of %q: %v", x.p, x.i, x.j, x.text, got)
		}
		if leads(n, x.text, x.i, x.j) != x.want {
			t.Errorf("%s: from %d to %d of %q: not what was told by hand", x.p, x.i, x.j, x.text)
		}
	}
}

// TestFitsOfAllBytes has each byte within a text, and each at its ends.
func TestFitsOfAllBytes(t *testing.T) { // P9.4
	for b := range 256 {
		text := string([]byte{byte(b), byte(b + 1), byte(b)})
		n, _ := Build([]api.Node{{Kind: api.NdSet, Set: setOf(byte(b))}})
		wantFits(t, n, text, 0, 1, true)
		wantFits(t, n, text, 1, 2, false)
		wantFits(t, n, text, 2, 3, true)
		wantFits(t, n, text, 0, 3, false)
		n, _ = Build(list("##.#."))
		wantFits(t, n, text, 0, 3, true)
		wantFits(t, n, text, 0, 2, false)
	}
	var all []byte
	for b := range 256 {
		all = append(all, byte(b))
	}
	n, _ := Build(list("^#*.$."))
	for i := range 257 {
		wantFits(t, n, string(all), 0, i, i == 256)
		wantFits(t, n, string(all), i, 256, i == 0)
	}
}

// TestFitsByHand has automata that no tree makes.
func TestFitsByHand(t *testing.T) { // P9.4
	for _, x := range []struct {
		start   int
		words   string
		text    string
		i, j    int
		want    bool
		because string
	}{
		{0, "!", "", 0, 0, true, "Start is Final"}, {0, "!", "a", 0, 0, true, "Start is Final"}, {0, "!", "a", 1, 1, true, "Start is Final"}, {0, "!", "a", 0, 1, false, "nothing goes on from Final"},
		{1, "! a>0", "a", 0, 1, true, "Final is the first state"}, {2, "a>1 ! b>0", "ba", 0, 2, true, "Final is in the midst"}, {2, "a>1 ! b>0", "ab", 0, 2, false, "Start is the last state"},
		{0, "a>0 !", "aaa", 0, 3, false, "Final is not come to"}, {0, "_>0 !", "", 0, 0, false, "Final is not come to"}, {0, "|>1,2 a>0 !", "aaa", 0, 3, true, "a circle"}, {0, "|>1,2 _>0 !", "aaa", 1, 1, true, "a circle without a byte"},
		{0, "^>1 $>2 !", "", 0, 0, true, "both ends"}, {0, "$>1 ^>2 !", "", 0, 0, true, "both ends"}, {0, "$>1 ^>2 !", "a", 0, 0, false, "one end"}, {0, "^>1 $>2 !", "a", 1, 1, false, "one end"}, {0, "^>1 a>2 $>3 !", "a", 0, 1, true, "both ends"}, {0, "^>1 a>2 $>3 !", "aa", 0, 1, false, "one end"}, {0, "^>1 a>2 $>3 !", "aa", 1, 2, false, "one end"},
		{0, "_>1 ^>2 _>3 ^>4 _>5 a>6 _>7 $>8 _>9 $>10 _>11 !", "a", 0, 1, true, "ends behind one another"}, {0, "^>0 !", "", 0, 0, false, "a circle at an end"}, {0, "|>1,2 ^>0 $>0 !", "", 0, 0, false, "circles at both ends"}, {0, "|>1,3 ^>2 $>4 $>2 !", "", 0, 0, true, "circles at both ends"},
		{0, "a>1 ^>2 !", "a", 0, 1, false, "the beginning is behind"}, {0, "$>1 a>2 !", "a", 0, 1, false, "the end is ahead"}, {0, "a>1 $>2 !", "a", 0, 1, true, "the end"}, {0, "^>1 a>2 !", "a", 0, 1, true, "the beginning"},
	} {
		n := automaton(x.start, x.words)
		if got := Fits(n, x.text, x.i, x.j); got != x.want || leads(n, x.text, x.i, x.j) != x.want {
			t.Errorf("%s: from %d to %d of %q: %v (%s)", x.words, x.i, x.j, x.text, got, x.because)
		}
	}
}

func TestLongTexts(t *testing.T) { // P9.4
	const long = 1 << 17
	text := strings.Repeat("ab", long/2)
	n := built(t, "^(ab)*$")
	wantFits(t, n, text, 0, long, true)
	wantFits(t, n, text, 0, long-2, false)
	wantFits(t, n, text, 2, long, false)
	wantFits(t, n, text+"b", 0, long+1, false)
	n = built(t, "(a|b)*bab")
	wantFits(t, n, text, 1, long, true)
	wantFits(t, n, text, 1, long-1, false)
}

// snapshot is all that was handed in, kept apart.
func snapshot(n api.Nfa, from []int) (api.Nfa, []int) {
	return api.Nfa{States: slices.Clone(n.States), Start: n.Start, Final: n.Final}, slices.Clone(from)
}

func TestWhatIsHandedInStays(t *testing.T) { // P2, rules 3 and 4
	n := automaton(2, "a>5 _>0 |>1,3 ^>4 $>5 ! b>2 a>2")
	room := append(slices.Clone(n.States), n.States...)
	n.States = room[:8]
	for _, from := range [][]int{nil, {0}, {7, 6, 5, 4, 3, 2, 1, 0}, {0, 0, 0}, {2, 9, -1, 2}, {5, 3, 1, 6}, {0, 7}} {
		wide := append(slices.Clone(from), 99, 98, 97)
		from := wide[:len(from)]
		m, f := snapshot(api.Nfa{States: room, Start: 2, Final: 5}, wide)
		for _, sym := range []int{0, 'a', api.Begin, api.End, api.Both} {
			l, k := Close(n, from, sym), Close(n, from, sym)
			wantOwn(t, l, k)
			if !slices.Equal(room, m.States) || !slices.Equal(wide, f) {
				t.Errorf("Close changed what was handed in: %v", wide)
			}
		}
		for _, b := range []byte("abc") {
			l, k := Step(n, from, b), Step(n, from, b)
			wantOwn(t, l, k)
			if !slices.Equal(room, m.States) || !slices.Equal(wide, f) {
				t.Errorf("Step changed what was handed in: %v", wide)
			}
		}
		if Fits(n, "ab", 0, 1); !Right(n) || !slices.Equal(room, m.States) {
			t.Errorf("the automaton was changed: %s", told(n))
		}
	}
	// What was handed in is not kept: it may be changed later.
	from := []int{2}
	l := Close(n, from, 0)
	from[0], n.States[2].A = 5, 5
	wantList(t, "Close, kept", l, []int{0, 1, 2, 3})
	wantList(t, "Close, changed", Close(n, []int{2}, 0), []int{2, 3, 5})
}

// wantOwn asks that two answers share no memory.
func wantOwn(t *testing.T, l, k []int) {
	t.Helper()
	want := slices.Clone(k)
	for i := range l {
		l[i] = -7
	}
	l = append(l, -7, -7)
	if !slices.Equal(k, want) {
		t.Errorf("%v shares memory with %v", k, l)
	}
}

func TestWhatIsBuiltIsNew(t *testing.T) { // P2, rules 3 and 4
	for _, signs := range []string{"a", "ab.", "ab|", "a3", "ab.c.*", "^a.$.", "a.", "", "a888"} {
		room := append(list(signs), list("xyz.|")...)
		before := slices.Clone(room)
		n, e := Build(room[:len(signs)])
		want := slices.Clone(n.States)
		m, f := Build(room[:len(signs)])
		for i := range n.States {
			n.States[i] = api.State{Kind: 9, A: 9, B: 9}
		}
		n.States = append(n.States, api.State{Kind: 8})
		for i := range room {
			if room[i] != before[i] {
				t.Errorf("%s is changed at %d", signs, i)
			}
			room[i] = rep(3, 4)
		}
		if !slices.Equal(m.States, want) || e != f {
			t.Errorf("%s: %s, %d; %d ahead of it", signs, told(m), f, e)
		}
	}
}

// TestBuildHangsOnItsList: what was built ahead of it is not to be seen in an answer.
func TestBuildHangsOnItsList(t *testing.T) { // P2, rule 4
	signs := []string{"ab.c.", "ab|", "", "a", "ab.cd.|*", "ab", "^a.", "$", "a888"}
	for _, first := range signs {
		for _, second := range signs {
			Build(list(first))
			l := list(second)
			switch size := facts.Size(l); {
			case size < 0:
				wantError(t, l, api.ErrForm)
			case size > 600:
				wantError(t, l, api.ErrLong)
			default:
				againstModel(t, l)
			}
		}
	}
}

// wantJustWhatFits asks of all parts of a text that just those lead to the end which fit a tree. It tells how many do.
func wantJustWhatFits(t *testing.T, l []api.Node, n api.Nfa, text string) int {
	t.Helper()
	count := 0
	p := fits(l, text)
	for i := range len(text) + 1 {
		for j := i; j <= len(text); j++ {
			if Fits(n, text, i, j) != p.has(i, j) {
				t.Errorf("%s: from %d to %d of %q: %v", brief(l), i, j, text, Fits(n, text, i, j))
				return count
			}
			if p.has(i, j) {
				count++
			}
		}
	}
	return count
}

func TestAllSmallTrees(t *testing.T) { // P9.1, P9.5
	count, fit := 0, 0
	for _, x := range []struct {
		most  int
		signs string
		texts []string
	}{
		{4, "ab~-_^$.|*+?01234", textsOf("ab\x00", 3)}, {6, "a^.|*2", textsOf("ab", 3)}, {6, "b_$.|+?", textsOf("ab", 3)}, {7, "a.|?*", textsOf("ab", 4)},
	} {
		for size := 1; size <= x.most; size++ {
			treesOf(size, list(x.signs), func(l []api.Node) {
				n := againstModel(t, l)
				for _, text := range x.texts {
					fit += wantJustWhatFits(t, l, n, text)
				}
				count++
			})
		}
	}
	if count < 10000 || fit < 500000 {
		t.Errorf("%d trees, %d parts that fit", count, fit)
	}
}

// TestRepeatsOfWhatMayBeEmpty has repeats within repeats, of parts some of which may be empty.
func TestRepeatsOfWhatMayBeEmpty(t *testing.T) { // P9.1, P9.5
	bounds := []api.Node{rep(0, 0), rep(0, -1), rep(0, 1), rep(1, -1), rep(1, 1), rep(1, 2), rep(2, 2), rep(2, -1), rep(3, 5)}
	texts := append(textsOf("ab", 4), "aaaaaa", "ababab", "aabaab", "bbbbbbb")
	for _, signs := range []string{"_", "^", "$", "a?", "a*", "a_|", "a*b*|", "^a|", "a?b?.", "^a?.$?.", "-", "-a|"} {
		for _, x := range bounds {
			for _, y := range bounds {
				l := append(list(signs), x, y)
				n := againstModel(t, l)
				for _, text := range texts {
					wantJustWhatFits(t, l, n, text)
				}
				againstModel(t, append(l, node('*')))
			}
		}
	}
}

// TestMixedTrees has trees of up to 512 nodes, against all parts of some texts.
func TestMixedTrees(t *testing.T) { // P9.1, P9.5
	next := generator()
	counts := map[string]int{}
	for k := range 3000 {
		seldom := []int{3, 8, 60}[k%3]
		repeats := []string{"**??+0123459", "*?+1300", "011"}[k%3]
		size := 1 + next([]int{30, 80, 512}[k%3])
		if k%30 == 2 {
			size = 512
		}
		l := grown(next, size, 1+next(9), seldom, repeats)
		if facts.Size(l) > 600 {
			wantError(t, l, api.ErrLong)
			counts["too long"]++
			continue
		}
		n := againstModel(t, l)
		wantRight(t, n)
		counts["built"]++
		if len(l) == 512 {
			counts["of 512 nodes"]++
		}
		if len(n.States) > 500 {
			counts["of more than 500 states"]++
		}
		for _, text := range []string{"", mixed(next, 1+next(3)), mixed(next, 8)} {
			counts["parts that fit"] += wantJustWhatFits(t, l, n, text)
		}
	}
	for what, least := range map[string]int{"too long": 200, "built": 1500, "of 512 nodes": 30, "of more than 500 states": 50, "parts that fit": 5000} {
		if counts[what] < least {
			t.Errorf("only %d %s", counts[what], what)
		}
	}
}

// raw is an automaton of any states, most of whose fields may be.
func raw(next func(int) int) api.Nfa {
	size := next(9)
	n := api.Nfa{Start: next(size + 1), Final: next(size + 1)}
	wild := []int{-1, size, math.MinInt, math.MaxInt, 1 << 32, 1}
	for i := range size {
		s := api.State{Kind: 1 + next(5), A: next(size)}
		switch {
		case i == n.Final:
			s = api.State{Kind: api.StFinal}
		case s.Kind == api.StSet:
			s.Set = set("aab~#-"[next(6)])
		case s.Kind == api.StSplit:
			s.B = next(size)
		}
		switch next(60) {
		case 0:
			s.A = wild[next(6)]
		case 1:
			s.B = wild[next(6)]
		case 2:
			s.Set = set('a')
		case 3:
			s.Kind = next(8)
		}
		n.States = append(n.States, s)
	}
	return n
}

// TestRawAutomata: any numbers end without a panic, and what is right is told of as the models do.
func TestRawAutomata(t *testing.T) { // P1, P9.2 to P9.4
	next := generator()
	counts := map[string]int{}
	symbols := []int{0, 'a', api.Begin, api.End, api.Both, 259, -1, math.MinInt, math.MaxInt}
	for range 60000 {
		n := raw(next)
		if !mayBe(n) {
			wantNothing(t, n)
			counts["not right"]++
			continue
		}
		wantRight(t, n)
		counts["right"]++
		var from []int
		for range next(6) {
			from = append(from, next(len(n.States)+2)-1)
		}
		for _, sym := range symbols {
			wantList(t, told(n), Close(n, from, sym), reached(n, from, sym))
		}
		for _, b := range []byte("ab\x00\xff") {
			wantList(t, told(n), Step(n, from, b), stepped(n, from, b))
		}
		text := mixed(next, next(4))
		for i := -1; i <= len(text)+1; i++ {
			for j := -1; j <= len(text)+1; j++ {
				want := leads(n, text, i, j)
				wantFits(t, n, text, i, j, want)
				if want {
					counts["that fit"]++
				}
			}
		}
	}
	for _, what := range []string{"right", "not right", "that fit"} {
		if counts[what] < 10000 {
			t.Errorf("only %d %s", counts[what], what)
		}
	}
}

// TestGreatAutomata has closes and steps of what was built of great trees, from some states.
func TestGreatAutomata(t *testing.T) { // P9.3
	next := generator()
	made := 0
	for range 300 {
		l := grown(next, 100+next(200), 1+next(9), 20, "*?+12")
		if facts.Size(l) > 600 {
			continue
		}
		made++
		n, _ := Build(l)
		for range 5 {
			var from []int
			for range 1 + next(40) {
				from = append(from, next(700)-50)
			}
			for _, sym := range []int{0, api.Begin, api.End, api.Both} {
				wantList(t, "Close", Close(n, from, sym), reached(n, from, sym))
			}
			for _, b := range []byte("abc") {
				wantList(t, "Step", Step(n, from, b), stepped(n, from, b))
			}
		}
	}
	if made < 100 {
		t.Errorf("only %d were made", made)
	}
}

// TestRawLists: any nodes end without a panic, and what is no tree is ErrForm.
func TestRawLists(t *testing.T) { // P1, P9.1
	next := generator()
	numbers := []int{0, 0, 0, 1, 2, 3, 4, 5, 6, 7, 1, 5, 6, 7, 8, -1, -1, 32, 33, math.MinInt, math.MaxInt}
	counts := map[string]int{}
	for range 100000 {
		l := make([]api.Node, next(9))
		for i := range l {
			l[i].Kind = numbers[3+next(11+next(2)*next(8))]
			if l[i].Kind == api.NdRep || next(20) == 0 {
				l[i].Lo, l[i].Hi = numbers[next(8)], numbers[next(21)]
			}
			if l[i].Kind == api.NdSet || next(20) == 0 {
				l[i].Set = api.Set{0, uint64(next(1 << 20))}
			}
		}
		switch size := facts.Size(l); {
		case !tree.Right(l):
			wantError(t, l, api.ErrForm)
			counts["no trees"]++
		case size > 600:
			wantError(t, l, api.ErrLong)
			counts["too long"]++
		default:
			againstModel(t, l)
			counts["built"]++
		}
	}
	if counts["built"] < 2000 || counts["no trees"] < 20000 || counts["too long"] < 1 {
		t.Errorf("%v", counts)
	}
}
