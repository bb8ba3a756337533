package alpha

import (
	"math"
	"slices"
	"testing"

	"tatting/api"
	"tatting/nfa"
	"tatting/parse"
)

// wantClasses asks for classes, and for what the chapter says of all of them.
func wantClasses(t *testing.T, what string, n api.Nfa, want []int, width int) {
	t.Helper()
	if !nfa.Right(n) {
		t.Fatalf("%s is not right", what)
	}
	got, w := Classes(n)
	if !slices.Equal(got, want) || w != width {
		// What is asked for below would be asked of a wrong list.
		t.Fatalf("Classes(%s): %s, %d; not %s, %d", what, brief(got), w, brief(want), width)
	}
	if len(got) != 259 || slices.Max(got) != w-1 || got[0] != 0 {
		t.Errorf("Classes(%s): %d places, up to %d, %d of the byte 0", what, len(got), slices.Max(got), got[0])
	}
	if !slices.Equal(got[256:], []int{w - 3, w - 2, w - 1}) || slices.Max(got[:256]) != w-4 {
		t.Errorf("Classes(%s): %v of the ends, up to %d of bytes; %d in all", what, got[256:], slices.Max(got[:256]), w)
	}
	// A class that is new is one more than all ahead of it.
	most := -1
	for i, c := range got {
		if c < 0 || c > most+1 {
			t.Errorf("Classes(%s): %d at %d, behind %d at most", what, c, i, most)
		}
		most = max(most, c)
	}
}

// wantSpans asks for the same of automata of some sets, of what is written as spans.
func wantSpans(t *testing.T, text string, sets ...api.Set) {
	t.Helper()
	class, width := spans(text)
	wantClasses(t, text, row(sets...), class, width)
}

// wantModel asks for what the model tells.
func wantModel(t *testing.T, what string, n api.Nfa) {
	t.Helper()
	class, width := classesOf(setsOf(n))
	wantClasses(t, what, n, class, width)
}

// built is a pattern's automaton.
func built(t *testing.T, p string) api.Nfa {
	t.Helper()
	l, _, e := parse.Pattern(p)
	n, f := nfa.Build(l)
	if e != api.OK || f != api.OK {
		t.Fatalf("%s: %d, %d", p, e, f)
	}
	return n
}

func TestExample(t *testing.T) { // P10.1
	class, width := spans("96:0 97:1 98:2 255:0")
	wantClasses(t, "[ab]|b", built(t, "[ab]|b"), class, width)
	wantClasses(t, "b|[ab]", built(t, "b|[ab]"), class, width)
	wantSpans(t, "96:0 97:1 98:2 255:0", setOf('a', 'b'), setOf('b'))
	if width != 6 || class[256] != 3 || class[257] != 4 || class[258] != 5 {
		t.Errorf("%d classes, %v", width, class[256:])
	}
}

func TestPatterns(t *testing.T) { // P10.1
	for p, text := range map[string]string{
		"":                   "255:0",
		"^$":                 "255:0",
		"()*|^":              "255:0",
		"a":                  "96:0 97:1 255:0",
		"aaa":                "96:0 97:1 255:0",
		"a{0,0}":             "255:0",
		"ab|c*":              "96:0 97:1 98:2 99:3 255:0",
		"cab":                "96:0 97:1 98:2 99:3 255:0",
		"a[b-d]{2,}":         "96:0 97:1 100:2 255:0",
		"[a-f][c-h]":         "96:0 98:1 102:2 104:3 255:0",
		"[c-h][a-f]":         "96:0 98:1 102:2 104:3 255:0",
		"[a-f]|[b-e]|[cd]":   "96:0 97:1 98:2 100:3 101:2 102:1 255:0",
		"[0-9]+[^0-9]":       "47:0 57:1 255:0",
		"^[^a]$":             "96:0 97:1 255:0",
		"x|[[:digit:]]|[xy]": "47:0 57:1 119:0 120:2 121:3 255:0",
	} {
		class, width := spans(text)
		wantClasses(t, p, built(t, p), class, width)
	}
}

func TestNoSets(t *testing.T) { // P10.1
	class, width := spans("255:0")
	if width != 4 {
		t.Errorf("%d", width)
	}
	wantClasses(t, "of a final state alone", row(), class, width)
	for _, kind := range []int{api.StEmpty, api.StSplit, api.StBegin, api.StEnd} {
		n := api.Nfa{States: []api.State{{Kind: kind, A: 1}, {Kind: api.StFinal}}, Final: 1}
		wantClasses(t, "of one kind", n, class, width)
	}
	next := generator()
	for _, others := range []int{1, 2, 5, 599} {
		wantClasses(t, "without sets", mixed(next, nil, others), class, width)
	}
}

func TestOneSet(t *testing.T) { // P10.1
	wantSpans(t, "255:0", api.Set{})
	wantSpans(t, "255:0", all())
	wantSpans(t, "0:0 255:1", setOf(0))
	wantSpans(t, "0:0 255:1", fromTo(1, 255))
	wantSpans(t, "254:0 255:1", setOf(255))
	wantSpans(t, "254:0 255:1", fromTo(0, 254))
	wantSpans(t, "0:0 254:1 255:0", setOf(0, 255))
	wantSpans(t, "0:0 254:1 255:0", fromTo(1, 254))
	for b := 1; b < 255; b++ {
		class, width := make([]int, 256), 5
		class[b] = 1
		class = append(class, 2, 3, 4)
		wantClasses(t, "of one byte", row(setOf(byte(b))), class, width)
		wantClasses(t, "of all but one byte", row(rest(setOf(byte(b)))), class, width)
	}
}

func TestWordsEdges(t *testing.T) { // P10.1
	wantSpans(t, "62:0 63:1 64:2 255:0", setOf(63), setOf(64))
	wantSpans(t, "126:0 127:1 128:2 255:0", setOf(127), setOf(128))
	wantSpans(t, "190:0 191:1 192:2 255:0", setOf(191), setOf(192))
	wantSpans(t, "62:0 64:1 255:0", setOf(63, 64))
	wantSpans(t, "126:0 128:1 255:0", setOf(127, 128))
	wantSpans(t, "190:0 192:1 255:0", setOf(191, 192))
	wantSpans(t, "63:0 255:1", fromTo(0, 63))
	wantSpans(t, "127:0 255:1", fromTo(0, 127))
	wantSpans(t, "191:0 255:1", fromTo(0, 191))
	wantSpans(t, "63:0 127:1 255:0", fromTo(64, 127))
	wantSpans(t, "127:0 191:1 255:0", fromTo(128, 191))
	wantSpans(t, "191:0 255:1", fromTo(192, 255))
	wantSpans(t, "63:0 127:1 191:2 255:3", fromTo(192, 255), fromTo(128, 255), fromTo(64, 255))
	wantSpans(t, "0:0 63:1 64:0 127:1 128:0 191:1 192:0 255:1", setOf(0, 64, 128, 192))
	wantSpans(t, "62:0 63:1 126:0 127:1 190:0 191:1 254:0 255:1", setOf(63, 127, 191, 255))
	// One byte of each word, alike within its word and not in another one.
	wantSpans(t, "4:0 5:1 68:0 69:2 132:0 133:3 196:0 197:4 255:0", setOf(5), setOf(69), setOf(133), setOf(197))
}

func TestTwoSets(t *testing.T) { // P10.1
	for _, x := range []struct {
		text string
		a, b api.Set
	}{
		{"96:0 99:1 255:0", fromTo('a', 'c'), fromTo('a', 'c')},
		{"96:0 99:1 255:0", fromTo('a', 'c'), rest(fromTo('a', 'c'))},
		{"96:0 99:1 255:0", fromTo('a', 'c'), api.Set{}},
		{"96:0 99:1 255:0", fromTo('a', 'c'), all()},
		{"127:0 255:1", fromTo(0, 127), fromTo(128, 255)},
		{"255:0", api.Set{}, all()},
		// Which overlap, at their ends and in the middle; which lie side by side, and apart.
		{"96:0 98:1 100:2 102:3 255:0", fromTo('a', 'd'), fromTo('c', 'f')},
		{"96:0 97:1 98:2 99:3 255:0", fromTo('a', 'b'), fromTo('b', 'c')},
		{"99:0 200:1 255:2", fromTo(0, 200), fromTo(100, 255)},
		{"96:0 98:1 100:2 255:0", fromTo('a', 'b'), fromTo('c', 'd')},
		{"96:0 98:1 109:0 120:2 255:0", fromTo('a', 'b'), fromTo(110, 120)},
		// One within the other: at its beginning, its end, in the middle, and all but its ends.
		{"96:0 97:1 102:2 255:0", fromTo('a', 'f'), setOf('a')},
		{"96:0 101:1 102:2 255:0", fromTo('a', 'f'), setOf('f')},
		{"96:0 98:1 99:2 102:1 255:0", fromTo('a', 'f'), setOf('c')},
		{"96:0 97:1 101:2 102:1 255:0", fromTo('a', 'f'), fromTo('b', 'e')},
		{"0:0 254:1 255:0", all(), fromTo(1, 254)},
		// Bytes that are far apart are alike.
		{"9:0 10:1 19:0 20:2 29:0 30:3 39:0 40:1 255:0", setOf(10, 30, 40), setOf(20, 30)},
	} {
		wantSpans(t, x.text, x.a, x.b)
		wantSpans(t, x.text, x.b, x.a)
		wantSpans(t, x.text, x.a, x.b, x.a)
		wantSpans(t, x.text, rest(x.a), x.b)
		wantSpans(t, x.text, x.a, rest(x.b), rest(x.a), x.b)
	}
}

func TestNumbersRise(t *testing.T) { // P10.1: the order of the sets does not count
	a, m, z := setOf('a'), setOf('m'), setOf('z')
	for _, sets := range [][]api.Set{{a, m, z}, {a, z, m}, {m, a, z}, {m, z, a}, {z, a, m}, {z, m, a}} {
		wantSpans(t, "96:0 97:1 108:0 109:2 121:0 122:3 255:0", sets...)
	}
	wantSpans(t, "0:0 1:1 254:2 255:3", setOf(255), setOf(1), setOf(0))
	wantSpans(t, "0:0 1:1 2:2 255:3", setOf(2), setOf(1), setOf(0))
	wantSpans(t, "0:0 1:1 2:2 255:3", fromTo(0, 2), fromTo(0, 1), setOf(0))
	wantSpans(t, "252:0 253:1 254:2 255:3", setOf(255), setOf(254), setOf(253))
	wantSpans(t, "0:0 1:1 2:0 3:1 4:2 5:3 6:2 255:3", setBy(func(b int) bool { return b >= 4 }), setBy(func(b int) bool { return b%2 == 1 || b > 6 }))
}

// eachAlone are classes by which each byte is alone.
func eachAlone() ([]int, int) {
	var class []int
	for i := range 259 {
		class = append(class, i)
	}
	return class, 259
}

func TestAllBytesAlone(t *testing.T) { // P10.1
	var bits, ones, steps []api.Set
	for k := range 8 {
		bits = append(bits, setBy(func(b int) bool { return b>>k%2 == 1 }))
	}
	for b := range 256 {
		ones = append(ones, setOf(byte(b)))
		steps = append(steps, fromTo(0, b))
	}
	class, width := eachAlone()
	for _, sets := range [][]api.Set{bits, ones, steps, ones[1:], ones[:255], slices.Concat(ones[:100], ones[101:]), slices.Concat(bits, ones, steps)} {
		wantClasses(t, "each byte alone", row(sets...), class, width)
		slices.Reverse(sets)
		wantClasses(t, "each byte alone", row(sets...), class, width)
	}
}

func TestManyBytesAlone(t *testing.T) { // P10.1
	// All but two are alone: those that are left out stand where the first of them stands.
	for _, two := range [][2]int{{0, 1}, {0, 255}, {63, 64}, {127, 128}, {191, 192}, {254, 255}, {7, 200}} {
		var sets []api.Set
		var class []int
		for b := range 259 {
			switch {
			case b == two[1]:
				class = append(class, two[0])
				continue
			case b > two[1]:
				class = append(class, b-1)
			default:
				class = append(class, b)
			}
			if b < 256 && b != two[0] {
				sets = append(sets, setOf(byte(b)))
			}
		}
		wantClasses(t, "all but two alone", row(sets...), class, 258)
	}
	// Without one of the eight bits each byte has just one other one beside it.
	for k := range 8 {
		var sets []api.Set
		for j := range 8 {
			if j != k {
				sets = append(sets, setBy(func(b int) bool { return b>>j%2 == 1 }))
			}
		}
		var class []int
		for b := range 256 {
			class = append(class, b%(1<<k)+b>>(k+1)<<k)
		}
		class = append(class, 128, 129, 130)
		wantClasses(t, "pairs", row(sets...), class, 131)
	}
	var letters []api.Set
	for b := byte('z'); b >= 'a'; b-- {
		letters = append(letters, setOf(b))
	}
	class, width := Classes(row(letters...))
	if width != 30 || class['a'] != 1 || class['z'] != 26 || class['z'+1] != 0 || class['a'-1] != 0 || class[256] != 27 {
		t.Errorf("%s, %d", brief(class), width)
	}
}

// moved is an automaton whose states stand in changed places: state i at to[i].
func moved(n api.Nfa, to []int) api.Nfa {
	m := api.Nfa{States: make([]api.State, len(n.States)), Start: to[n.Start], Final: to[n.Final]}
	for i, s := range n.States {
		if s.Kind != api.StFinal {
			s.A = to[s.A]
		}
		if s.Kind == api.StSplit {
			s.B = to[s.B]
		}
		m.States[to[i]] = s
	}
	return m
}

func TestSetsAloneCount(t *testing.T) { // P10.1
	for _, p := range []string{"[ab]|b", "(x[0-9])*y|^a{2}$", "[a-f][c-h]|z?", ""} {
		n := built(t, p)
		class, width := classesOf(setsOf(n))
		wantClasses(t, p, n, class, width)
		size := len(n.States)
		for by := range size {
			var turned, back []int
			for i := range size {
				turned, back = append(turned, (i+by)%size), append(back, (size-1-i+by)%size)
			}
			wantClasses(t, p, moved(n, turned), class, width)
			wantClasses(t, p, moved(n, back), class, width)
		}
		// Each state goes to one and the same, to itself, and nothing is reached.
		for to := range size {
			for _, own := range []bool{false, true} {
				m := api.Nfa{States: slices.Clone(n.States), Start: to, Final: n.Final}
				for i, s := range m.States {
					if own {
						to = i
					}
					if s.Kind != api.StFinal {
						m.States[i].A = to
					}
					if s.Kind == api.StSplit {
						m.States[i].B = to
					}
				}
				wantClasses(t, p, m, class, width)
			}
		}
		m := api.Nfa{States: slices.Clone(n.States), Start: n.Final, Final: n.Final}
		wantClasses(t, p, m, class, width)
	}
}

func TestGreatAutomata(t *testing.T) { // P10.1
	class, width := spans("96:0 97:1 255:0")
	for _, k := range []int{0, 1, 2, 255, 256, 257, 258, 259, 299, 597, 598} {
		sets := make([]api.Set, 599)
		sets[k] = setOf('a')
		wantClasses(t, "one set of 599", row(sets...), class, width)
		n := api.Nfa{States: make([]api.State, 600), Start: k, Final: 599}
		for i := range n.States {
			n.States[i] = api.State{Kind: api.StSplit, A: i, B: 599 - i}
		}
		n.States[k] = api.State{Kind: api.StSet, Set: setOf('a')}
		n.States[599] = api.State{Kind: api.StFinal}
		wantClasses(t, "one set among 599 splits", n, class, width)
	}
	next := generator()
	for range 8 {
		wantModel(t, "599 mixed sets", row(mixedSets(next, 599)...))
		wantModel(t, "300 mixed sets of 600", mixed(next, mixedSets(next, 300), 299))
	}
	// Sets that part little, so that what parts comes late.
	sets := make([]api.Set, 599)
	for i := range sets {
		sets[i] = fromTo(i/40, 255-i/60)
	}
	wantModel(t, "599 runs", row(sets...))
	if class, width := Classes(row(append(sets, all())...)); len(class) != 0 || width != 0 {
		t.Errorf("of 601 states: %s, %d", brief(class), width)
	}
}

// wantNothing asks that an automaton is not right, and has no classes.
func wantNothing(t *testing.T, what string, n api.Nfa) {
	t.Helper()
	if nfa.Right(n) {
		t.Errorf("%s is right", what)
	}
	if class, width := Classes(n); len(class) != 0 || width != 0 {
		t.Errorf("Classes(%s): %s, %d", what, brief(class), width)
	}
}

func TestHowManyStates(t *testing.T) { // P10.1: what is not right
	wantNothing(t, "nothing", api.Nfa{})
	wantNothing(t, "no states", api.Nfa{States: []api.State{}})
	sets := make([]api.Set, 2000)
	for i := range sets {
		sets[i] = setOf(byte(i))
	}
	for _, size := range []int{1, 2, 599, 600} {
		wantModel(t, "rows", row(sets[:size-1]...))
	}
	for _, size := range []int{601, 602, 1200, 2001} {
		wantNothing(t, "rows", row(sets[:size-1]...))
	}
}

// allKinds is an automaton that is right, with a state of each kind: 0 StSet, 1 StEmpty, 2 StSplit, 3 StBegin, 4 StEnd, 5 StFinal.
func allKinds() api.Nfa {
	return api.Nfa{States: []api.State{
		{Kind: api.StSet, A: 1, Set: setOf('a')},
		{Kind: api.StEmpty, A: 2},
		{Kind: api.StSplit, A: 3, B: 0},
		{Kind: api.StBegin, A: 4},
		{Kind: api.StEnd, A: 5},
		{Kind: api.StFinal},
	}, Final: 5}
}

func TestPlacesThatAreNone(t *testing.T) { // P10.1: what is not right
	class, width := spans("96:0 97:1 255:0")
	wantClasses(t, "all kinds", allKinds(), class, width)
	for _, to := range append(edges(), 4, 5, 6, 7) {
		for _, x := range []struct {
			what string
			put  func(n *api.Nfa)
			may  bool
		}{
			{"A of StSet", func(n *api.Nfa) { n.States[0].A = to }, to >= 0 && to < 6},
			{"A of StEmpty", func(n *api.Nfa) { n.States[1].A = to }, to >= 0 && to < 6},
			{"A of StSplit", func(n *api.Nfa) { n.States[2].A = to }, to >= 0 && to < 6},
			{"A of StBegin", func(n *api.Nfa) { n.States[3].A = to }, to >= 0 && to < 6},
			{"A of StEnd", func(n *api.Nfa) { n.States[4].A = to }, to >= 0 && to < 6},
			{"A of StFinal", func(n *api.Nfa) { n.States[5].A = to }, to == 0},
			{"B of StSet", func(n *api.Nfa) { n.States[0].B = to }, to == 0},
			{"B of StEmpty", func(n *api.Nfa) { n.States[1].B = to }, to == 0},
			{"B of StSplit", func(n *api.Nfa) { n.States[2].B = to }, to >= 0 && to < 6},
			{"B of StBegin", func(n *api.Nfa) { n.States[3].B = to }, to == 0},
			{"B of StEnd", func(n *api.Nfa) { n.States[4].B = to }, to == 0},
			{"B of StFinal", func(n *api.Nfa) { n.States[5].B = to }, to == 0},
			{"Start", func(n *api.Nfa) { n.Start = to }, to >= 0 && to < 6},
			{"Final", func(n *api.Nfa) { n.Final = to }, to == 5},
		} {
			n := allKinds()
			x.put(&n)
			if x.may {
				wantClasses(t, x.what, n, class, width)
			} else {
				wantNothing(t, x.what, n)
			}
		}
	}
}

func TestKindsAndSetsThatMayNotBe(t *testing.T) { // P10.1: what is not right
	for i := range 6 {
		for _, kind := range append(edges(), 4, 5, 6, 7, 8) {
			if kind >= 1 && kind <= 6 {
				continue
			}
			n := allKinds()
			n.States[i].Kind = kind
			wantNothing(t, "a kind that is none", n)
		}
		// All but StSet have no Set.
		for _, s := range []api.Set{setOf(0), setOf(255), setOf('a'), {0, 0, 1, 0}, all()} {
			n := allKinds()
			n.States[i].Set = s
			if i == 0 {
				wantModel(t, "a Set of StSet", n)
			} else {
				wantNothing(t, "a Set of another kind", n)
			}
		}
	}
	n := allKinds()
	n.States[5] = api.State{Kind: api.StEmpty}
	wantNothing(t, "no StFinal", n)
	n.States[5] = api.State{Kind: api.StSet, Set: setOf('b')}
	wantNothing(t, "a Final that is a StSet", n)
	for i := range 5 {
		n := allKinds()
		n.States[i] = api.State{Kind: api.StFinal}
		wantNothing(t, "two StFinal", n)
		n.Final = i
		wantNothing(t, "two StFinal", n)
		n.States[5] = api.State{Kind: api.StEmpty, A: i}
		wantModel(t, "a StFinal in another place", n)
	}
}

// wantFirsts asks for first places.
func wantFirsts(t *testing.T, class []int, width int, want ...int) {
	t.Helper()
	if got := Firsts(class, width); !slices.Equal(got, want) {
		t.Errorf("Firsts(%s, %d): %v, not %v", brief(class), width, got, want)
	}
}

func TestFirsts(t *testing.T) { // P10.2
	wantFirsts(t, []int{2, 0, 2}, 3, 1, -1, 0)
	wantFirsts(t, []int{0, 0, 1, 1, 0, 2}, 3, 0, 2, 5)
	wantFirsts(t, []int{2, 1, 0, 0, 1, 2}, 3, 2, 1, 0)
	wantFirsts(t, []int{1, 1, 1, 0}, 2, 3, 0)
	wantFirsts(t, []int{0, 0, 0, 0}, 1, 0)
	// Classes that stand nowhere: between others, ahead of them, behind them.
	wantFirsts(t, []int{0, 2, 4, 2, 0}, 5, 0, -1, 1, -1, 2)
	wantFirsts(t, []int{3, 3}, 4, -1, -1, -1, 0)
	wantFirsts(t, []int{0, 1}, 5, 0, 1, -1, -1, -1)
	wantFirsts(t, []int{5, 6, 7}, 5, -1, -1, -1, -1, -1)
	// A width below the number of classes: those above it are left out.
	wantFirsts(t, []int{0, 1, 2, 3}, 3, 0, 1, 2)
	wantFirsts(t, []int{3, 2, 1, 0}, 2, 3, 2)
	wantFirsts(t, []int{3, 2, 1, 0}, 1, 3)
	wantFirsts(t, []int{3, 2, 1, 0}, 0)
	wantFirsts(t, []int{3, 2, 1}, 1, -1)
	// Lists of no place and of one.
	wantFirsts(t, nil, 0)
	wantFirsts(t, nil, 3, -1, -1, -1)
	wantFirsts(t, []int{}, 2, -1, -1)
	wantFirsts(t, []int{0}, 2, 0, -1)
	wantFirsts(t, []int{1}, 2, -1, 0)
	wantFirsts(t, []int{2}, 2, -1, -1)
	wantFirsts(t, []int{0}, 1, 0)
	wantFirsts(t, []int{0}, 0)
}

func TestFirstsOfClasses(t *testing.T) { // P10.1, P10.2
	class, width := Classes(built(t, "[ab]|b"))
	wantFirsts(t, class, width, 0, 'a', 'b', 256, 257, 258)
	wantFirsts(t, class, 3, 0, 'a', 'b')
	wantFirsts(t, class, 7, 0, 'a', 'b', 256, 257, 258, -1)
	class, width = Classes(row())
	wantFirsts(t, class, width, 0, 256, 257, 258)
	// First places rise, and each is of its class.
	next := generator()
	for range 100 {
		class, width := Classes(row(mixedSets(next, next(12))...))
		l := Firsts(class, width)
		if len(l) != width || !slices.IsSorted(l) || l[0] != 0 {
			t.Errorf("Firsts(%s, %d): %v", brief(class), width, l)
		}
		for c, i := range l {
			if i < 0 || class[i] != c || slices.Contains(class[:i], c) {
				t.Errorf("Firsts(%s, %d): %d of %d", brief(class), width, i, c)
			}
		}
	}
}

func TestWidths(t *testing.T) { // P10.2
	var up, down []int
	for i := range 400 {
		up, down = append(up, i), append(down, 399-i)
	}
	for _, x := range []struct{ width, want int }{
		{0, 0}, {-1, 0}, {-2, 0}, {-259, 0}, {math.MinInt32, 0}, {math.MinInt + 1, 0}, {math.MinInt, 0},
		{1, 1}, {2, 2}, {255, 255}, {256, 256}, {257, 257}, {258, 258}, {259, 259},
		{260, 259}, {261, 259}, {400, 259}, {1 << 20, 259}, {math.MaxInt32, 259}, {1 << 32, 259}, {1<<32 + 1, 259}, {math.MaxInt - 1, 259}, {math.MaxInt, 259},
	} {
		var none, one, rising, falling []int
		for c := range x.want {
			none, one, rising, falling = append(none, -1), append(one, -1), append(rising, c), append(falling, 399-c)
		}
		wantFirsts(t, nil, x.width, none...)
		wantFirsts(t, up, x.width, rising...)
		wantFirsts(t, down, x.width, falling...)
		if x.want > 0 {
			one[x.want-1] = 0
			wantFirsts(t, []int{x.want - 1}, x.width, one...)
		}
		// The first class that is left out.
		wantFirsts(t, []int{x.want}, x.width, none...)
		wantFirsts(t, []int{x.want, x.want + 1, 259, 260}, x.width, none...)
	}
}

func TestFirstsOfLongLists(t *testing.T) { // P10.2
	long := make([]int, 100000)
	for i := range long {
		long[i] = 7
	}
	wantFirsts(t, long, 3, -1, -1, -1)
	long[99999], long[259], long[258], long[260] = 0, 1, 2, 2
	wantFirsts(t, long, 4, 99999, 259, 258, -1)
	long[5000] = 258
	long[5001] = 259
	if l := Firsts(long, math.MaxInt); len(l) != 259 || l[258] != 5000 || l[7] != 0 || l[0] != 99999 || l[257] != -1 {
		t.Errorf("Firsts of a long list: %v", l)
	}
}

func TestFirstsOfNumbersThatAreNoClasses(t *testing.T) { // P10.2
	for _, x := range edges() {
		if x >= 0 && x < 5 {
			continue
		}
		wantFirsts(t, []int{x}, 5, -1, -1, -1, -1, -1)
		wantFirsts(t, []int{x, 4, x, 0, x}, 5, 3, -1, -1, -1, 1)
		if x < 0 || x > 258 {
			for _, c := range Firsts([]int{x, x}, 259) {
				if c != -1 {
					t.Errorf("Firsts of %d: %d", x, c)
				}
			}
		}
	}
	wantFirsts(t, append(edges(), edges()...), 4, 7, 8, 9, 10)
}

func TestFirstsOfAllSmallLists(t *testing.T) { // P10.2
	for n := range 6 {
		listsOf(n, []int{-1, 0, 1, 2, 3}, func(l []int) {
			for width := -1; width <= 5; width++ {
				wantFirsts(t, l, width, firstsOf(l, width)...)
			}
		})
	}
}

// wantJoined asks for classes, and that they do not hang on the order of the lists.
func wantJoined(t *testing.T, a, b, want []int, width int) {
	t.Helper()
	for range 2 {
		if got, n := Join(a, b); !slices.Equal(got, want) || n != width {
			t.Fatalf("Join(%s; %s): %s, %d; not %s, %d", brief(a), brief(b), brief(got), n, brief(want), width)
		}
		a, b = b, a
	}
}

func TestJoin(t *testing.T) { // P10.3
	for _, x := range []struct {
		a, b, want []int
		width      int
	}{
		{nil, nil, nil, 0}, {[]int{}, nil, nil, 0}, {[]int{}, []int{}, nil, 0},
		{[]int{0}, []int{0}, []int{0}, 1}, {[]int{5}, []int{-7}, []int{0}, 1},
		// The same list twice; numbered anew.
		{[]int{0, 1, 0, 2}, []int{0, 1, 0, 2}, []int{0, 1, 0, 2}, 3},
		{[]int{3, 1, 3, 2}, []int{3, 1, 3, 2}, []int{0, 1, 0, 2}, 3},
		// What parts nothing, what parts all.
		{[]int{0, 1, 0, 2}, []int{4, 4, 4, 4}, []int{0, 1, 0, 2}, 3},
		{[]int{9, 9, 9, 9}, []int{4, 4, 4, 4}, []int{0, 0, 0, 0}, 1},
		{[]int{0, 1, 0, 2}, []int{0, 1, 2, 3}, []int{0, 1, 2, 3}, 4},
		{[]int{0, 1, 0, 2}, []int{3, 2, 1, 0}, []int{0, 1, 2, 3}, 4},
		{[]int{0, 0, 0, 0}, []int{3, 2, 1, 0}, []int{0, 1, 2, 3}, 4},
		// Where each tells something apart that the other one does not.
		{[]int{0, 0, 1, 1}, []int{0, 1, 0, 1}, []int{0, 1, 2, 3}, 4},
		{[]int{0, 0, 1, 1}, []int{0, 1, 1, 0}, []int{0, 1, 2, 3}, 4},
		{[]int{0, 0, 1, 1, 0, 1}, []int{0, 1, 0, 1, 1, 0}, []int{0, 1, 2, 3, 1, 2}, 4},
		{[]int{0, 0, 1}, []int{0, 1, 1}, []int{0, 1, 2}, 3},
		{[]int{1, 0, 0, 1, 0}, []int{0, 0, 1, 0, 1}, []int{0, 1, 2, 0, 2}, 3},
		// What is told apart by one of two that are alike when they are changed for each other.
		{[]int{1, 2}, []int{2, 1}, []int{0, 1}, 2},
		{[]int{1, 2, 1, 2}, []int{2, 1, 1, 2}, []int{0, 1, 2, 3}, 4},
		// Numbers of which sums, differences and products are alike.
		{[]int{0, 1, 2, 3}, []int{3, 2, 1, 0}, []int{0, 1, 2, 3}, 4},
		{[]int{0, 1, 2, 3}, []int{0, 1, 2, 3}, []int{0, 1, 2, 3}, 4},
		{[]int{1, 2, 3, 6}, []int{6, 3, 2, 1}, []int{0, 1, 2, 3}, 4},
		{[]int{0, 1}, []int{259, 0}, []int{0, 1}, 2}, {[]int{0, 1}, []int{258, -1}, []int{0, 1}, 2}, {[]int{0, 1}, []int{1 << 32, 0}, []int{0, 1}, 2},
		// Numbered by first places, whatever numbers come in.
		{[]int{2, 1, 0}, []int{0, 0, 0}, []int{0, 1, 2}, 3},
		{[]int{2, 0, 2, 1}, []int{0, 0, 0, 0}, []int{0, 1, 0, 2}, 3},
		{[]int{1, 1, 0, 1}, []int{1, 0, 0, 0}, []int{0, 1, 2, 1}, 3},
		{[]int{math.MaxInt, math.MinInt, 0}, []int{0, math.MaxInt, math.MinInt}, []int{0, 1, 2}, 3},
		{[]int{math.MaxInt, math.MinInt, math.MaxInt, math.MinInt}, []int{math.MinInt, math.MaxInt, math.MinInt, math.MinInt}, []int{0, 1, 0, 2}, 3},
		{[]int{-1, 260, -1, 0}, []int{1 << 40, 1 << 40, 1 << 40, 1 << 40}, []int{0, 1, 0, 2}, 3},
	} {
		wantJoined(t, x.a, x.b, x.want, x.width)
	}
}

func TestJoinOfUnlikeLengths(t *testing.T) { // P10.3
	long := make([]int, 1000)
	for _, x := range [][2]int{{0, 1}, {0, 2}, {0, 259}, {1, 2}, {1, 3}, {2, 4}, {258, 259}, {259, 260}, {1, 259}, {259, 1000}, {999, 1000}, {500, 1000}} {
		for range 2 {
			class, width := Join(long[:x[0]], long[:x[1]])
			if len(class) != 0 || width != 0 {
				t.Errorf("Join of %d and %d: %s, %d", x[0], x[1], brief(class), width)
			}
			x[0], x[1] = x[1], x[0]
		}
	}
	for _, l := range [][]int{{0}, {-1}, {5, 5}, {1, 2, 3}, long[:259], long} {
		for _, none := range [][]int{nil, {}} {
			if class, width := Join(l, none); len(class) != 0 || width != 0 {
				t.Errorf("Join(%s, none): %s, %d", brief(l), brief(class), width)
			}
			if class, width := Join(none, l); len(class) != 0 || width != 0 {
				t.Errorf("Join(none, %s): %s, %d", brief(l), brief(class), width)
			}
		}
	}
}

func TestJoinOfLengths(t *testing.T) { // P10.3
	for _, n := range []int{1, 2, 63, 64, 65, 258, 259, 260, 1000, 5000} {
		alone, one, high, low, third, mod, sixth := make([]int, n), make([]int, n), make([]int, n), make([]int, n), make([]int, n), make([]int, n), make([]int, n)
		for i := range n {
			alone[i], high[i], low[i] = i, math.MaxInt-i, math.MinInt+i
			third[i], mod[i], sixth[i] = i%3, -i%2, i%6
		}
		wantJoined(t, one, one, one, 1)
		wantJoined(t, one, alone, alone, n)
		wantJoined(t, one, high, alone, n)
		wantJoined(t, low, one, alone, n)
		wantJoined(t, low, high, alone, n)
		wantJoined(t, third, mod, sixth, min(n, 6))
		wantJoined(t, third, sixth, sixth, min(n, 6))
		wantJoined(t, third, third, third, min(n, 3))
	}
}

func TestJoinOfEdges(t *testing.T) { // P10.3: each number is a class like others
	l := edges()
	for _, x := range l {
		for _, y := range l {
			want, width := []int{0, 0}, 1
			if x != y {
				want, width = []int{0, 1}, 2
			}
			wantJoined(t, []int{x, y}, []int{0, 0}, want, width)
			wantJoined(t, []int{x, y}, []int{x, y}, want, width)
			wantJoined(t, []int{x, y}, []int{y, x}, want, width)
			wantJoined(t, []int{x, x, x}, []int{y, y, y}, []int{0, 0, 0}, 1)
		}
	}
	var a, b, want []int
	for i := range l {
		for j := range l {
			a, b, want = append(a, l[i]), append(b, l[j]), append(want, len(want))
		}
	}
	wantJoined(t, a, b, want, len(want))
	wantJoined(t, slices.Concat(a, a), slices.Concat(b, b), slices.Concat(want, want), len(want))
}

// wantTold asks that a joined list tells apart what either tells apart, and nothing else, with no number left out.
func wantTold(t *testing.T, a, b []int) {
	t.Helper()
	class, width := Join(a, b)
	other, w := Join(b, a)
	if len(class) != len(a) || !slices.Equal(class, other) || width != w {
		t.Fatalf("Join(%v, %v): %v, %d; the other way round %v, %d", a, b, class, width, other, w)
	}
	for i := range class {
		for j := range i {
			if (class[i] != class[j]) != (a[i] != a[j] || b[i] != b[j]) {
				t.Fatalf("Join(%v, %v): %v, at %d and %d", a, b, class, j, i)
			}
		}
		if class[i] < 0 || i == 0 && class[i] != 0 || i > 0 && class[i] > slices.Max(class[:i])+1 {
			t.Fatalf("Join(%v, %v): %v, at %d", a, b, class, i)
		}
	}
	if len(class) > 0 && slices.Max(class) != width-1 {
		t.Fatalf("Join(%v, %v): %v, %d", a, b, class, width)
	}
}

func TestJoinOfAllSmallLists(t *testing.T) { // P10.3, P10.4
	count := 0
	for n := range 6 {
		of := []int{0, 1, 2}
		if n == 4 {
			of = []int{-1, 0, 1, math.MaxInt}
		}
		if n == 3 {
			of = []int{math.MinInt, -1, 0, 258, math.MaxInt}
		}
		listsOf(n, of, func(a []int) {
			own, most := joined(a, a)
			wantJoined(t, a, a, own, most)
			wantJoined(t, a, make([]int, n), own, most)
			wantJoined(t, own, a, own, most)
			listsOf(n, of, func(b []int) {
				want, width := joined(a, b)
				wantJoined(t, a, b, want, width)
				wantTold(t, a, b)
				count++
			})
		})
	}
	if count != 1+9+81+125*125+256*256+243*243 {
		t.Errorf("%d pairs", count)
	}
}

func TestJoinOfThree(t *testing.T) { // P10.4
	// It does not count how three are put together.
	var lists [][]int
	listsOf(4, []int{0, 1}, func(l []int) { lists = append(lists, l) })
	for _, a := range lists {
		for _, b := range lists {
			for _, c := range lists {
				ab, _ := Join(a, b)
				bc, _ := Join(b, c)
				x, n := Join(ab, c)
				y, m := Join(a, bc)
				if !slices.Equal(x, y) || n != m {
					t.Fatalf("Join of %v, %v, %v: %v, %d; %v, %d", a, b, c, x, n, y, m)
				}
			}
		}
	}
}

// inOrOut tells a set's bytes from all other symbols, with numbers of its own.
func inOrOut(s api.Set, in, out int) []int {
	var l []int
	for sym := range 259 {
		if sym < 256 && has(s, sym) {
			l = append(l, in)
		} else {
			l = append(l, out)
		}
	}
	return l
}

func TestClassesAreJoinedSets(t *testing.T) { // P10.4
	ends := make([]int, 256)
	ends = append(ends, 8, -8, 9)
	next := generator()
	for k := range 150 {
		sets := mixedSets(next, k%20)
		n := mixed(next, sets, next(10))
		want, width := Classes(n)
		// The ends come in ahead, or behind, or in the middle.
		class, w := Join(make([]int, 259), make([]int, 259))
		at := next(len(sets) + 1)
		for i := 0; i <= len(sets); i++ {
			if i == at {
				class, w = Join(ends, class)
			}
			if i < len(sets) {
				class, w = Join(class, inOrOut(sets[i], next(300)-400, next(300)))
			}
		}
		if !slices.Equal(class, want) || w != width {
			t.Fatalf("joined: %s, %d; Classes: %s, %d", brief(class), w, brief(want), width)
		}
		wantModel(t, "mixed", n)
	}
}

func TestClassesOfTwoAutomata(t *testing.T) { // P10.4
	patterns := []string{"", "a", "[ab]|b", "[a-f]*[c-h]", "x|[0-9]+", "[^a]", "\\x00|\\xff", "^(ab|c){2,3}$", "[[:alpha:]][[:alnum:]]*", "."}
	for _, p := range patterns {
		for _, q := range patterns {
			a, _ := Classes(built(t, p))
			b, _ := Classes(built(t, q))
			wantTold(t, a, b)
			want, width := joined(a, b)
			wantJoined(t, a, b, want, width)
			// Of both in one automaton they are the same.
			wantClasses(t, p+" or "+q, built(t, "("+p+")|("+q+")"), want, width)
		}
		own, width := Classes(built(t, p))
		wantJoined(t, own, own, own, width)
	}
	next := generator()
	for range 60 {
		x, y := mixedSets(next, next(9)), mixedSets(next, next(9))
		a, _ := Classes(row(x...))
		b, _ := Classes(row(y...))
		wantTold(t, a, b)
		want, width := Join(a, b)
		wantClasses(t, "two rows", row(slices.Concat(x, y)...), want, width)
	}
}

func TestStepTellsNoMore(t *testing.T) { // P10.1, P10.4: bytes are in one class just if each state goes on by both alike
	next := generator()
	var l []api.Nfa
	for _, p := range []string{"[ab]|b", "(x[0-9])*y|^a{2}$", "[a-f][c-h]|z?", "", "[^a-y]+"} {
		l = append(l, built(t, p))
	}
	for range 10 {
		l = append(l, mixed(next, mixedSets(next, 1+next(4)), next(4)))
	}
	for _, n := range l {
		class, width := Classes(n)
		goes := make([]string, 256)
		for b := range goes {
			for i := range n.States {
				for _, to := range nfa.Step(n, []int{i}, byte(b)) {
					goes[b] += string(rune(to)) + ","
				}
				goes[b] += ";"
			}
		}
		for x := range 256 {
			for y := range x {
				if (goes[x] == goes[y]) != (class[x] == class[y]) {
					t.Fatalf("%s, %d: %d and %d", brief(class), width, y, x)
				}
			}
		}
	}
}

func TestMixedLists(t *testing.T) { // P1, P10.2 to P10.4
	next := generator()
	for range 2000 {
		n := next(30)
		if next(20) == 0 {
			n = next(400)
		}
		a, b := rawList(next, n), rawList(next, n)
		want, width := joined(a, b)
		wantJoined(t, a, b, want, width)
		w := edges()[next(len(edges()))]
		wantFirsts(t, a, w, firstsOf(a, w)...)
		wantFirsts(t, want, width, firstsOf(want, width)...)
		if c, m := Join(a, append(b, 0)); len(c) != 0 || m != 0 {
			t.Errorf("Join of %d and %d: %s, %d", n, n+1, brief(c), m)
		}
	}
}

// rawNfa is an automaton of any fields, by what next tells: right now and then.
func rawNfa(next func(int) int) api.Nfa {
	n := mixed(next, mixedSets(next, next(4)), next(4))
	for range next(3) {
		s, x := &n.States[next(len(n.States))], edges()[next(len(edges()))]
		switch next(7) {
		case 0:
			s.Kind = next(9) - 1
		case 1:
			s.Kind = x
		case 2:
			s.A = x
		case 3:
			s.B = x
		case 4:
			s.Set = mixedSet(next)
		case 5:
			n.Start = x
		default:
			n.Final = x
		}
	}
	return n
}

func TestRawAutomata(t *testing.T) { // P1, P10.1
	next := generator()
	right := 0
	for range 3000 {
		n := rawNfa(next)
		if nfa.Right(n) {
			wantModel(t, "raw", n)
			right++
		} else {
			wantNothing(t, "raw", n)
		}
	}
	if right < 1000 || right > 2500 {
		t.Errorf("%d are right", right)
	}
}

func TestGreatLists(t *testing.T) { // P1
	n := 1 << 20
	a, b := make([]int, n), make([]int, n)
	for i := range a {
		a[i], b[i] = i%1000, i%999
	}
	class, width := Join(a, b)
	if width != 999000 || class[998999] != 998999 || class[999000] != 0 || class[n-1] != n-1-999000 {
		t.Errorf("%d, %d, %d, %d", width, class[998999], class[999000], class[n-1])
	}
	if l := Firsts(class, math.MaxInt); len(l) != 259 || l[0] != 0 || l[258] != 258 {
		t.Errorf("%v", l)
	}
	slices.Reverse(class)
	if l := Firsts(class, math.MaxInt); len(l) != 259 || l[0] != n-1-999000 || l[258] != n-1-999000-258 {
		t.Errorf("%v", l)
	}
}

func TestWhatIsHandedInStays(t *testing.T) { // P2, rules 3 and 4
	n := mixed(generator(), []api.Set{setOf('a', 'b'), setOf('b'), all()}, 9)
	was := slices.Clone(n.States)
	class, width := Classes(n)
	keep := slices.Clone(class)
	if !slices.Equal(n.States, was) {
		t.Errorf("Classes has changed what was handed in")
	}
	for i := range n.States {
		n.States[i] = api.State{}
	}
	if !slices.Equal(class, keep) || width != 6 {
		t.Errorf("Classes answers what was handed in")
	}
	// With room behind the lists, which is not to be written to.
	room := []int{2, 0, 2, 1, 77, 78, 79, 80, 81}
	a := room[:4]
	first, joint := Firsts(a, 3), []int{}
	joint, _ = Join(a, a)
	if !slices.Equal(room, []int{2, 0, 2, 1, 77, 78, 79, 80, 81}) {
		t.Errorf("what was handed in is %v", room)
	}
	b := []int{0, 1, 0, 2}
	other, _ := Join(b, make([]int, 4))
	if !slices.Equal(b, []int{0, 1, 0, 2}) {
		t.Errorf("what was handed in is %v", b)
	}
	for i := range room {
		room[i] = 9
	}
	for i := range b {
		b[i] = 9
	}
	if !slices.Equal(first, []int{1, 3, 0}) || !slices.Equal(joint, []int{0, 1, 0, 2}) || !slices.Equal(other, []int{0, 1, 0, 2}) {
		t.Errorf("what was answered is %v, %v, %v", first, joint, other)
	}
	// What is refused is not changed either.
	c, d := []int{1, 2}, []int{3}
	Join(c, d)
	Firsts(c, -1)
	if !slices.Equal(c, []int{1, 2}) || !slices.Equal(d, []int{3}) {
		t.Errorf("what was handed in is %v, %v", c, d)
	}
}

func TestAnswersAreNew(t *testing.T) { // P2, rule 4
	n := built(t, "[ab]|b")
	want, width := spans("96:0 97:1 98:2 255:0")
	a, b := []int{2, 0, 2, 1}, []int{0, 0, 0, 0}
	for range 3 {
		class, w := Classes(n)
		first := Firsts(a, 3)
		joint, m := Join(a, b)
		if !slices.Equal(class, want) || w != width || !slices.Equal(first, []int{1, 3, 0}) || !slices.Equal(joint, []int{0, 1, 0, 2}) || m != 3 {
			t.Fatalf("%s, %d, %v, %v, %d", brief(class), w, first, joint, m)
		}
		for _, l := range [][]int{class, first, joint} {
			for i := range l {
				l[i] = -5
			}
			_ = append(l[:0], make([]int, cap(l))...)
		}
		// Other calls between them leave nothing behind.
		Classes(row(setOf('z')))
		Classes(api.Nfa{})
		Firsts([]int{5, 5}, 9)
		Join([]int{7, 7, 8}, []int{1, 2, 3})
	}
	if !slices.Equal(a, []int{2, 0, 2, 1}) || !slices.Equal(b, []int{0, 0, 0, 0}) {
		t.Errorf("what was handed in is %v, %v", a, b)
	}
	// An answer handed in again is an argument like others.
	class, w := Classes(n)
	again, m := Join(class, class)
	class[0] = 99
	if !slices.Equal(again, want) || m != w {
		t.Errorf("Join of an answer: %s, %d", brief(again), m)
	}
}
