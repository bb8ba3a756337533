package subset

import (
	"math"
	"slices"
	"strings"
	"testing"

	"tatting/api"
	"tatting/nfa"
	"tatting/parse"
)

// The classes of automata without a byte of their own, of the line feed alone, of a alone, of a and b, of a, b and c.
const (
	none   = "255:0"
	onFeed = "9:0 10:1 255:0"
	onA    = "96:0 97:1 255:0"
	onAB   = "96:0 97:1 98:2 255:0"
	onAC   = "96:0 97:1 98:2 99:3 255:0"
)

// wantDecided asks for a decided automaton, for as many states as there are, for more, and for less; and for how many there are.
func wantDecided(t *testing.T, what string, n api.Nfa, want api.Dfa) {
	t.Helper()
	size := len(want.Accept)
	for _, most := range []int{size, size + 1, 2*size + 1000, api.Begin, api.End, api.Both, 1 << 40, math.MaxInt} {
		if most < size {
			continue
		}
		d, e := Build(n, most)
		if !same(d, want) || e != api.OK {
			// What follows would be asked of another automaton.
			t.Fatalf("Build(%s, %d): %s, %d; not %s", what, most, brief(d), e, brief(want))
		}
		if k := Count(n, most); k != size {
			t.Fatalf("Count(%s, %d): %d, not %d", what, most, k, size)
		}
		wantShape(t, what, d)
	}
	for _, most := range []int{size - 1, size - 2, size / 2, 2, 1, 0, -1, -2, -size, -size - 1, math.MinInt32, math.MinInt + 1, math.MinInt} {
		if most < size {
			wantTooMany(t, what, n, most)
		}
	}
}

// wantShape asks for what the chapter says of all decided automata.
func wantShape(t *testing.T, what string, d api.Dfa) {
	t.Helper()
	if len(d.Class) != 259 || len(d.Next) != d.Width*len(d.Accept) || len(d.Accept) == 0 || d.Start != 0 {
		t.Errorf("%s: %s", what, brief(d))
	}
	if slices.Min(d.Class) != 0 || slices.Max(d.Class) != d.Width-1 {
		t.Errorf("%s: classes from %d to %d, of %d", what, slices.Min(d.Class), slices.Max(d.Class), d.Width)
	}
	// A state that is new is one more than all ahead of it.
	last := 0
	for i, to := range d.Next {
		if to < 0 || to > last+1 {
			t.Errorf("%s: %d at %d, behind %d at most", what, to, i, last)
			return
		}
		last = max(last, to)
	}
	if last != len(d.Accept)-1 {
		t.Errorf("%s: up to %d, of %d states", what, last, len(d.Accept))
	}
}

// wantTooMany asks for an automaton that has more states than most.
func wantTooMany(t *testing.T, what string, n api.Nfa, most int) {
	t.Helper()
	if d, e := Build(n, most); !same(d, api.Dfa{}) || e != api.ErrStates {
		t.Errorf("Build(%s, %d): %s, %d", what, most, brief(d), e)
	}
	want := 0
	if most >= 0 {
		want = most + 1
	}
	if k := Count(n, most); k != want {
		t.Errorf("Count(%s, %d): %d, not %d", what, most, k, want)
	}
}

// wantTable asks for a decided automaton that is written out.
func wantTable(t *testing.T, what string, n api.Nfa, classes, rows string) {
	t.Helper()
	wantDecided(t, what, n, table(classes, rows))
}

// wantModel asks for what the model tells, of at most so many states. It answers how many there are, at most one more.
func wantModel(t *testing.T, what string, n api.Nfa, most int) int {
	t.Helper()
	want, ok := model(n, most)
	if !ok {
		wantTooMany(t, what, n, most)
		wantTooMany(t, what, n, most/2)
		wantTooMany(t, what, n, 1)
		return most + 1
	}
	wantDecided(t, what, n, want)
	return len(want.Accept)
}

// built is a pattern's automaton.
func built(t *testing.T, p string) api.Nfa {
	t.Helper()
	l, at, e := parse.Pattern(p)
	n, f := nfa.Build(l)
	if e != api.OK || f != api.OK {
		t.Fatalf("%s: %d at %d, %d", p, e, at, f)
	}
	return n
}

func TestExample(t *testing.T) { // P11.1, P11.2
	n := built(t, "a")
	d, e := Build(n, 3)
	if e != api.OK || d.Width != 5 || d.Start != 0 {
		t.Errorf("%d, %d classes, from %d", e, d.Width, d.Start)
	}
	for sym, c := range d.Class {
		if c != map[int]int{'a': 1, api.Begin: 2, api.End: 3, api.Both: 4}[sym] {
			t.Errorf("the class of %d: %d", sym, c)
		}
	}
	want := []int{
		1, 2, 0, 0, 0, // at the beginning
		1, 1, 1, 1, 1, // nothing
		1, 1, 2, 2, 2, // behind a
	}
	if len(d.Class) != 259 || !slices.Equal(d.Next, want) || !slices.Equal(d.Accept, []bool{false, false, true}) {
		t.Errorf("%d symbols, %v, %v", len(d.Class), d.Next, d.Accept)
	}
	wantTable(t, "a", n, onA, "1 2 0 0 0; 1 1 1 1 1; 1 1 2 2 2 !")
}

func TestPatternsByHand(t *testing.T) { // P11.1, P11.2
	const stuck = "1 1 1 1 1 1; "
	for p, x := range map[string][2]string{
		// Each operator.
		"":        {none, "1 0 0 0 !; 1 1 1 1"},
		"()":      {none, "1 0 0 0 !; 1 1 1 1"},
		".*":      {onFeed, "1 2 0 0 0 !; 1 2 1 1 1 !; 2 2 2 2 2"},
		"(.|\n)*": {onFeed, "1 2 0 0 0 !; 1 2 1 1 1 !; 1 2 2 2 2 !"},
		"a{0}":    {none, "1 0 0 0 !; 1 1 1 1"},
		"a*":      {onA, "1 2 0 0 0 !; 1 1 1 1 1; 1 2 2 2 2 !"},
		"a+":      {onA, "1 2 0 0 0; 1 1 1 1 1; 1 3 2 2 2 !; 1 3 3 3 3 !"},
		"a?":      {onA, "1 2 0 0 0 !; 1 1 1 1 1; 1 1 2 2 2 !"},
		"a{2}":    {onA, "1 2 0 0 0; 1 1 1 1 1; 1 3 2 2 2; 1 1 3 3 3 !"},
		"a{1,2}":  {onA, "1 2 0 0 0; 1 1 1 1 1; 1 3 2 2 2 !; 1 1 3 3 3 !"},
		"a|a":     {onA, "1 2 0 0 0; 1 1 1 1 1; 1 1 2 2 2 !"},
		"[^a]":    {onA, "1 2 0 0 0; 2 2 1 1 1 !; 2 2 2 2 2"},
		"ab":      {onAB, "1 2 1 0 0 0; " + stuck + "1 1 3 2 2 2; 1 1 1 3 3 3 !"},
		"ba":      {onAB, "1 1 2 0 0 0; " + stuck + "1 3 1 2 2 2; 1 1 1 3 3 3 !"},
		"a|b":     {onAB, "1 2 3 0 0 0; " + stuck + "1 1 1 2 2 2 !; 1 1 1 3 3 3 !"},
		"b|a":     {onAB, "1 2 3 0 0 0; " + stuck + "1 1 1 2 2 2 !; 1 1 1 3 3 3 !"},
		"[ab]|b":  {onAB, "1 2 3 0 0 0; " + stuck + "1 1 1 2 2 2 !; 1 1 1 3 3 3 !"},
		"(a|b)*b": {onAB, "1 2 3 0 0 0; " + stuck + "1 2 3 2 2 2; 1 2 3 3 3 3 !"},
		// Behind a another state is met than behind c, whose number is less.
		"ab|c": {onAC, "1 2 1 3 0 0 0; 1 1 1 1 1 1 1; 1 1 4 1 2 2 2; 1 1 1 1 3 3 3 !; 1 1 1 1 4 4 4 !"},
		// The ends: alone, together, in the midst, twice.
		"^":       {none, "1 2 0 2; 1 1 1 1; 1 2 2 2 !"},
		"$":       {none, "1 0 2 2; 1 1 1 1; 1 2 2 2 !"},
		"^$":      {none, "1 2 0 3; 1 1 1 1; 1 2 3 3; 1 3 3 3 !"},
		"$^":      {none, "1 0 2 3; 1 1 1 1; 1 3 2 3; 1 3 3 3 !"},
		"^a":      {onA, "1 1 2 0 2; 1 1 1 1 1; 1 3 2 2 2; 1 1 3 3 3 !"},
		"^^a":     {onA, "1 1 2 0 2; 1 1 1 1 1; 1 3 2 2 2; 1 1 3 3 3 !"},
		"a$":      {onA, "1 2 0 0 0; 1 1 1 1 1; 1 1 2 3 3; 1 1 3 3 3 !"},
		"a$$":     {onA, "1 2 0 0 0; 1 1 1 1 1; 1 1 2 3 3; 1 1 3 3 3 !"},
		"^a$":     {onA, "1 1 2 0 2; 1 1 1 1 1; 1 3 2 2 2; 1 1 3 4 4; 1 1 4 4 4 !"},
		"a^":      {onA, "1 2 0 0 0; 1 1 1 1 1; 1 1 3 2 3; 1 1 3 3 3 !"},
		"$a":      {onA, "1 1 0 2 2; 1 1 1 1 1; 1 3 2 2 2; 1 1 3 3 3 !"},
		"a^b":     {onAB, "1 2 1 0 0 0; " + stuck + "1 1 1 3 2 3; 1 1 4 3 3 3; 1 1 1 4 4 4 !"},
		"a$b":     {onAB, "1 2 1 0 0 0; " + stuck + "1 1 1 2 3 3; 1 1 4 3 3 3; 1 1 1 4 4 4 !"},
		"(^|a)b":  {onAB, "1 2 1 3 0 3; " + stuck + "1 1 4 2 2 2; 1 2 4 3 3 3; 1 1 1 4 4 4 !"},
		"(^a|$b)": {onAB, "1 1 1 2 3 4; " + stuck + "1 5 1 2 4 4; 1 1 6 4 3 4; 1 5 6 4 4 4; 1 1 1 5 5 5 !; 1 1 1 6 6 6 !"},
	} {
		wantTable(t, p, built(t, p), x[0], x[1])
	}
}

func TestAutomataByHand(t *testing.T) { // P11.1, P11.2
	for _, x := range []struct {
		start         int
		words         string
		classes, rows string
	}{
		{0, "!", none, "1 0 0 0 !; 1 1 1 1"},
		// Start is not 0, Final is not the last one, some are not reached.
		{1, "! a>0", onA, "1 2 0 0 0; 1 1 1 1 1; 1 1 2 2 2 !"},
		{2, "_>1 ! a>1 b>2 |>0,3", onAB, "1 2 1 0 0 0; 1 1 1 1 1 1; 1 1 1 2 2 2 !"},
		{0, "! a>0", onA, "1 1 0 0 0 !; 1 1 1 1 1"},
		{3, "a>2 _>2 ! b>1", onAB, "1 1 2 0 0 0; 1 1 1 1 1 1; 1 1 1 2 2 2 !"},
		{1, "b>1 ^>2 ! $>2", "97:0 98:1 255:0", "1 1 2 0 2; 1 1 1 1 1; 1 1 2 2 2 !"},
		// The first set is closed, and by no end.
		{0, "_>1 |>2,3 a>4 b>4 !", onAB, "1 2 2 0 0 0; 1 1 1 1 1 1; 1 1 1 2 2 2 !"},
		{0, "_>1 ^>2 _>3 $>4 !", none, "1 2 0 3; 1 1 1 1; 1 2 3 3; 1 3 3 3 !"},
		// None accepts.
		{0, "a>0 !", onA, "1 0 0 0 0; 1 1 1 1 1"},
		{0, "->1 !", none, "1 0 0 0; 1 1 1 1"},
		{0, "_>0 !", none, "1 0 0 0; 1 1 1 1"},
		// The empty set is not met: one state, two, three.
		{0, "#>0 !", none, "0 0 0 0"},
		{0, "|>1,2 #>0 !", none, "0 0 0 0 !"},
		{0, "#>1 #>0 !", none, "1 0 0 0; 0 1 1 1"},
		{0, "#>1 |>0,2 !", none, "1 0 0 0; 1 1 1 1 !"},
		{0, "|>1,2 ~>0 a>4 ! #>0", onA, "0 1 0 0 0; 0 0 1 1 1"},
		// It is met at last: from the last state alone, by one class alone.
		{0, "|>1,2 ~>0 a>1 !", onA, "0 1 0 0 0; 0 2 1 1 1; 2 2 2 2 2"},
		{0, "#>1 #>2 ~>2 !", onA, "1 1 0 0 0; 2 2 1 1 1; 2 3 2 2 2; 3 3 3 3 3"},
		// The same set by several classes, and from several states.
		{0, "|>1,2 ~>3 a>3 !", onA, "1 1 0 0 0; 2 2 1 1 1 !; 2 2 2 2 2"},
		{0, "|>1,2 a>1 b>1 !", onAB, "1 2 2 0 0 0; 1 1 1 1 1 1; 1 2 1 2 2 2"},
		{0, "|>1,2 a>0 b>0 !", onAB, "1 0 0 0 0 0; 1 1 1 1 1 1"},
		// Two sets that part in one state alone, which is Final, and which is not.
		{4, "a>3 b>3 b>6 #>3 |>0,5 |>1,2 !", onAB, "1 2 3 0 0 0; 1 1 1 1 1 1; 2 2 2 2 2 2; 2 2 2 3 3 3 !"},
		{4, "a>3 b>3 b>7 #>3 |>0,5 |>1,2 ! _>7", onAB, "1 2 3 0 0 0; 1 1 1 1 1 1; 2 2 2 2 2 2; 2 2 2 3 3 3"},
		// The ends are gone through behind bytes, too, and each by its own symbol.
		{0, "#>1 ^>2 !", none, "1 0 0 0; 2 3 1 3; 2 2 2 2; 2 3 3 3 !"},
		{0, "#>1 $>2 !", none, "1 0 0 0; 2 1 3 3; 2 2 2 2; 2 3 3 3 !"},
		{0, "#>1 ^>2 $>3 !", none, "1 0 0 0; 2 3 1 4; 2 2 2 2; 2 3 4 4; 2 4 4 4 !"},
		{0, "^>1 #>2 $>0 !", none, "1 2 0 2; 1 1 1 1; 3 2 2 2; 1 3 4 5; 1 5 4 5; 3 5 5 5"},
	} {
		n := automaton(x.start, x.words)
		if !nfa.Right(n) {
			t.Fatalf("%s is not right", x.words)
		}
		wantTable(t, x.words, n, x.classes, x.rows)
	}
}

// wantSets asks for what the chapter says of a decided automaton, symbol by symbol, in nfa's words: by a byte a set goes to Step of it, by an end to Close of it by that one.
func wantSets(t *testing.T, what string, n api.Nfa, d api.Dfa) {
	t.Helper()
	sets := [][]int{nfa.Close(n, []int{n.Start}, 0)}
	for s := range d.Accept {
		if s >= len(sets) {
			t.Fatalf("%s: nothing goes to state %d", what, s)
		}
		if d.Accept[s] != slices.Contains(sets[s], n.Final) {
			t.Errorf("%s: whether state %d accepts: %v", what, s, d.Accept[s])
		}
		for sym := range 259 {
			to := d.Next[s*d.Width+d.Class[sym]]
			want := nfa.Close(n, sets[s], sym)
			if sym < 256 {
				want = nfa.Step(n, sets[s], byte(sym))
			}
			if to == len(sets) {
				for k := range sets {
					if slices.Equal(sets[k], want) {
						t.Fatalf("%s: from %d by %d to %d, which is %d", what, s, sym, to, k)
					}
				}
				sets = append(sets, want)
			}
			if to > len(sets) || !slices.Equal(sets[to], want) {
				t.Fatalf("%s: from %d by %d to %d; not to %v", what, s, sym, to, want)
			}
		}
	}
	if len(sets) != len(d.Accept) {
		t.Errorf("%s: %d states, not %d", what, len(d.Accept), len(sets))
	}
}

func patterns() []string {
	return []string{
		"", "a", "abc", "a|b|c", "(ab|c)+", "[a-c]*[b-d]", "x{2,5}", "(a?b){3}", "((a|b)*c)*", "(ab*|a*b)?", ".*a.{2}", "[^a]+a[^a]*", "(a|b)*a(a|b){3}", "(|a)(|b)",
		"^", "$", "^$", "$^", "^^", "$$", "^*", "$+", "(^|$)", "(^$)?", "(^a|b$)", "(^|a)*(b|$)*", "(^|b)a($|b)", "(^a)*", "(a$)*", "a^b$c", "a$*^*b", "(a|^)+(b|$)+", "((^|a)b){2}", "^(a|b$)*^", "$(a|^b)*$", "(^^a$$|$^)", "(a^)?(a$)?a?", "([ab]^|[bc]$)*",
	}
}

func TestPatterns(t *testing.T) { // P11.1, P11.2
	for _, p := range patterns() {
		n := built(t, p)
		wantModel(t, p, n, 1000)
		d, _ := Build(n, 1000)
		wantSets(t, p, n, d)
	}
}

// TestManyPatterns has patterns of which many have states that were met from several others, by bytes and by ends.
func TestManyPatterns(t *testing.T) { // P11.1, P11.2
	next := generator()
	counts := map[string]int{}
	for range 1000 {
		p := mixedPattern(next, 4)
		l, _, e := parse.Pattern(p)
		n, f := nfa.Build(l)
		if e != api.OK || f != api.OK {
			counts["no automata"]++
			continue
		}
		size := wantModel(t, p, n, 60)
		switch d, _ := Build(n, 60); {
		case size > 60:
			counts["too great"]++
		default:
			wantSets(t, p, n, d)
			counts["of 8 states or more"] += min(size/8, 1)
			counts["built"]++
		}
	}
	for what, least := range map[string]int{"built": 800, "of 8 states or more": 200} {
		if counts[what] < least {
			t.Errorf("only %d %s", counts[what], what)
		}
	}
}

// anyTrue is 1, if one is true, else 0.
func anyTrue(l []bool) int {
	if slices.Contains(l, true) {
		return 1
	}
	return 0
}

// TestMixedAutomata has automata that no tree makes.
func TestMixedAutomata(t *testing.T) { // P11.1, P11.2
	next := generator()
	counts := map[string]int{}
	for k := range 3000 {
		n := mixed(next, []string{"ab", "aab~#-", "#~", "abc-#"}[k%4], next(7), next(9))
		size := wantModel(t, told(n), n, 100)
		if d, e := Build(n, 100); e == api.OK {
			wantSets(t, told(n), n, d)
			counts["of 6 states or more"] += min(size/6, 1)
			counts["with one that accepts"] += anyTrue(d.Accept)
			counts["that accept at the beginning"] += anyTrue(d.Accept[:1])
		}
	}
	for what, least := range map[string]int{"of 6 states or more": 150, "with one that accepts": 800, "that accept at the beginning": 200} {
		if counts[what] < least {
			t.Errorf("only %d %s", counts[what], what)
		}
	}
}

// moved is an automaton whose states stand in changed places: state i at to[i].
func moved(n api.Nfa, to []int) api.Nfa {
	m := api.Nfa{States: make([]api.State, len(n.States)), Start: to[n.Start], Final: to[n.Final]}
	for i, s := range n.States {
		if s.Kind != api.StFinal {
			s.A = to[s.A]
		}
		if s.Kind == api.StSplit {
			s.B = to[s.B]
		}
		m.States[to[i]] = s
	}
	return m
}

// TestPlacesDoNotCount: states are numbered as they are met, wherever the states of what comes in stand, and whatever is not reached.
func TestPlacesDoNotCount(t *testing.T) { // P11.1
	for _, p := range []string{"ab|c", "(^a|$b)", "(a|b)*a(a|b){2}", "[a-f][c-h]|z?", "(ab|c)+$"} {
		n := built(t, p)
		want, ok := model(n, 1000)
		if !ok {
			t.Fatalf("%s has more states", p)
		}
		size := len(n.States)
		for by := range size {
			var turned, back []int
			for i := range size {
				turned, back = append(turned, (i+by)%size), append(back, (size-1-i+by)%size)
			}
			wantDecided(t, p, moved(n, turned), want)
			wantDecided(t, p, moved(n, back), want)
		}
		for _, words := range []string{"_>0", "|>0,1", "^>1 $>0", "->0 #>1"} {
			m := api.Nfa{States: slices.Concat(n.States, automaton(0, words).States), Start: n.Start, Final: n.Final}
			wantDecided(t, p+" and "+words, m, want)
		}
	}
}

// TestEachByteGoesItsWay has an automaton by which no two symbols are alike, and each byte leads to a set of its own.
func TestEachByteGoesItsWay(t *testing.T) { // P11.1, P11.2
	// Splits at 0 to 254, of b at 256 + b, which goes to itself, and Final at 255.
	n := api.Nfa{States: make([]api.State, 512), Final: 255}
	for b := range 256 {
		n.States[b] = api.State{Kind: api.StSplit, A: min(b+1, 254), B: 256 + b}
		n.States[256+b] = api.State{Kind: api.StSet, A: 256 + b, Set: setOf(byte(b))}
	}
	n.States[254].A = 256 + 255
	n.States[255] = api.State{Kind: api.StFinal}
	d := api.Dfa{Width: 259}
	for s := range 258 {
		for c := range 259 {
			d.Next = append(d.Next, 257)
			switch {
			case s == 0 && c < 256:
				d.Next[c] = c + 1
			case c > 255 || c == s-1:
				d.Next[s*259+c] = s
			}
		}
		d.Accept = append(d.Accept, false)
	}
	for c := range 259 {
		d.Class = append(d.Class, c)
	}
	wantDecided(t, "each byte alone", n, d)
	wantSets(t, "each byte alone", n, d)
	for most := 3; most < 258; most += 17 {
		wantTooMany(t, "each byte alone", n, most)
	}
}

// row is a chain of so many states of a kind, the last of which is StFinal.
func row(size, kind int, set api.Set) api.Nfa {
	n := api.Nfa{Final: size - 1}
	for i := range size {
		n.States = append(n.States, api.State{Kind: kind, A: i + 1, Set: set})
	}
	n.States[size-1] = api.State{Kind: api.StFinal}
	return n
}

func TestGreatAutomata(t *testing.T) { // P11.1, P11.2
	for _, size := range []int{2, 3, 599, 600} {
		// Behind each a another state; nothing, as soon as another byte comes.
		d := table(onA, "1 2 0 0 0; 1 1 1 1 1")
		for s := 2; s <= size; s++ {
			d.Next = append(d.Next, 1, s+1, s, s, s)
			d.Accept = append(d.Accept, s == size)
		}
		d.Next[len(d.Next)-4] = 1
		wantDecided(t, "a row of a", row(size, api.StSet, signSet('a')), d)
		// A circle of all bytes meets no empty set, and comes never to its end.
		n := row(size, api.StSet, signSet('#'))
		n.States[size-2].A = 0
		d = table(none, "0 0 0 0")
		d.Next, d.Accept = nil, nil
		for s := range size - 1 {
			to := (s + 1) % (size - 1)
			d.Next = append(d.Next, to, s, s, s)
			d.Accept = append(d.Accept, false)
		}
		wantDecided(t, "a circle", n, d)
		wantTable(t, "a row of empty states", row(size, api.StEmpty, api.Set{}), none, "1 0 0 0 !; 1 1 1 1")
		wantTable(t, "a row of splits", row(size, api.StSplit, api.Set{}), none, "1 0 0 0 !; 1 1 1 1")
		wantTable(t, "a row of beginnings", row(size, api.StBegin, api.Set{}), none, "1 2 0 2; 1 1 1 1; 1 2 2 2 !")
		wantTable(t, "a row of ends", row(size, api.StEnd, api.Set{}), none, "1 0 2 2; 1 1 1 1; 1 2 2 2 !")
	}
	for _, p := range []string{strings.Repeat("a{32}", 9) + "bbb", strings.Repeat("(a|b){16}", 5) + "(a|b){17}", "(a{32}b{32}){4}[a-c]{31}", "^(a{1,31}b*){4}(ab){24}$"} {
		n := built(t, p)
		if len(n.States) < 500 {
			t.Errorf("%s: %d states", p, len(n.States))
		}
		if size := wantModel(t, p, n, 1000); size < 100 {
			t.Errorf("%s: %d states, decided", p, size)
		}
	}
}

// TestSetsThatPartInOne has two sets that part in one place alone, for each of 600.
func TestSetsThatPartInOne(t *testing.T) { // P11.1, P11.2
	want := table(onAB, "1 2 3 0 0 0; 1 1 1 1 1 1; 1 1 1 2 2 2; 1 1 1 3 3 3")
	for other := range 600 {
		n := api.Nfa{States: make([]api.State, 600)}
		for i := range n.States {
			n.States[i] = api.State{Kind: api.StEmpty, A: i}
		}
		at := func(k int) int { return (other + k*97) % 600 }
		n.Start, n.Final = at(1), at(5)
		n.States[at(1)] = api.State{Kind: api.StSplit, A: at(2), B: at(3)}
		n.States[at(2)] = api.State{Kind: api.StSet, A: at(4), Set: setOf('a', 'b')}
		n.States[at(3)] = api.State{Kind: api.StSet, A: other, Set: setOf('b')}
		n.States[at(5)] = api.State{Kind: api.StFinal}
		if d, e := Build(n, 4); !same(d, want) || e != api.OK {
			t.Errorf("%d: %s, %d", other, brief(d), e)
		}
		if k := Count(n, 4); k != 4 {
			t.Errorf("%d: %d states", other, k)
		}
		wantTooMany(t, "sets that part in one", n, 3)
	}
}

// wantMost asks for the least number of most with which an automaton is told.
func wantMost(t *testing.T, what string, n api.Nfa, size int) {
	t.Helper()
	for most := -3; most <= size+3; most++ {
		d, e := Build(n, most)
		k := Count(n, most)
		switch {
		case most >= size && (e != api.OK || len(d.Accept) != size || k != size):
			t.Errorf("%s, at most %d: %d, %d states, %d", what, most, e, len(d.Accept), k)
		case most < size:
			wantTooMany(t, what, n, most)
		}
	}
}

func TestMost(t *testing.T) { // P11.1, P11.2
	for p, size := range map[string]int{"": 2, "a": 3, "ab": 4, "a|b": 4, "^a": 4, "^$": 4, "(.|\\n)*": 3, "a{9}": 11, "(^a|$b)": 7, "(a|b)*a(a|b){3}": 18} {
		wantMost(t, p, built(t, p), size)
	}
	for _, x := range []struct {
		words string
		size  int
	}{
		// The empty set counts where it is met, and not where it is not.
		{"#>0 !", 1}, {"|>1,2 #>0 !", 1}, {"!", 2}, {"->1 !", 2}, {"~>0 !", 2}, {"#>1 !", 3}, {"#>1 #>0 !", 2}, {"#>1 ~>0 !", 3}, {"#>1 #>2 #>0 !", 3}, {"#>1 #>2 ~>0 !", 4},
		// Sets that are met by an end alone.
		{"|>1,2 #>0 ^>3 _>3 !", 2}, {"|>1,2 #>0 $>3 _>3 !", 2}, {"|>1,2 #>0 ^>3 $>4 !", 3}, {"|>1,2 #>0 |>3,4 ^>5 $>6 _>5 _>6 !", 4},
	} {
		wantMost(t, x.words, automaton(0, x.words), x.size)
	}
	// There is a state for each choice of k and one more bytes, and two more.
	for k := range 10 {
		n := built(t, strings.Replace("(a|b)*a(a|b){k}", "k", string(rune('0'+k)), 1))
		size := 1<<(k+1) + 2
		for _, most := range []int{1, size / 2, size - 2, size - 1, size, size + 1, 1024, 1025, 4096, math.MaxInt} {
			if most < size {
				wantTooMany(t, "a and k more", n, most)
			} else if d, e := Build(n, most); e != api.OK || len(d.Accept) != size || Count(n, most) != size {
				t.Errorf("%d, at most %d: %d, %d states, %d", k, most, e, len(d.Accept), Count(n, most))
			}
		}
	}
	// More than there may be at once anywhere else: most alone bounds them.
	n := built(t, "(a|b)*a(a|b){13}")
	if d, e := Build(n, 1<<14+2); e != api.OK || len(d.Accept) != 1<<14+2 || Count(n, math.MaxInt) != 1<<14+2 {
		t.Errorf("%d, %d states", e, len(d.Accept))
	}
	wantTooMany(t, "a and 13 more", n, 1<<14+1)
}

// circles has a circle for each length, all gone around at once: there are as many sets as the lengths have for a least common multiple.
func circles(lengths ...int) api.Nfa {
	n := api.Nfa{States: []api.State{{Kind: api.StFinal}}}
	for _, length := range lengths {
		first := len(n.States)
		for i := range length {
			n.States = append(n.States, api.State{Kind: api.StSet, A: first + (i+1)%length, Set: signSet('#')})
		}
		n.States = append(n.States, api.State{Kind: api.StSplit, A: first, B: n.Start})
		n.Start = len(n.States) - 1
	}
	return n
}

// TestFarTooMany has automata of more states than could be met ever: if more were met than most and one, it would not end.
func TestFarTooMany(t *testing.T) { // P1, P11.1, P11.2
	for what, n := range map[string]api.Nfa{
		"a and 31 more":         built(t, "(a|b)*a(a|b){31}"),
		"a and 60 more":         built(t, "(a|b)*a(a|b){30}(a|b){30}"),
		"letters and 80 more":   built(t, "[a-z]*[m-p]([a-z]{32}){2}[a-z]{16}"),
		"circles":               circles(2, 3, 5, 7, 11, 13, 17, 19, 23, 29, 31, 37, 41, 43, 47),
		"circles of 560 states": circles(2, 3, 5, 7, 11, 13, 17, 19, 23, 29, 31, 37, 41, 43, 47, 53, 59, 61, 19),
	} {
		for _, most := range []int{math.MinInt, -1, 0, 1, 2, 3, 4, 5, 6, 7, 10, 99, 100, 500, 1000, 1023, 1024} {
			wantTooMany(t, what, n, most)
		}
		for range 20 {
			wantTooMany(t, what, n, 2)
		}
	}
	// Those that can be met are.
	wantMost(t, "circles", circles(2, 3, 5), 31)
	wantMost(t, "circles", circles(4, 6), 13)
	wantMost(t, "circles", circles(7), 8)
	for _, n := range []api.Nfa{circles(2, 3, 5), circles(4, 6), circles(2, 4, 8), circles(9, 10)} {
		wantModel(t, "circles", n, 1000)
	}
}

// wantNotRight asks that an automaton is not right, and that nothing is told of it, whatever most is.
func wantNotRight(t *testing.T, what string, n api.Nfa) {
	t.Helper()
	if nfa.Right(n) {
		t.Errorf("%s is right", what)
	}
	for _, most := range append(edges(), 1000, 1024) {
		if d, e := Build(n, most); !same(d, api.Dfa{}) || e != api.ErrForm {
			t.Errorf("Build(%s, %d): %s, %d", what, most, brief(d), e)
		}
		if k := Count(n, most); k != 0 {
			t.Errorf("Count(%s, %d): %d", what, most, k)
		}
	}
}

func TestHowManyStatesComeIn(t *testing.T) { // P11.1, P11.2: what is not right
	wantNotRight(t, "nothing", api.Nfa{})
	wantNotRight(t, "no states", api.Nfa{States: []api.State{}})
	wantNotRight(t, "no states, from 0 to 1", api.Nfa{Final: 1})
	for _, kind := range []int{api.StEmpty, api.StSplit, api.StBegin, api.StEnd, api.StSet} {
		for _, size := range []int{1, 2, 599, 600} {
			wantModel(t, "a row", row(size, kind, api.Set{}), 9)
		}
		for _, size := range []int{601, 602, 640, 641, 1200, 1 << 16} {
			wantNotRight(t, "a row", row(size, kind, api.Set{}))
		}
	}
}

// allKinds is an automaton that is right, with a state of each kind: 0 StSet, 1 StEmpty, 2 StSplit, 3 StBegin, 4 StEnd, 5 StFinal.
func allKinds() api.Nfa { return automaton(1, "a>1 _>2 |>3,0 ^>4 $>5 !") }

func TestFieldsThatMayNotBe(t *testing.T) { // P11.1, P11.2: what is not right
	wantModel(t, "all kinds", allKinds(), 9)
	for _, to := range append(edges(), 4, 5, 6, 7) {
		isPlace := to >= 0 && to < 6
		for i, kind := range []string{"StSet", "StEmpty", "StSplit", "StBegin", "StEnd", "StFinal"} {
			n := allKinds()
			n.States[i].A = to
			wantOne(t, "A of "+kind, n, isPlace && i < 5 || to == 0)
			n = allKinds()
			n.States[i].B = to
			wantOne(t, "B of "+kind, n, isPlace && i == 2 || to == 0)
			if to < 1 || to > 6 {
				n = allKinds()
				n.States[i].Kind = to
				wantNotRight(t, "a kind that is none", n)
			}
		}
		n := allKinds()
		n.Start = to
		wantOne(t, "Start", n, isPlace)
		n = allKinds()
		n.Final = to
		wantOne(t, "Final", n, to == 5)
	}
	for i := range 6 {
		// All but StSet have no Set.
		for _, s := range []api.Set{setOf(0), setOf(255), setOf('a'), {0, 0, 1, 0}, signSet('#')} {
			n := allKinds()
			n.States[i].Set = s
			wantOne(t, "a Set", n, i == 0)
		}
		if i < 5 {
			n := allKinds()
			n.States[i] = api.State{Kind: api.StFinal}
			wantNotRight(t, "two StFinal", n)
			n.Final = i
			wantNotRight(t, "two StFinal", n)
			n.States[5] = api.State{Kind: api.StEmpty, A: i}
			wantOne(t, "StFinal in another place", n, true)
		}
	}
	n := allKinds()
	n.States[5] = api.State{Kind: api.StEmpty}
	wantNotRight(t, "no StFinal", n)
	n.States[5] = api.State{Kind: api.StSet, Set: setOf('b')}
	wantNotRight(t, "a Final that is a StSet", n)
}

// wantOne asks for what the model tells, or for nothing.
func wantOne(t *testing.T, what string, n api.Nfa, right bool) {
	t.Helper()
	if right {
		wantModel(t, what, n, 50)
	} else {
		wantNotRight(t, what, n)
	}
}

// TestRawAutomata: any fields end without a panic.
func TestRawAutomata(t *testing.T) { // P1, P11.1, P11.2
	next := generator()
	right := 0
	for range 1500 {
		n := mixed(next, "ab~#-", next(4), next(4))
		for range next(3) {
			s, x := &n.States[next(len(n.States))], edges()[next(len(edges()))]
			switch next(6) {
			case 0:
				s.Kind = next(9) - 1
			case 1:
				s.A = x
			case 2:
				s.B = x
			case 3:
				s.Set = signSet("ab~#-"[next(5)])
			case 4:
				n.Start = x
			default:
				n.Final = x
			}
		}
		wantOne(t, told(n), n, nfa.Right(n))
		if nfa.Right(n) {
			right++
		}
	}
	if right < 500 || right > 1300 {
		t.Errorf("%d are right", right)
	}
}

// wantFitting asks of all parts of some texts that their symbols lead to a state that accepts just if they fit. It counts those that fit, and those of which something else would be told if an end were left out.
func wantFitting(t *testing.T, what string, n api.Nfa, texts []string, counts map[string]int) {
	t.Helper()
	d, e := Build(n, 1024)
	if e != api.OK {
		counts["too many states"]++
		return
	}
	for _, text := range texts {
		for i := range len(text) + 1 {
			for j := i; j <= len(text); j++ {
				fits, symbols := nfa.Fits(n, text, i, j), word(text, i, j)
				if leads(d, symbols) != fits {
					t.Errorf("%s: from %d to %d of %q: %v, not %v", what, i, j, text, !fits, fits)
					return
				}
				countEnds(d, symbols, fits, counts)
			}
		}
	}
}

// countEnds counts whether a part fits, and for which ends something else would be told without them.
func countEnds(d api.Dfa, symbols []int, fits bool, counts map[string]int) {
	if fits {
		counts["parts that fit"]++
	} else {
		counts["parts that do not fit"]++
	}
	for sym, end := range map[int]string{api.Begin: "Begin", api.End: "End", api.Both: "Both"} {
		at := slices.Index(symbols, sym)
		if at >= 0 && leads(d, slices.Delete(slices.Clone(symbols), at, at+1)) != fits {
			counts[end]++
		}
	}
	if slices.Equal(symbols, []int{api.Both}) && leads(d, []int{api.Begin, api.End}) != fits {
		counts["both, one behind the other"]++
	}
}

func TestFitsByHand(t *testing.T) { // P11.3
	for _, x := range []struct {
		p       string
		symbols []int
		want    bool
	}{
		{"ab", []int{'a', 'b'}, true}, {"ab", []int{api.Begin, 'a', 'b', api.End}, true}, {"ab", []int{'a'}, false}, {"ab", []int{'a', 'b', 'b'}, false}, {"ab", nil, false},
		{"a*", nil, true}, {"a*", []int{api.Begin}, true}, {"a*", []int{api.End}, true}, {"a*", []int{api.Both}, true}, {"a*", []int{'a', 'a', api.End}, true}, {"a*", []int{'b'}, false},
		// Each end, and what would be told if it were left out, or put where it is not.
		{"^a", []int{api.Begin, 'a'}, true}, {"^a", []int{'a'}, false}, {"^a", []int{'a', api.End}, false}, {"^a", []int{api.Begin, 'a', api.End}, true},
		{"a$", []int{'a', api.End}, true}, {"a$", []int{'a'}, false}, {"a$", []int{api.Begin, 'a'}, false}, {"a$", []int{api.Begin, 'a', api.End}, true},
		{"^$", []int{api.Both}, true}, {"^$", nil, false}, {"^$", []int{api.Begin}, false}, {"^$", []int{api.End}, false},
		{"$^", []int{api.Both}, true}, {"$^", nil, false}, {"$^", []int{api.Begin, api.End}, false}, {"$^", []int{api.Begin}, false}, {"$^", []int{api.End}, false},
		{"^", []int{api.Both}, true}, {"$", []int{api.Both}, true}, {"^", []int{api.Begin}, true}, {"^", []int{api.End}, false}, {"$", []int{api.End}, true}, {"$", []int{api.Begin}, false}, {"^", nil, false}, {"$", nil, false}, {"a", []int{api.Both}, false}, {"a?", []int{api.Both}, true},
		{"(^|a)b", []int{api.Begin, 'b'}, true}, {"(^|a)b", []int{'b'}, false}, {"(^|a)b", []int{'a', 'b'}, true}, {"(^|a)b", []int{api.Begin, 'a', 'b', api.End}, true},
		{"a(b|$)", []int{'a', api.End}, true}, {"a(b|$)", []int{'a'}, false}, {"a(b|$)", []int{'a', 'b'}, true}, {"a(b|$)", []int{'a', 'b', api.End}, true},
	} {
		d, e := Build(built(t, x.p), 20)
		if e != api.OK || leads(d, x.symbols) != x.want {
			t.Errorf("%s by %v: not %v", x.p, x.symbols, x.want)
		}
	}
}

func TestFits(t *testing.T) { // P11.3
	counts := map[string]int{}
	texts := append(textsOf("ab", 4), textsOf("abc", 3)...)
	texts = append(texts, "a\x00b\xff", "\xff\xff\x00", "a\nb", "\n", "é", "aaaaaaaa", "babababa", "abcabc")
	for _, p := range patterns() {
		wantFitting(t, p, built(t, p), texts, counts)
	}
	wantCounts(t, counts)
	next := generator()
	counts = map[string]int{}
	for range 600 {
		p := mixedPattern(next, 4)
		l, _, _ := parse.Pattern(p)
		if n, e := nfa.Build(l); e == api.OK {
			wantFitting(t, p, n, append(textsOf("ab", 3), "c", "\x00", "abab", "bbbab"), counts)
		}
	}
	wantCounts(t, counts)
	counts = map[string]int{}
	for range 1500 {
		n := mixed(next, "aab~#-", 1+next(6), next(9))
		wantFitting(t, told(n), n, append(textsOf("ab", 3), "\x00", "abab"), counts)
	}
	wantCounts(t, counts)
}

// wantCounts asks that there were many parts that fit, and some of which something else is told if an end is left out.
func wantCounts(t *testing.T, counts map[string]int) {
	t.Helper()
	for what, least := range map[string]int{"parts that fit": 3000, "parts that do not fit": 3000, "Begin": 100, "End": 100, "Both": 5, "both, one behind the other": 1} {
		if counts[what] < least {
			t.Errorf("only %d of %s", counts[what], what)
		}
	}
	if counts["too many states"] > 20 {
		t.Errorf("%d have too many states", counts["too many states"])
	}
}

// TestFitsOfAllBytes has each byte alone, in a text of all.
func TestFitsOfAllBytes(t *testing.T) { // P11.3
	var all []byte
	for b := range 256 {
		all = append(all, byte(b))
	}
	d, _ := Build(built(t, "[\\x00-\\x7f]+[\\x80-\\xff]"), 9)
	for b := range 256 {
		if leads(d, word(string(all), min(b, 129), 129)) != (b < 128) || leads(d, word(string(all), 127, max(b, 126)+1)) != (b == 128) {
			t.Errorf("from %d, and up to it", b)
		}
		one, _ := Build(api.Nfa{States: []api.State{{Kind: api.StSet, A: 1, Set: setOf(byte(b))}, {Kind: api.StFinal}}, Final: 1}, 3)
		for c := range 256 {
			if leads(one, word(string(all), c, c+1)) != (b == c) {
				t.Errorf("%d by %d", b, c)
			}
		}
	}
}

func TestWhatIsHandedInStays(t *testing.T) { // P2, rules 3 and 4
	for _, p := range []string{"a", "(^|a)*(b|$)*", "(a|b)*a(a|b){3}"} {
		n := built(t, p)
		// With room behind the states, which is not to be written to.
		room := append(slices.Clone(n.States), n.States...)
		was := slices.Clone(room)
		n.States = room[:len(n.States)]
		want, _ := model(n, 1000)
		var answers []api.Dfa
		for _, most := range []int{1000, 2, 0, -1, len(want.Accept), len(want.Accept) - 1} {
			d, _ := Build(n, most)
			Count(n, most)
			answers = append(answers, d)
			if !slices.Equal(room, was) {
				t.Fatalf("%s, %d: what was handed in is changed", p, most)
			}
		}
		// What was handed in is not kept: it may be changed later.
		for i := range room {
			room[i] = api.State{Kind: 9, A: -1, B: 700}
		}
		if !same(answers[0], want) || !same(answers[4], want) || !same(answers[1], api.Dfa{}) || !same(answers[5], api.Dfa{}) {
			t.Errorf("%s: %s; %s", p, brief(answers[0]), brief(answers[4]))
		}
		wantNotRight(t, "what was changed", n)
	}
}

func TestAnswersAreNew(t *testing.T) { // P2, rule 4
	n := built(t, "(^|a)b")
	want, _ := model(n, 100)
	other := built(t, "x[yz]*$")
	wantOther, _ := model(other, 100)
	for k := range 5 {
		d, e := Build(n, 5)
		if !same(d, want) || e != api.OK || Count(n, 5) != 5 || Count(n, 3) != 4 {
			t.Fatalf("%d: %s, %d", k, brief(d), e)
		}
		// No list shares memory with another one, nor with what lies behind it.
		full := func(l []int) []int { return append(l[:0], slices.Repeat([]int{-7}, cap(l))...) }
		full(d.Class)
		if !slices.Equal(d.Next, want.Next) {
			t.Fatalf("Class and Next share memory")
		}
		full(d.Next)
		for i := range d.Accept[:cap(d.Accept)] {
			d.Accept[:cap(d.Accept)][i] = true
		}
		// Other calls between them leave nothing behind.
		if a, e := Build(other, 100); !same(a, wantOther) || e != api.OK {
			t.Fatalf("%d: %s, %d", k, brief(a), e)
		}
		wantTooMany(t, "(^|a)b", n, 4)
		wantNotRight(t, "nothing", api.Nfa{})
	}
}
