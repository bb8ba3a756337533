package dfa

import (
	"fmt"
	"math"
	"slices"
	"strconv"
	"strings"
	"testing"

	"tatting/api"
)

// table is an automaton, written out state by state, with ; between them: where it goes by each class, and a ! behind that, if it accepts. Of so many classes byte b is in the class b modulo their number, and so are the ends, from 256 on.
func table(start int, rows string) api.Dfa {
	d := api.Dfa{Start: start}
	for _, row := range strings.Split(rows, ";") {
		words := strings.Fields(row)
		accepts := words[len(words)-1] == "!"
		if accepts {
			words = words[:len(words)-1]
		}
		d.Width = len(words)
		for _, word := range words {
			to, _ := strconv.Atoi(word)
			d.Next = append(d.Next, to)
		}
		d.Accept = append(d.Accept, accepts)
	}
	d.Class = turning(d.Width)
	return d
}

// turning has classes that come again and again.
func turning(width int) []int {
	var class []int
	for sym := range 259 {
		class = append(class, sym%width)
	}
	return class
}

// wide is an automaton that is right, of so many states and classes, with all states and classes in its lists, if there is room; it starts at the last state.
func wide(states, width int) api.Dfa {
	d := api.Dfa{Class: turning(width), Width: width, Start: states - 1, Accept: make([]bool, states)}
	for i := range states * width {
		d.Next = append(d.Next, (i*7+states-1)%states)
	}
	for s := range states {
		d.Accept[s] = s%3 == 1
	}
	return d
}

// copied is the same automaton, in lists of its own.
func copied(d api.Dfa) api.Dfa {
	d.Class, d.Next, d.Accept = slices.Clone(d.Class), slices.Clone(d.Next), slices.Clone(d.Accept)
	return d
}

// roomy is the same automaton, in lists of its own, with other entries in the room behind them.
func roomy(d api.Dfa) api.Dfa {
	d.Class = append(slices.Clone(d.Class), -7, 7)[:len(d.Class)]
	d.Next = append(slices.Clone(d.Next), -7, 7)[:len(d.Next)]
	d.Accept = append(slices.Clone(d.Accept), true, false)[:len(d.Accept)]
	return d
}

// brief is an automaton as a fault tells it: as a table is written.
func brief(d api.Dfa) string {
	var p strings.Builder
	for s := range min(len(d.Accept), 12) {
		for c := range min(d.Width, 12) {
			if at := s*d.Width + c; at >= 0 && at < len(d.Next) {
				fmt.Fprintf(&p, "%d ", d.Next[at])
			}
		}
		if d.Accept[s] {
			p.WriteString("! ")
		}
		p.WriteString("; ")
	}
	return fmt.Sprintf("%sof %d symbols, %d classes, %d places, %d states, from %d", p.String(), len(d.Class), d.Width, len(d.Next), len(d.Accept), d.Start)
}

// entries has all that an automaton holds, in words, each list with its length.
func entries(d api.Dfa) string {
	return fmt.Sprintf("%d %v; %d %v; %d %v; %d %d", len(d.Class), d.Class, len(d.Next), d.Next, len(d.Accept), d.Accept, d.Width, d.Start)
}

// mayBe tells whether an automaton is right, told entry by entry.
func mayBe(d api.Dfa) bool {
	inside := func(x, n int) int {
		if x < 0 || x >= n {
			return 1
		}
		return 0
	}
	faults := inside(d.Width-1, 259) + inside(len(d.Accept)-1, 4096) + inside(d.Start, len(d.Accept))
	if len(d.Class) != 259 || faults > 0 || len(d.Next) != len(d.Accept)*d.Width {
		return false
	}
	for _, c := range d.Class {
		faults += inside(c, d.Width)
	}
	for _, to := range d.Next {
		faults += inside(to, len(d.Accept))
	}
	return faults == 0
}

// ways tells of each two states whether one comes from the first one to the second one; told in rounds over all of them, till a round finds nothing.
func ways(d api.Dfa) [][]bool {
	var way [][]bool
	for s := range d.Accept {
		way = append(way, make([]bool, len(d.Accept)))
		way[s][s] = true
	}
	for found := true; found; {
		found = false
		for s := range way {
			for by := range way {
				for sym := 0; sym < 259 && way[s][by]; sym++ {
					to := d.Next[by*d.Width+d.Class[sym]]
					if !way[s][to] {
						way[s][to], found = true, true
					}
				}
			}
		}
	}
	return way
}

// alive tells of each state whether there is a way to one that accepts.
func alive(d api.Dfa) []bool {
	var l []bool
	for _, way := range ways(d) {
		is := false
		for to := range way {
			is = is || way[to] && d.Accept[to]
		}
		l = append(l, is)
	}
	return l
}

// symbols has the symbols of a part of a text that is one of it.
func symbols(text string, i, j int) []int {
	if len(text) == 0 {
		return []int{258}
	}
	all := []int{256}
	for k := range len(text) {
		all = append(all, int(text[k]))
	}
	all = append(all, 257)
	if i > 0 {
		i++
	}
	if j == len(text) {
		j++
	}
	return all[i : j+1]
}

// generator tells numbers from 0 to below n, always the same ones.
func generator() func(n int) int {
	x := uint32(12)
	return func(n int) int {
		x = x*1664525 + 1013904223
		return int(x>>8) % n
	}
}

// mixed is an automaton that is right, of so many states and classes, that goes anywhere; of its states one of so many accepts. Some states go to themselves alone, so that there are states that are left by nothing.
func mixed(next func(int) int, states, width, rare int) api.Dfa {
	d := api.Dfa{Width: width, Start: next(states)}
	for range 259 {
		d.Class = append(d.Class, next(width))
	}
	for s := range states {
		stays := next(3) == 0
		for range width {
			to := next(states)
			if stays {
				to = s
			}
			d.Next = append(d.Next, to)
		}
		d.Accept = append(d.Accept, next(rare) == 0)
	}
	return d
}

// textsOf has all texts of at most n of some letters.
func textsOf(letters string, n int) []string {
	all := []string{""}
	for from := 0; len(all[from]) < n; from++ {
		for _, c := range []byte(letters) {
			all = append(all, all[from]+string([]byte{c}))
		}
	}
	return all
}

// edges are numbers that are at the edges of something.
func edges() []int {
	return []int{math.MinInt, math.MinInt + 1, math.MinInt32, -4096, -259, -2, -1, 0, 1, 2, 3, 4, 255, 256, 257, 258, 259, 260, 1023, 1024, 4095, 4096, 4097, 1 << 20, math.MaxInt32, 1 << 32, 1<<32 + 1, 1 << 62, math.MaxInt - 1, math.MaxInt}
}

func TestModels(t *testing.T) { // P12.1 to P12.4: what the other tests hold the calls against, by hand
	d := table(1, "1 2 0; 0 1 1 !; 2 2 2")
	if !slices.Equal(d.Next, []int{1, 2, 0, 0, 1, 1, 2, 2, 2}) || !slices.Equal(d.Accept, []bool{false, true, false}) || d.Width != 3 || d.Start != 1 {
		t.Errorf("table: %s", brief(d))
	}
	if len(d.Class) != 259 || !slices.Equal(d.Class[:5], []int{0, 1, 2, 0, 1}) || !slices.Equal(d.Class[255:], []int{0, 1, 2, 0}) {
		t.Errorf("turning: %v", d.Class)
	}
	if w := ways(d); !slices.EqualFunc(w, [][]bool{{true, true, true}, {true, true, true}, {false, false, true}}, slices.Equal) {
		t.Errorf("ways: %v", w)
	}
	if l := alive(d); !slices.Equal(l, []bool{true, true, false}) {
		t.Errorf("alive: %v", l)
	}
	if w := ways(table(0, "0; 0; 1; 3")); !slices.EqualFunc(w, [][]bool{{true, false, false, false}, {true, true, false, false}, {true, true, true, false}, {false, false, false, true}}, slices.Equal) {
		t.Errorf("ways: %v", w)
	}
	for text, want := range map[string][]int{"": {258}, "x": {256, 120, 257}, "xy": {256, 120, 121, 257}} {
		if l := symbols(text, 0, len(text)); !slices.Equal(l, want) {
			t.Errorf("symbols of %q: %v", text, l)
		}
	}
	if l := [][]int{symbols("xyz", 0, 0), symbols("xyz", 0, 2), symbols("xyz", 1, 2), symbols("xyz", 1, 1), symbols("xyz", 2, 3), symbols("xyz", 3, 3)}; !slices.EqualFunc(l, [][]int{{256}, {256, 120, 121}, {121}, {}, {122, 257}, {257}}, slices.Equal) {
		t.Errorf("symbols: %v", l)
	}
	if !slices.Equal(textsOf("ab", 2), []string{"", "a", "b", "aa", "ab", "ba", "bb"}) {
		t.Errorf("textsOf: %q", textsOf("ab", 2))
	}
	if a, b := entries(d), entries(roomy(d)); a != b || a == entries(table(0, "1 2 0; 0 1 1 !; 2 2 2")) || a == entries(table(1, "1 2 0; 0 1 1; 2 2 2")) {
		t.Errorf("entries: %s, %s", a, b)
	}
	if !mayBe(d) || mayBe(api.Dfa{}) || !mayBe(wide(4096, 1)) || mayBe(wide(4097, 1)) || !mayBe(wide(1, 259)) || mayBe(wide(1, 260)) {
		t.Errorf("mayBe")
	}
}
