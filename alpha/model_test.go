package alpha

import (
	"fmt"
	"math"
	"slices"
	"strconv"
	"strings"
	"testing"

	"tatting/api"
)

// setBy is the set of the bytes that a function tells, bit by bit.
func setBy(in func(b int) bool) api.Set {
	var s api.Set
	for b := range 256 {
		if in(b) {
			s[b/64] |= uint64(1) << (b % 64)
		}
	}
	return s
}

func setOf(l ...byte) api.Set {
	return setBy(func(b int) bool { return slices.Contains(l, byte(b)) })
}

func fromTo(lo, hi int) api.Set {
	return setBy(func(b int) bool { return lo <= b && b <= hi })
}

func rest(s api.Set) api.Set {
	return setBy(func(b int) bool { return !has(s, b) })
}

func has(s api.Set, b int) bool { return s[b/64]&(uint64(1)<<(b%64)) != 0 }

func all() api.Set {
	return api.Set{math.MaxUint64, math.MaxUint64, math.MaxUint64, math.MaxUint64}
}

// row is an automaton of a StSet for each set, one behind the other.
func row(sets ...api.Set) api.Nfa {
	var n api.Nfa
	for i, s := range sets {
		n.States = append(n.States, api.State{Kind: api.StSet, A: i + 1, Set: s})
	}
	n.States = append(n.States, api.State{Kind: api.StFinal})
	n.Final = len(sets)
	return n
}

// setsOf has the sets of an automaton's StSets.
func setsOf(n api.Nfa) []api.Set {
	var l []api.Set
	for _, s := range n.States {
		if s.Kind == api.StSet {
			l = append(l, s.Set)
		}
	}
	return l
}

// spans reads what is written as spans: 96:0 97:1 255:0 is 0 up to the byte 96, 1 of 97, 0 up to 255. The three ends come behind them, each with the next number.
func spans(text string) ([]int, int) {
	var l []int
	for _, word := range strings.Fields(text) {
		last, class, _ := strings.Cut(word, ":")
		hi, _ := strconv.Atoi(last)
		c, _ := strconv.Atoi(class)
		for len(l) <= hi {
			l = append(l, c)
		}
	}
	c := slices.Max(l)
	return append(l, c+1, c+2, c+3), c + 4
}

// brief is a list of classes as a fault tells it: as spans.
func brief(l []int) string {
	var p strings.Builder
	for i, c := range l {
		if i == len(l)-1 || l[i+1] != c {
			fmt.Fprintf(&p, "%d:%d ", i, c)
		}
		if p.Len() > 400 {
			p.WriteString(".. ")
			break
		}
	}
	return fmt.Sprintf("%sof %d places", p.String(), len(l))
}

// numbered is the classes of some places, by what tells whether two of them are in one; numbered by their first places, rising.
func numbered(size int, alike func(i, j int) bool) ([]int, int) {
	class, width := []int{}, 0
	for i := range size {
		c := width
		for j := range i {
			if alike(j, i) {
				c = class[j]
				break
			}
		}
		if c == width {
			width++
		}
		class = append(class, c)
	}
	return class, width
}

// classesOf is what the chapter says of symbols, pair by pair.
func classesOf(sets []api.Set) ([]int, int) {
	return numbered(259, func(x, y int) bool {
		if x > 255 || y > 255 {
			return x == y
		}
		for _, s := range sets {
			if has(s, x) != has(s, y) {
				return false
			}
		}
		return true
	})
}

// joined is what the chapter says of two lists of one length, pair by pair.
func joined(a, b []int) ([]int, int) {
	return numbered(len(a), func(i, j int) bool { return a[i] == a[j] && b[i] == b[j] })
}

// firstsOf looks for each class on its own.
func firstsOf(class []int, width int) []int {
	l := []int{}
	for c := 0; c < width && c < 259; c++ {
		l = append(l, slices.Index(class, c))
	}
	return l
}

// generator tells numbers from 0 to below n, always the same ones.
func generator() func(n int) int {
	x := uint32(10)
	return func(n int) int {
		x = x*1664525 + 1013904223
		return int(x>>8) % n
	}
}

// mixedSet is a set by what next tells: of few bytes, of many, of runs, or one of those that are met often.
func mixedSet(next func(int) int) api.Set {
	part := 1 + next(15)
	switch next(6) {
	case 0:
		return setOf(byte(next(256)))
	case 1:
		return setOf(byte(next(256)), byte(next(256)), byte(next(256)))
	case 2:
		lo := next(256)
		return fromTo(lo, lo+next(256-lo))
	case 3:
		return rest(setOf(byte(next(256)), byte(next(4)*64)))
	case 4:
		return setBy(func(b int) bool { return next(16) < part })
	}
	return []api.Set{{}, all(), setOf(0), setOf(255), fromTo(64, 127), fromTo('a', 'z'), fromTo('0', '9')}[next(7)]
}

// mixedSets has n of them, some of them twice.
func mixedSets(next func(int) int, n int) []api.Set {
	var l []api.Set
	for len(l) < n {
		if len(l) > 0 && next(4) == 0 {
			l = append(l, l[next(len(l))])
		} else {
			l = append(l, mixedSet(next))
		}
	}
	return l
}

// mixed is an automaton that is right, with these sets in any order, among states of all other kinds, that go anywhere.
func mixed(next func(int) int, sets []api.Set, others int) api.Nfa {
	var n api.Nfa
	for _, s := range sets {
		n.States = append(n.States, api.State{Kind: api.StSet, Set: s})
	}
	for range others {
		n.States = append(n.States, api.State{Kind: []int{api.StEmpty, api.StSplit, api.StBegin, api.StEnd}[next(4)]})
	}
	n.States = append(n.States, api.State{Kind: api.StFinal})
	for i := range n.States {
		j := i + next(len(n.States)-i)
		n.States[i], n.States[j] = n.States[j], n.States[i]
	}
	for i, s := range n.States {
		if s.Kind == api.StFinal {
			n.Final = i
			continue
		}
		n.States[i].A = next(len(n.States))
		if s.Kind == api.StSplit {
			n.States[i].B = next(len(n.States))
		}
	}
	n.Start = next(len(n.States))
	return n
}

// listsOf hands all lists of n of some numbers to a function.
func listsOf(n int, of []int, f func(l []int)) {
	var grow func(l []int)
	grow = func(l []int) {
		if len(l) == n {
			f(slices.Clone(l))
			return
		}
		for _, x := range of {
			grow(append(slices.Clone(l), x))
		}
	}
	grow(nil)
}

// edges are numbers that are no classes of symbols, or only just.
func edges() []int {
	return []int{math.MinInt, math.MinInt + 1, math.MinInt32, -260, -259, -2, -1, 0, 1, 2, 3, 255, 256, 257, 258, 259, 260, 1 << 20, math.MaxInt32, 1 << 32, 1<<32 + 1, math.MaxInt - 1, math.MaxInt}
}

// rawList is a list of any numbers, by what next tells.
func rawList(next func(int) int, n int) []int {
	var l []int
	for range n {
		switch next(3) {
		case 0:
			l = append(l, edges()[next(len(edges()))])
		case 1:
			l = append(l, next(300)-20)
		default:
			l = append(l, next(4))
		}
	}
	return l
}

func TestModels(t *testing.T) { // P10.1 to P10.3: what the other tests hold the calls against, by hand
	if l, n := spans("96:0 97:1 98:2 255:0"); n != 6 || len(l) != 259 || l[96] != 0 || l[97] != 1 || l[98] != 2 || l[99] != 0 || l[255] != 0 || l[256] != 3 || l[258] != 5 {
		t.Errorf("spans: %v, %d", l, n)
	}
	if l, n := numbered(6, func(i, j int) bool { return i%3 == j%3 }); n != 3 || !slices.Equal(l, []int{0, 1, 2, 0, 1, 2}) {
		t.Errorf("numbered: %v, %d", l, n)
	}
	l, n := classesOf([]api.Set{setOf('a', 'b'), setOf('b')})
	if want, width := spans("96:0 97:1 98:2 255:0"); !slices.Equal(l, want) || n != width {
		t.Errorf("classesOf: %s, %d", brief(l), n)
	}
	if l, n := joined([]int{7, 7, 8, 8, 7}, []int{-1, 0, -1, -1, -1}); n != 3 || !slices.Equal(l, []int{0, 1, 2, 2, 0}) {
		t.Errorf("joined: %v, %d", l, n)
	}
	if l := firstsOf([]int{2, 0, 2, 9}, 4); !slices.Equal(l, []int{1, -1, 0, -1}) {
		t.Errorf("firstsOf: %v", l)
	}
	if s := setOf(0, 63, 64, 255); s != (api.Set{1 | 1<<63, 1, 0, 1 << 63}) || rest(s) != (api.Set{math.MaxUint64 >> 1 &^ 1, math.MaxUint64 - 1, math.MaxUint64, math.MaxUint64 >> 1}) {
		t.Errorf("setOf, rest: %x, %x", s, rest(s))
	}
}
