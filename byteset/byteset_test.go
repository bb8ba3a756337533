package byteset

import (
	"bytes"
	"slices"
	"testing"

	"tatting/api"
)

// model says of each byte whether it is in a set, without any words or bits.
type model [256]bool

// setOf lays a model down as api.Set is told: bit b mod 64 of word b / 64.
func setOf(m model) api.Set {
	var s api.Set
	for b, in := range m {
		if in {
			s[b/64] += uint64(1) << (b % 64)
		}
	}
	return s
}

func modelOf(in func(b int) bool) model {
	var m model
	for b := range m {
		m[b] = in(b)
	}
	return m
}

// models are the empty set, all bytes, the ends of words and of all, and many mixed ones, always the same.
func models() []model {
	l := []model{
		modelOf(func(b int) bool { return false }),
		modelOf(func(b int) bool { return true }),
		modelOf(func(b int) bool { return b == 0 }),
		modelOf(func(b int) bool { return b == 255 }),
		modelOf(func(b int) bool { return b != 0 }),
		modelOf(func(b int) bool { return b != 255 }),
		modelOf(func(b int) bool { return b%2 == 0 }),
		modelOf(func(b int) bool { return b%2 == 1 }),
		modelOf(func(b int) bool { return b%64 == 0 }),
		modelOf(func(b int) bool { return b%64 == 63 }),
		modelOf(func(b int) bool { return b%64 == 63 || b%64 == 0 }),
		modelOf(func(b int) bool { return b/64 == 1 || b/64 == 2 }),
		modelOf(func(b int) bool { return b >= 'a' && b <= 'c' || b == 'x' }),
	}
	x := uint32(1)
	for _, part := range []uint32{2, 5, 10, 15, 18} { // of 20: from few bytes to nearly all
		for range 8 {
			l = append(l, modelOf(func(b int) bool {
				x = x*1664525 + 1013904223
				return x>>16%20 < part
			}))
		}
	}
	return l
}

// listOf is the model's bytes, rising.
func listOf(m model) []byte {
	l := []byte{}
	for b, in := range m {
		if in {
			l = append(l, byte(b))
		}
	}
	return l
}

func TestOf(t *testing.T) { // P1.1
	if Of() != (api.Set{}) {
		t.Errorf("Of of nothing: %v", Of())
	}
	for b := range 256 {
		want := setOf(modelOf(func(c int) bool { return c == b }))
		if got := Of(byte(b)); got != want {
			t.Errorf("Of(%d): %v", b, got)
		}
		if got := Of(byte(b), byte(b)); got != want {
			t.Errorf("Of(%d) twice: %v", b, got)
		}
	}
	if Of('x', 'a', 255, 0, 'a') != (api.Set{1, 1<<('a'-64) | 1<<('x'-64), 0, 1 << 63}) {
		t.Errorf("Of in no order")
	}
	for _, m := range models() {
		if got := Of(listOf(m)...); got != setOf(m) {
			t.Errorf("Of(%v): %v", listOf(m), got)
		}
	}
}

func TestRange(t *testing.T) { // P1.1
	for lo := range 256 {
		for hi := range 256 {
			want := setOf(modelOf(func(b int) bool { return lo <= b && b <= hi }))
			if got := Range(byte(lo), byte(hi)); got != want {
				t.Fatalf("Range(%d, %d): %v", lo, hi, got)
			}
			if none := Range(byte(lo), byte(hi)) == (api.Set{}); none != (lo > hi) {
				t.Fatalf("Range(%d, %d): none is %v", lo, hi, none)
			}
		}
	}
}

func TestHas(t *testing.T) { // P1.1
	for _, m := range models() {
		for b := range 256 {
			if Has(setOf(m), byte(b)) != m[b] {
				t.Errorf("Has(%v, %d): %v", setOf(m), b, !m[b])
			}
		}
	}
}

func TestTwoSets(t *testing.T) { // P1.1
	for _, a := range models() {
		for _, b := range models() {
			x, y := setOf(a), setOf(b)
			for _, c := range []struct {
				name string
				got  api.Set
				want model
			}{
				{"Or", Or(x, y), modelOf(func(i int) bool { return a[i] || b[i] })},
				{"And", And(x, y), modelOf(func(i int) bool { return a[i] && b[i] })},
				{"Less", Less(x, y), modelOf(func(i int) bool { return a[i] && !b[i] })},
			} {
				if c.got != setOf(c.want) {
					t.Fatalf("%s(%v, %v): %v", c.name, x, y, c.got)
				}
			}
		}
	}
}

func TestNot(t *testing.T) { // P1.1
	all := api.Set{1<<64 - 1, 1<<64 - 1, 1<<64 - 1, 1<<64 - 1}
	if Not(api.Set{}) != all || Not(all) != (api.Set{}) {
		t.Errorf("Not of none, of all: %v, %v", Not(api.Set{}), Not(all))
	}
	for _, m := range models() {
		if got := Not(setOf(m)); got != setOf(modelOf(func(b int) bool { return !m[b] })) {
			t.Errorf("Not(%v): %v", setOf(m), got)
		}
	}
}

func TestCountAndBytes(t *testing.T) { // P1.2
	if Count(api.Set{}) != 0 || len(Bytes(api.Set{})) != 0 {
		t.Errorf("of none: %d, %v", Count(api.Set{}), Bytes(api.Set{}))
	}
	if Count(Not(api.Set{})) != 256 || len(Bytes(Not(api.Set{}))) != 256 {
		t.Errorf("of all: %d, %v", Count(Not(api.Set{})), Bytes(Not(api.Set{})))
	}
	for _, m := range models() {
		s, want := setOf(m), listOf(m)
		if Count(s) != len(want) {
			t.Errorf("Count(%v): %d, not %d", s, Count(s), len(want))
		}
		if !bytes.Equal(Bytes(s), want) {
			t.Errorf("Bytes(%v): %v", s, Bytes(s))
		}
	}
}

func TestRuns(t *testing.T) { // P1.2
	for _, c := range []struct {
		s    api.Set
		want []api.Run
	}{
		{api.Set{}, nil},
		{Not(api.Set{}), []api.Run{{Lo: 0, Hi: 255}}},
		{Of('a', 'b', 'c', 'x'), []api.Run{{Lo: 'a', Hi: 'c'}, {Lo: 'x', Hi: 'x'}}},
		{Of(0), []api.Run{{Lo: 0, Hi: 0}}},
		{Of(255), []api.Run{{Lo: 255, Hi: 255}}},
		{Of(0, 255), []api.Run{{Lo: 0, Hi: 0}, {Lo: 255, Hi: 255}}},
		{Of(63, 64), []api.Run{{Lo: 63, Hi: 64}}},
		{Of(1, 3, 5), []api.Run{{Lo: 1, Hi: 1}, {Lo: 3, Hi: 3}, {Lo: 5, Hi: 5}}},
		{Not(Of(128)), []api.Run{{Lo: 0, Hi: 127}, {Lo: 129, Hi: 255}}},
		{Or(Range('a', 'c'), Range('d', 'f')), []api.Run{{Lo: 'a', Hi: 'f'}}},
		{Or(Range('a', 'd'), Range('c', 'f')), []api.Run{{Lo: 'a', Hi: 'f'}}},
	} {
		if got := Runs(c.s); !slices.Equal(got, c.want) {
			t.Errorf("Runs(%v): %v, not %v", c.s, got, c.want)
		}
	}
}

// TestRunsAreFew holds the runs of any set against what makes them the only right ones: each is whole, and between two there is a gap.
func TestRunsAreFew(t *testing.T) { // P1.2
	for _, m := range models() {
		l := Runs(setOf(m))
		var back model
		for i, r := range l {
			if r.Lo > r.Hi {
				t.Fatalf("Runs(%v): %v is empty", setOf(m), r)
			}
			if i > 0 && int(r.Lo) < int(l[i-1].Hi)+2 {
				t.Fatalf("Runs(%v): %v lies beside or ahead of %v", setOf(m), r, l[i-1])
			}
			for b := int(r.Lo); b <= int(r.Hi); b++ {
				back[b] = true
			}
		}
		if back != m {
			t.Errorf("Runs(%v): %v", setOf(m), l)
		}
	}
}

func TestUnion(t *testing.T) { // P1.2
	for _, c := range []struct {
		l    []api.Run
		want func(b int) bool
	}{
		{nil, func(b int) bool { return false }},
		{[]api.Run{}, func(b int) bool { return false }},
		{[]api.Run{{Lo: 9, Hi: 1}}, func(b int) bool { return false }},
		{[]api.Run{{Lo: 255, Hi: 0}, {Lo: 1, Hi: 0}}, func(b int) bool { return false }},
		{[]api.Run{{Lo: 9, Hi: 1}, {Lo: 5, Hi: 6}}, func(b int) bool { return b == 5 || b == 6 }},
		{[]api.Run{{Lo: 0, Hi: 255}}, func(b int) bool { return true }},
		{[]api.Run{{Lo: 0, Hi: 127}, {Lo: 128, Hi: 255}}, func(b int) bool { return true }},
		{[]api.Run{{Lo: 10, Hi: 20}, {Lo: 21, Hi: 30}}, func(b int) bool { return 10 <= b && b <= 30 }},
		{[]api.Run{{Lo: 10, Hi: 20}, {Lo: 15, Hi: 70}}, func(b int) bool { return 10 <= b && b <= 70 }},
		{[]api.Run{{Lo: 10, Hi: 70}, {Lo: 15, Hi: 20}}, func(b int) bool { return 10 <= b && b <= 70 }},
		{[]api.Run{{Lo: 7, Hi: 7}, {Lo: 7, Hi: 7}}, func(b int) bool { return b == 7 }},
		{[]api.Run{{Lo: 200, Hi: 255}, {Lo: 0, Hi: 2}}, func(b int) bool { return b >= 200 || b <= 2 }},
	} {
		if got := Union(c.l); got != setOf(modelOf(c.want)) {
			t.Errorf("Union(%v): %v", c.l, got)
		}
	}
}

func TestThereAndBack(t *testing.T) { // P1.3
	for _, m := range models() {
		s := setOf(m)
		if Of(Bytes(s)...) != s {
			t.Errorf("Of(Bytes(%v)): %v", s, Of(Bytes(s)...))
		}
		if Union(Runs(s)) != s {
			t.Errorf("Union(Runs(%v)): %v", s, Union(Runs(s)))
		}
	}
}

func TestNotOfOr(t *testing.T) { // P1.3
	for _, a := range models() {
		for _, b := range models() {
			x, y := setOf(a), setOf(b)
			if Not(Or(x, y)) != And(Not(x), Not(y)) {
				t.Fatalf("Not of Or of %v, %v", x, y)
			}
		}
	}
}

func TestWhatIsHandedInStays(t *testing.T) { // P2, rules 3 and 4
	b := []byte{'x', 'a', 'a', 0}
	s := Of(b...)
	if string(b) != "xaa\x00" {
		t.Errorf("Of has changed %v", b)
	}
	b[0] = 'z'
	if s != Of('x', 'a', 0) {
		t.Errorf("Of has kept what was handed in: %v", s)
	}
	l := []api.Run{{Lo: 'x', Hi: 'z'}, {Lo: 9, Hi: 1}, {Lo: 'a', Hi: 'c'}}
	keep := slices.Clone(l)
	u := Union(l)
	if !slices.Equal(l, keep) {
		t.Errorf("Union has changed %v", l)
	}
	l[0] = api.Run{}
	if u != Union(keep) {
		t.Errorf("Union has kept what was handed in: %v", u)
	}
}

func TestAnswersAreNew(t *testing.T) { // P2, rule 4
	s := Of('a', 'b', 'x')
	b, r := Bytes(s), Runs(s)
	b[0], r[0] = 'q', api.Run{Lo: 'q', Hi: 'q'}
	if string(Bytes(s)) != "abx" {
		t.Errorf("Bytes hands out what it handed out: %v", Bytes(s))
	}
	if Runs(s)[0] != (api.Run{Lo: 'a', Hi: 'b'}) {
		t.Errorf("Runs hands out what it handed out: %v", Runs(s))
	}
}
