package span_test

import (
	"errors"
	"math"
	"slices"
	"testing"

	"palimpsest/api"
	"palimpsest/plain"
	"palimpsest/span"
)

const most = api.MaxTime

// of is a span, shortly.
func of(from, to int) api.Span { return api.Span{From: from, To: to} }

// rows are many spans that don't touch, the first one from a time on.
func rows(from, many int) []api.Span {
	var l []api.Span
	for i := range many {
		l = append(l, of(from+2*i, from+2*i+1))
	}
	return l
}

// set is the set of spans that are right.
func set(t *testing.T, l ...api.Span) *span.Set {
	t.Helper()
	s, err := span.Of(l)
	if err != nil || s == nil {
		t.Fatalf("Of(%v): %v, %v", l, s, err)
	}
	return s
}

// small are all spans of a few times, empty ones and turned ones too.
func small(n int) []api.Span {
	var l []api.Span
	for from := range n {
		for to := range n {
			l = append(l, of(from, to))
		}
	}
	return l
}

// bits is the set of the times whose bits are set.
func bits(t *testing.T, mask int) *span.Set {
	t.Helper()
	var l []api.Span
	for i := range 8 {
		if mask>>i&1 == 1 {
			l = append(l, of(i, i+1))
		}
	}
	return set(t, l...)
}

// fewest are the times whose bits are set, as as few spans as there can be.
func fewest(mask int) []api.Span {
	var l []api.Span
	for i := range 8 {
		if mask>>i&1 == 0 {
			continue
		}
		if n := len(l) - 1; n >= 0 && l[n].To == i {
			l[n].To++
			continue
		}
		l = append(l, of(i, i+1))
	}
	return l
}

// Promise 1.1.

func TestRight(t *testing.T) {
	for _, c := range []struct {
		s    api.Span
		want bool
	}{
		{of(0, 1), true},
		{of(-5, 7), true},
		{of(-most, most), true},
		{of(-most, -most+1), true},
		{of(most-1, most), true},
		{of(0, 0), false},
		{of(1, 0), false},
		{of(most, most), false},
		{of(-most-1, 0), false},
		{of(0, most+1), false},
		{of(most, -most), false},
		{of(math.MinInt, math.MaxInt), false},
		{of(math.MaxInt, math.MinInt), false},
		{api.Span{}, false},
	} {
		if got := span.Right(c.s); got != c.want {
			t.Errorf("Right(%v) = %v", c.s, got)
		}
	}
}

func TestHas(t *testing.T) {
	for _, c := range []struct {
		s    api.Span
		time int
		want bool
	}{
		{of(3, 5), 2, false},
		{of(3, 5), 3, true},
		{of(3, 5), 4, true},
		{of(3, 5), 5, false},
		{of(-most, most), -most, true},
		{of(-most, most), most, false},
		{of(5, 5), 5, false},
		{of(5, 3), 4, false},
		{of(math.MinInt, math.MaxInt), math.MinInt, true},
		{of(math.MinInt, math.MaxInt), math.MaxInt, false},
	} {
		if got := span.Has(c.s, c.time); got != c.want {
			t.Errorf("Has(%v, %d) = %v", c.s, c.time, got)
		}
	}
}

func TestMeet(t *testing.T) {
	for _, c := range []struct {
		a, b, want api.Span
		ok         bool
	}{
		{of(0, 10), of(5, 20), of(5, 10), true},
		{of(5, 20), of(0, 10), of(5, 10), true},
		{of(0, 10), of(3, 5), of(3, 5), true},
		{of(0, 10), of(0, 10), of(0, 10), true},
		{of(0, 5), of(4, 9), of(4, 5), true},
		{of(0, 5), of(5, 9), api.Span{}, false},
		{of(0, 5), of(7, 9), api.Span{}, false},
		{of(0, 9), of(4, 4), api.Span{}, false},
		{of(0, 9), of(7, 2), api.Span{}, false},
		{of(7, 2), of(7, 2), api.Span{}, false},
		{of(math.MinInt, math.MaxInt), of(-1, 1), of(-1, 1), true},
	} {
		if got, ok := span.Meet(c.a, c.b); got != c.want || ok != c.ok {
			t.Errorf("Meet(%v, %v) = %v, %v", c.a, c.b, got, ok)
		}
	}
}

func TestLess(t *testing.T) {
	for _, c := range []struct {
		a, b api.Span
		want []api.Span
	}{
		{of(0, 10), of(3, 5), []api.Span{of(0, 3), of(5, 10)}},
		{of(0, 10), of(0, 5), []api.Span{of(5, 10)}},
		{of(0, 10), of(-3, 5), []api.Span{of(5, 10)}},
		{of(0, 10), of(5, 10), []api.Span{of(0, 5)}},
		{of(0, 10), of(5, 12), []api.Span{of(0, 5)}},
		{of(0, 10), of(10, 12), []api.Span{of(0, 10)}},
		{of(0, 10), of(-2, 0), []api.Span{of(0, 10)}},
		{of(0, 10), of(0, 10), nil},
		{of(0, 10), of(-1, 11), nil},
		{of(0, 10), of(5, 5), []api.Span{of(0, 10)}},
		{of(0, 10), of(7, 3), []api.Span{of(0, 10)}},
		{of(5, 5), of(0, 1), nil},
		{of(7, 3), of(4, 5), nil},
		{of(7, 3), of(5, 5), nil},
		{of(math.MinInt, math.MaxInt), of(0, 1), []api.Span{of(math.MinInt, 0), of(1, math.MaxInt)}},
	} {
		if got := span.Less(c.a, c.b); !slices.Equal(got, c.want) {
			t.Errorf("Less(%v, %v) = %v, not %v", c.a, c.b, got, c.want)
		}
	}
}

// TestSmallSpans holds Meet and Less against Has, time by time.
func TestSmallSpans(t *testing.T) {
	for _, a := range small(7) {
		for _, b := range small(7) {
			m, ok := span.Meet(a, b)
			l := span.Less(a, b)
			some := false
			for time := -1; time < 8; time++ {
				inA, inB := span.Has(a, time), span.Has(b, time)
				some = some || inA && inB
				if span.Has(m, time) != (inA && inB) {
					t.Errorf("Meet(%v, %v) = %v: time %d", a, b, m, time)
				}
				in := slices.ContainsFunc(l, func(s api.Span) bool { return span.Has(s, time) })
				if in != (inA && !inB) {
					t.Errorf("Less(%v, %v) = %v: time %d", a, b, l, time)
				}
			}
			if ok != some || !ok && m != (api.Span{}) {
				t.Errorf("Meet(%v, %v) = %v, %v", a, b, m, ok)
			}
		}
	}
}

// Promise 1.2.

func TestOf(t *testing.T) {
	for _, c := range []struct{ l, want []api.Span }{
		{nil, nil},
		{[]api.Span{of(0, 3)}, []api.Span{of(0, 3)}},
		{[]api.Span{of(5, 7), of(0, 3)}, []api.Span{of(0, 3), of(5, 7)}},
		{[]api.Span{of(0, 3), of(3, 5)}, []api.Span{of(0, 5)}},
		{[]api.Span{of(3, 5), of(0, 3)}, []api.Span{of(0, 5)}},
		{[]api.Span{of(0, 3), of(4, 5)}, []api.Span{of(0, 3), of(4, 5)}},
		{[]api.Span{of(0, 9), of(2, 4), of(6, 7)}, []api.Span{of(0, 9)}},
		{[]api.Span{of(0, 4), of(0, 9), of(0, 2)}, []api.Span{of(0, 9)}},
		{[]api.Span{of(1, 2), of(1, 2)}, []api.Span{of(1, 2)}},
		{[]api.Span{of(0, most), of(-most, 0)}, []api.Span{of(-most, most)}},
		{[]api.Span{of(4, 5), of(0, 1), of(2, 3), of(1, 2)}, []api.Span{of(0, 3), of(4, 5)}},
	} {
		if got := set(t, c.l...).Spans(); !slices.Equal(got, c.want) {
			t.Errorf("Of(%v) has %v, not %v", c.l, got, c.want)
		}
	}
}

func TestOfErrors(t *testing.T) {
	long := rows(0, api.MaxSpans+1)
	for _, c := range []struct {
		l     []api.Span
		want  api.Errno
		place int
	}{
		{[]api.Span{of(0, 0)}, api.ErrArg, 0},
		{[]api.Span{of(0, 1), of(5, 2), of(3, 3)}, api.ErrArg, 1},
		{[]api.Span{of(0, 1), of(1, 2), of(-most-1, 3)}, api.ErrArg, 2},
		{[]api.Span{of(9, most+1), of(4, 4)}, api.ErrArg, 0},
		{long, api.ErrLimit, -1},
		{append(slices.Clone(long), of(7, 7)), api.ErrArg, api.MaxSpans + 1},
		{rows(-most, 4*api.MaxSpans), api.ErrLimit, -1},
	} {
		s, err := span.Of(c.l)
		if e, place := plain.Place(err); s != nil || e != c.want || place != c.place {
			t.Errorf("Of(%v) = %v, error %d at %d", c.l, s, e, place)
		}
	}
}

// TestOfLimit: what comes is counted, not what goes in.
func TestOfLimit(t *testing.T) {
	l := rows(0, api.MaxSpans)
	slices.Reverse(l)
	if got := set(t, l...).Spans(); len(got) != api.MaxSpans || !slices.Equal(got, rows(0, api.MaxSpans)) {
		t.Errorf("MaxSpans spans: %v", got)
	}
	twice := append(slices.Clone(l), l...)
	if got := set(t, twice...).Spans(); len(got) != api.MaxSpans {
		t.Errorf("each twice: %v", got)
	}
	more := append(rows(0, 3*api.MaxSpans), of(1, 6*api.MaxSpans))
	if got := set(t, more...).Spans(); !slices.Equal(got, []api.Span{of(0, 6*api.MaxSpans)}) {
		t.Errorf("many that one joins: %v", got)
	}
}

func TestSetHas(t *testing.T) {
	s := set(t, of(3, 5), of(8, 9), of(-most, -most+1), of(most-1, most))
	for _, c := range []struct {
		time int
		want bool
	}{
		{2, false}, {3, true}, {4, true}, {5, false}, {7, false}, {8, true}, {9, false},
		{-most - 1, false}, {-most, true}, {-most + 1, false},
		{most - 2, false}, {most - 1, true}, {most, false},
		{math.MinInt, false}, {math.MaxInt, false},
	} {
		if got := s.Has(c.time); got != c.want {
			t.Errorf("Has(%d) = %v", c.time, got)
		}
	}
}

// TestSmallSets holds what two sets make against what their times make.
func TestSmallSets(t *testing.T) {
	var sets [256]*span.Set
	for i := range sets {
		sets[i] = bits(t, i)
		if got := sets[i].Spans(); !slices.Equal(got, fewest(i)) {
			t.Fatalf("the set %b: %v", i, got)
		}
		for time := -1; time < 10; time++ {
			if got := sets[i].Has(time); got != (time >= 0 && i>>time&1 == 1) {
				t.Fatalf("the set %b: Has(%d) = %v", i, time, got)
			}
		}
	}
	check := func(what string, i, j, want int, s *span.Set, err error) {
		if err != nil || s == nil || !slices.Equal(s.Spans(), fewest(want)) {
			t.Fatalf("%b %s %b: %v, %v", i, what, j, s, err)
		}
	}
	for i, a := range sets {
		for j, b := range sets {
			s, err := a.Union(b)
			check("Union", i, j, i|j, s, err)
			s, err = a.Both(b)
			check("Both", i, j, i&j, s, err)
			s, err = a.Minus(b)
			check("Minus", i, j, i&^j, s, err)
		}
	}
}

// TestSetLimit: each of the three at the bound, and one beyond it.
func TestSetLimit(t *testing.T) {
	union := func(a, b *span.Set) (*span.Set, error) { return a.Union(b) }
	both := func(a, b *span.Set) (*span.Set, error) { return a.Both(b) }
	minus := func(a, b *span.Set) (*span.Set, error) { return a.Minus(b) }
	half := api.MaxSpans / 2
	whole := set(t, of(0, 1000))
	low := set(t, rows(0, half)...)
	steps := set(t, append(rows(0, half-1), of(2*half-2, 500), of(501, 1000))...) // half + 1 spans that end at 1000
	cuts := set(t, append([]api.Span{of(0, 2*half-1)}, rows(2*half+500, half)...)...)
	for _, c := range []struct {
		name string
		do   func(a, b *span.Set) (*span.Set, error)
		a, b *span.Set
		many int // 0: ErrLimit
	}{
		{"union", union, low, set(t, rows(500, half)...), api.MaxSpans},
		{"union beyond", union, low, set(t, rows(500, half+1)...), 0},
		{"both", both, whole, set(t, rows(0, api.MaxSpans)...), api.MaxSpans},
		{"both at the bound", both, steps, cuts, api.MaxSpans},
		{"both beyond", both, steps, set(t, append([]api.Span{of(0, 2*half-1)}, rows(499, half+1)...)...), 0},
		{"minus", minus, whole, set(t, rows(1, api.MaxSpans-1)...), api.MaxSpans},
		{"minus beyond", minus, whole, set(t, rows(1, api.MaxSpans)...), 0},
	} {
		s, err := c.do(c.a, c.b)
		if c.many == 0 {
			if e, place := plain.Place(err); s != nil || e != api.ErrLimit || place != -1 {
				t.Errorf("%s: %v, %v", c.name, s, err)
			}
			continue
		}
		if err != nil || len(s.Spans()) != c.many {
			t.Errorf("%s: %v, %v", c.name, s, err)
		}
	}
}

// TestEmptySets: the zero value, and what comes with an error, have no times.
func TestEmptySets(t *testing.T) {
	full := set(t, of(2, 4))
	for _, none := range []*span.Set{new(span.Set), nil, set(t)} {
		if l := none.Spans(); len(l) != 0 || none.Has(0) {
			t.Errorf("an empty set has %v", l)
		}
		for _, c := range []struct {
			a, b *span.Set
			want [3]int // how many spans Union, Both, Minus have
		}{
			{none, full, [3]int{1, 0, 0}},
			{full, none, [3]int{1, 0, 1}},
			{none, none, [3]int{}},
		} {
			u, e := c.a.Union(c.b)
			v, f := c.a.Both(c.b)
			w, g := c.a.Minus(c.b)
			if err := errors.Join(e, f, g); err != nil || u == nil || v == nil || w == nil {
				t.Fatalf("%v, %v, %v: %v", u, v, w, err)
			}
			if got := [3]int{len(u.Spans()), len(v.Spans()), len(w.Spans())}; got != c.want {
				t.Errorf("how many spans: %v, not %v", got, c.want)
			}
		}
	}
}

// TestOwnMemory: P4: nothing that goes in is changed or kept, and what comes out is the caller's.
func TestOwnMemory(t *testing.T) {
	in := []api.Span{of(8, 9), of(0, 3), of(2, 5)}
	was := slices.Clone(in)
	short := in[:2]
	a := set(t, short...)
	if !slices.Equal(in, was) {
		t.Errorf("Of changed its list: %v", in)
	}
	clear(in)
	want := []api.Span{of(0, 3), of(8, 9)}
	if got := a.Spans(); !slices.Equal(got, want) {
		t.Errorf("Of kept its list: %v", got)
	}
	clear(a.Spans())
	if got := a.Spans(); !slices.Equal(got, want) {
		t.Errorf("Spans handed out what it keeps: %v", got)
	}
	b := set(t, of(1, 2))
	for _, do := range []func(*span.Set) (*span.Set, error){a.Union, a.Both, a.Minus} {
		if s, err := do(b); err != nil || s == a || s == b {
			t.Errorf("%v, %v: not a new set", s, err)
		}
		if got := a.Spans(); !slices.Equal(got, want) || !slices.Equal(b.Spans(), []api.Span{of(1, 2)}) {
			t.Errorf("a set changed: %v, %v", got, b.Spans())
		}
	}
	if m, err := a.Minus(a); err != nil || len(m.Spans()) != 0 {
		t.Errorf("a set less itself: %v, %v", m, err)
	}
}
