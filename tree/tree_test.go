package tree_test

import (
	"errors"
	"math"
	"math/bits"
	"math/rand"
	"slices"
	"testing"

	"palimpsest/api"
	"palimpsest/plain"
	"palimpsest/span"
	"palimpsest/tree"
)

const (
	most = api.MaxTime
	last = api.MaxId
)

// told fails unless an error is the one wanted, without a place.
func told(t *testing.T, what string, err error, want api.Errno) {
	t.Helper()
	e, place := plain.Place(err)
	var a *api.At
	if e != want || place != -1 || errors.As(err, &a) {
		t.Errorf("%s: error %d at %d, want %d", what, e, place, want)
	}
}

// add puts spans in that may be.
func add(t *testing.T, x *tree.Tree, id, from, to int) {
	t.Helper()
	told(t, "Add", x.Add(id, api.Span{From: from, To: to}), api.OK)
}

// found fails unless the numbers are those wanted.
func found(t *testing.T, what string, got []int, want ...int) {
	t.Helper()
	if !slices.Equal(got, want) {
		t.Errorf("%s: %v, want %v", what, got, want)
	}
}

// model is a tree without a tree.
type model map[int]api.Span

// meets goes through all spans.
func (m model) meets(s api.Span) []int {
	var out []int
	if !span.Right(s) {
		return nil
	}
	for id, o := range m {
		if max(o.From, s.From) < min(o.To, s.To) {
			out = append(out, id)
		}
	}
	slices.Sort(out)
	return out
}

// at goes through all spans.
func (m model) at(time int) []int {
	var out []int
	for id, o := range m {
		if o.From <= time && time < o.To {
			out = append(out, id)
		}
	}
	slices.Sort(out)
	return out
}

// high fails unless a tree is as high as so many may be: no tree is lower than its bits, and 2 k is the most.
func high(t *testing.T, x *tree.Tree) {
	t.Helper()
	n := x.Many()
	least, bound := bits.Len(uint(n)), 2*bits.Len(uint(n+1))
	if n == 0 {
		bound = 0
	}
	if h := x.High(); h < least || h > bound {
		t.Errorf("%d spans: High %d, want %d to %d", n, h, least, bound)
	}
}

// Promise 3.1.

func TestEmpty(t *testing.T) {
	var x tree.Tree
	for range 2 {
		if x.Many() != 0 || x.High() != 0 {
			t.Errorf("Many %d, High %d", x.Many(), x.High())
		}
		found(t, "Meets", x.Meets(api.Span{From: -most, To: most}))
		found(t, "At", x.At(0))
		told(t, "Drop", x.Drop(0), api.ErrMissing)
		s, err := x.Span(0)
		told(t, "Span", err, api.ErrMissing)
		if s != (api.Span{}) {
			t.Errorf("Span with an error: %v", s)
		}
		// Once more when the last one is gone.
		add(t, &x, 0, 1, 2)
		told(t, "Drop", x.Drop(0), api.OK)
	}
}

func TestSome(t *testing.T) {
	var x tree.Tree
	add(t, &x, 9, 0, 10)
	add(t, &x, 2, 5, 20)
	add(t, &x, 7, -5, 3)
	add(t, &x, 4, 5, 20) // the same times as another one
	add(t, &x, 1, 10, 11)
	if x.Many() != 5 {
		t.Errorf("Many %d", x.Many())
	}
	high(t, &x)
	s, err := x.Span(7)
	told(t, "Span", err, api.OK)
	if s != (api.Span{From: -5, To: 3}) {
		t.Errorf("Span(7) = %v", s)
	}
	found(t, "At 7", x.At(7), 2, 4, 9)
	found(t, "At 3", x.At(3), 9)
	found(t, "At 2", x.At(2), 7, 9)
	found(t, "At 10", x.At(10), 1, 2, 4)
	found(t, "At 20", x.At(20))
	found(t, "At -5", x.At(-5), 7)
	found(t, "At -6", x.At(-6))
	found(t, "Meets 2..5", x.Meets(api.Span{From: 2, To: 5}), 7, 9)
	found(t, "Meets 3..5", x.Meets(api.Span{From: 3, To: 5}), 9)
	found(t, "Meets 3..6", x.Meets(api.Span{From: 3, To: 6}), 2, 4, 9)
	found(t, "Meets all", x.Meets(api.Span{From: -most, To: most}), 1, 2, 4, 7, 9)
	told(t, "Drop", x.Drop(4), api.OK)
	found(t, "At 7", x.At(7), 2, 9)
	told(t, "Drop", x.Drop(4), api.ErrMissing)
	_, err = x.Span(4)
	told(t, "Span", err, api.ErrMissing)
	if x.Many() != 4 {
		t.Errorf("Many %d", x.Many())
	}
	add(t, &x, 4, 0, 1) // a number may come again
	found(t, "At 0", x.At(0), 4, 7, 9)
}

// TestTouching: a span ends ahead of its To.
func TestTouching(t *testing.T) {
	var x tree.Tree
	add(t, &x, 1, 0, 5)
	add(t, &x, 2, 5, 9)
	found(t, "At 4", x.At(4), 1)
	found(t, "At 5", x.At(5), 2)
	found(t, "Meets 4..5", x.Meets(api.Span{From: 4, To: 5}), 1)
	found(t, "Meets 5..6", x.Meets(api.Span{From: 5, To: 6}), 2)
	found(t, "Meets 4..6", x.Meets(api.Span{From: 4, To: 6}), 1, 2)
	found(t, "Meets 9..99", x.Meets(api.Span{From: 9, To: 99}))
	found(t, "Meets -9..0", x.Meets(api.Span{From: -9, To: 0}))
}

// TestAddErrors: each wrong thing, and of several the one told first; nothing is changed then.
func TestAddErrors(t *testing.T) {
	ok, bad := api.Span{From: 1, To: 2}, api.Span{From: 2, To: 2}
	var x tree.Tree
	add(t, &x, 0, 0, 9)
	add(t, &x, last, 0, 9)
	for _, c := range []struct {
		id   int
		s    api.Span
		want api.Errno
	}{
		{-1, ok, api.ErrRange},
		{last + 1, ok, api.ErrRange},
		{math.MinInt, ok, api.ErrRange},
		{math.MaxInt, ok, api.ErrRange},
		{-1, bad, api.ErrRange},
		{5, bad, api.ErrArg},
		{5, api.Span{}, api.ErrArg},
		{5, api.Span{From: 3, To: 2}, api.ErrArg},
		{5, api.Span{From: -most - 1, To: 2}, api.ErrArg},
		{5, api.Span{From: 0, To: most + 1}, api.ErrArg},
		{5, api.Span{From: math.MinInt, To: math.MaxInt}, api.ErrArg},
		{0, bad, api.ErrArg},
		{0, ok, api.ErrTwice},
		{last, api.Span{From: 0, To: 9}, api.ErrTwice},
	} {
		told(t, "Add", x.Add(c.id, c.s), c.want)
		s, err := x.Span(0)
		if err != nil || s != (api.Span{From: 0, To: 9}) || x.Many() != 2 {
			t.Errorf("Add(%d, %v) changed it: %v, %v, %d", c.id, c.s, s, err, x.Many())
		}
		if _, err := x.Span(c.id); c.want != api.ErrTwice && api.Tell(err) != api.ErrMissing && c.id != 0 {
			t.Errorf("Add(%d, %v): it is there", c.id, c.s)
		}
		found(t, "Meets", x.Meets(api.Span{From: -most, To: most}), 0, last)
	}
}

// TestMissing: numbers of which there is none, and can be none.
func TestMissing(t *testing.T) {
	var x tree.Tree
	add(t, &x, 3, 0, 9)
	for _, id := range []int{2, 4, 0, -1, last, last + 1, math.MinInt, math.MaxInt} {
		told(t, "Drop", x.Drop(id), api.ErrMissing)
		s, err := x.Span(id)
		told(t, "Span", err, api.ErrMissing)
		if s != (api.Span{}) || x.Many() != 1 {
			t.Errorf("%d: %v, %d", id, s, x.Many())
		}
	}
	found(t, "At", x.At(0), 3)
}

// TestMeetsWrong: a span that may not be meets none, though it has times that others have.
func TestMeetsWrong(t *testing.T) {
	var x tree.Tree
	add(t, &x, 1, -most, most)
	for _, s := range []api.Span{
		{}, {From: 5, To: 5}, {From: 6, To: 5},
		{From: -most - 1, To: 5}, {From: 5, To: most + 1},
		{From: math.MinInt, To: math.MaxInt}, {From: math.MaxInt, To: math.MinInt},
	} {
		found(t, "Meets", x.Meets(s))
	}
}

// TestFarTimes: the first and the last time of all, and those beyond.
func TestFarTimes(t *testing.T) {
	var x tree.Tree
	add(t, &x, 1, -most, most)
	add(t, &x, 2, -most, -most+1)
	add(t, &x, 3, most-1, most)
	found(t, "the first time", x.At(-most), 1, 2)
	found(t, "the second time", x.At(-most+1), 1)
	found(t, "the last time", x.At(most-1), 1, 3)
	for _, time := range []int{-most - 1, most, most + 1, math.MinInt, math.MinInt + 1, math.MaxInt, math.MaxInt - 1} {
		found(t, "a time beyond", x.At(time))
	}
}

// TestFull: MaxTree, and no more; ErrFull comes behind all other errors.
func TestFull(t *testing.T) {
	var x tree.Tree
	for i := range api.MaxTree {
		if err := x.Add(i, api.Span{From: i, To: i + 2}); err != nil {
			t.Fatalf("Add %d: %v", i, err)
		}
	}
	high(t, &x)
	ok := api.Span{From: 0, To: 1}
	told(t, "full", x.Add(api.MaxTree, ok), api.ErrFull)
	told(t, "full, and twice", x.Add(0, ok), api.ErrTwice)
	told(t, "full, and no span", x.Add(api.MaxTree, api.Span{}), api.ErrArg)
	told(t, "full, and no number", x.Add(-1, ok), api.ErrRange)
	if x.Many() != api.MaxTree {
		t.Errorf("Many %d", x.Many())
	}
	found(t, "At 0", x.At(0), 0)
	found(t, "At 77", x.At(77), 76, 77)
	if n := len(x.Meets(api.Span{From: -most, To: most})); n != api.MaxTree {
		t.Errorf("Meets %d", n)
	}
	told(t, "Drop", x.Drop(77), api.OK)
	told(t, "room again", x.Add(last, ok), api.OK)
	told(t, "full again", x.Add(77, ok), api.ErrFull)
	found(t, "At 77", x.At(77), 76)
	found(t, "At 0", x.At(0), 0, last)
}

// TestHigh: however spans come, and go, the tree is no higher than it may be.
func TestHigh(t *testing.T) {
	const many = 700
	r := rand.New(rand.NewSource(1))
	orders := map[string][]int{"drawn": r.Perm(many)}
	for i := range many {
		orders["rising"] = append(orders["rising"], i)
		orders["falling"] = append(orders["falling"], many-1-i)
		orders["from both ends"] = append(orders["from both ends"], []int{i / 2, many - 1 - i/2}[i%2])
	}
	spans := map[string]func(i int) api.Span{
		"apart":  func(i int) api.Span { return api.Span{From: 2 * i, To: 2*i + 1} },
		"same":   func(int) api.Span { return api.Span{From: 3, To: 4} },
		"nested": func(i int) api.Span { return api.Span{From: -i, To: i + 1} },
	}
	for order, ids := range orders {
		for how, of := range spans {
			t.Run(order+" "+how, func(t *testing.T) {
				var x tree.Tree
				for _, id := range ids {
					s := of(id)
					add(t, &x, id, s.From, s.To)
					high(t, &x)
				}
				for _, id := range ids {
					told(t, "Drop", x.Drop(id), api.OK)
					high(t, &x)
				}
			})
		}
	}
}

// TestHowTheyCame: of two trees of the same spans nobody can tell which way they came.
func TestHowTheyCame(t *testing.T) {
	r := rand.New(rand.NewSource(2))
	for range 200 {
		m := model{}
		for range r.Intn(40) {
			a := r.Intn(30)
			m[r.Intn(60)] = api.Span{From: a, To: a + 1 + r.Intn(9)}
		}
		var ids []int
		for id := range 60 {
			if _, ok := m[id]; ok {
				ids = append(ids, id)
			}
		}
		var a, b tree.Tree
		for _, id := range ids {
			add(t, &a, id, m[id].From, m[id].To)
		}
		for _, i := range r.Perm(len(ids)) {
			add(t, &b, 100+i, i, i+1) // one that goes again
			add(t, &b, ids[i], m[ids[i]].From, m[ids[i]].To)
		}
		for i := range ids {
			told(t, "Drop", b.Drop(100+i), api.OK)
		}
		if a.High() != b.High() || a.Many() != b.Many() {
			t.Errorf("%v: High %d, %d; Many %d, %d", m, a.High(), b.High(), a.Many(), b.Many())
		}
		for time := range 40 {
			found(t, "At", b.At(time), a.At(time)...)
		}
	}
}

// TestModel: many calls, told as one tells them who goes through all spans.
func TestModel(t *testing.T) {
	r := rand.New(rand.NewSource(3))
	draw := func() api.Span {
		a := r.Intn(40) - 10
		return api.Span{From: a, To: a + r.Intn(12)}
	}
	for range 60 {
		var x tree.Tree
		m := model{}
		for range 200 {
			id, s := r.Intn(50), draw()
			_, in := m[id]
			switch {
			case r.Intn(3) == 0:
				want := api.ErrMissing
				if in {
					want = api.OK
				}
				told(t, "Drop", x.Drop(id), want)
				delete(m, id)
			case !span.Right(s):
				told(t, "Add", x.Add(id, s), api.ErrArg)
			case in:
				told(t, "Add", x.Add(id, s), api.ErrTwice)
			default:
				told(t, "Add", x.Add(id, s), api.OK)
				m[id] = s
			}
			got, err := x.Span(id)
			if _, in := m[id]; got != m[id] || in != (err == nil) {
				t.Fatalf("Span(%d) = %v, %v, want %v", id, got, err, m[id])
			}
			ask, time := draw(), r.Intn(60)-15
			found(t, "Meets", x.Meets(ask), m.meets(ask)...)
			found(t, "At", x.At(time), m.at(time)...)
			if x.Many() != len(m) {
				t.Fatalf("Many %d, want %d", x.Many(), len(m))
			}
			high(t, &x)
		}
	}
}

// TestOwnMemory: what is told is the caller's, and two trees have nothing in common.
func TestOwnMemory(t *testing.T) {
	var x, y tree.Tree
	for i := range 5 {
		add(t, &x, i, 0, 9)
	}
	for _, ask := range []func() []int{
		func() []int { return x.Meets(api.Span{From: 0, To: 9}) },
		func() []int { return x.At(3) },
	} {
		a, b := ask(), ask()
		for i := range a {
			a[i] = -1
		}
		_ = append(a[:0], make([]int, cap(a))...)
		found(t, "the other list", b, 0, 1, 2, 3, 4)
		found(t, "asked again", ask(), 0, 1, 2, 3, 4)
	}
	found(t, "the other tree", y.At(3))
	if y.Many() != 0 {
		t.Errorf("the other tree has %d", y.Many())
	}
}
