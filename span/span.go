// Package span: times from one to another one, and sets of such.
package span

import (
	"cmp"
	"math"
	"slices"
	"sort"

	"palimpsest/api"
)

// sides are both sides of a span: its first time, and the first one behind it.
type sides [2]int

// Set is spans that rise, none of which meets, or touches, another one. Its zero value has none.
type Set struct{ list []sides }

// Right says whether a span may be: from -MaxTime to MaxTime, and not empty.
func Right(s api.Span) (_ bool) {
	return s.From >= -api.MaxTime && s.To <= api.MaxTime && s.From < s.To
}

// Has says whether a span has a time.
func Has(s api.Span, t int) (_ bool) {
	return s.From <= t && t < s.To
}

// Meet is what two spans have in common; false: nothing.
func Meet(a, b api.Span) (_ api.Span, _ bool) {
	m := api.Span{From: max(a.From, b.From), To: min(a.To, b.To)}
	if m.From >= m.To {
		return api.Span{}, false
	}
	return m, true
}

// Less are the parts of a span that another one has not, the first one first.
func Less(a, b api.Span) (_ []api.Span) {
	if a.From >= a.To {
		return nil
	}
	m, ok := Meet(a, b)
	if !ok { // an empty b inside a must not cut it in two
		return []api.Span{a}
	}
	var out []api.Span
	if a.From < m.From {
		out = append(out, api.Span{From: a.From, To: m.From})
	}
	if m.To < a.To {
		out = append(out, api.Span{From: m.To, To: a.To})
	}
	return out
}

// Of is the set of all times that any of some spans has. ErrArg: one may not be: an At at it; ErrLimit: more than MaxSpans come.
func Of(l []api.Span) (_ *Set, _ error) {
	all := make([]sides, 0, len(l))
	for i, s := range l {
		if !Right(s) {
			return nil, &api.At{Err: api.ErrArg, Place: i}
		}
		all = append(all, sides{s.From, s.To})
	}
	slices.SortFunc(all, func(a, b sides) int { return cmp.Compare(a[0], b[0]) })
	return bounded(join(all))
}

// Spans are its spans, rising.
func (s *Set) Spans() (_ []api.Span) {
	var out []api.Span
	for _, p := range s.parts() {
		out = append(out, api.Span{From: p[0], To: p[1]})
	}
	return out
}

// Has says whether it has a time.
func (s *Set) Has(t int) (_ bool) {
	l := s.parts()
	// Of rising spans only the first one that ends behind t can have it.
	i := sort.Search(len(l), func(i int) bool { return t < l[i][1] })
	return i < len(l) && l[i][0] <= t
}

// Union is what either has. ErrLimit: more than MaxSpans come.
func (s *Set) Union(o *Set) (_ *Set, _ error) {
	return bounded(sweep(s.parts(), o.parts(), func(a, b bool) bool { return a || b }))
}

// Both is what both have. ErrLimit.
func (s *Set) Both(o *Set) (_ *Set, _ error) {
	return bounded(sweep(s.parts(), o.parts(), func(a, b bool) bool { return a && b }))
}

// Minus is what it has, and the other one has not. ErrLimit.
func (s *Set) Minus(o *Set) (_ *Set, _ error) {
	return bounded(sweep(s.parts(), o.parts(), func(a, b bool) bool { return a && !b }))
}

// parts are its spans. A nil Set, as it comes with an error, counts as empty: no call may panic.
func (s *Set) parts() []sides {
	if s == nil {
		return nil
	}
	return s.list
}

// bounded is the set of these spans, if they are not too many.
func bounded(l []sides) (*Set, error) {
	if len(l) > api.MaxSpans {
		return nil, api.ErrLimit
	}
	return &Set{list: l}, nil
}

// join makes one of spans that meet or touch; they come by their first times, rising.
func join(l []sides) []sides {
	var out []sides
	for _, p := range l {
		last := len(out) - 1
		if last < 0 || out[last][1] < p[0] {
			out = append(out, p)
			continue
		}
		out[last][1] = max(out[last][1], p[1])
	}
	return out
}

// sweep goes through the sides of two sets' spans at once, and gathers the times of which keep says yes, told who has them.
// Both lists step at a side that they share before keep is asked, so no empty and no touching spans come.
func sweep(a, b []sides, keep func(inA, inB bool) bool) []sides {
	var out []sides
	from, in := 0, false
	for i, j := 0, 0; i < 2*len(a) || j < 2*len(b); {
		x, y := side(a, i), side(b, j)
		t := min(x, y)
		if x == t {
			i++
		}
		if y == t {
			j++
		}
		now := keep(i%2 == 1, j%2 == 1) // behind an odd count of sides one is inside a span
		if now && !in {
			from = t
		}
		if in && !now {
			out = append(out, sides{from, t})
		}
		in = now
	}
	return out
}

// side is the i-th of all sides of rising spans; behind the last one, a time that none has.
func side(l []sides, i int) int {
	if i >= 2*len(l) {
		return math.MaxInt
	}
	return l[i/2][i%2]
}
