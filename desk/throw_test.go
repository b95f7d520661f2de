package desk

import (
	"strings"
	"testing"

	"palimpsest/api"
	"palimpsest/past"
)

// TestThrown: whatever a line throws is caught, and told by a number; the lines behind it are answered as ever.
func TestThrown(t *testing.T) {
	var none *past.Past
	for _, c := range []struct {
		do   func(words) string
		want string
	}{
		{func(words) string { panic(api.ErrCycle) }, "error 11"},
		{func(words) string { check(&api.At{Err: api.ErrArg, Place: 3}); return "" }, "error 1"},
		{func(words) string { check(nil); return "all is well" }, "all is well"},
		{func(words) string { panic("a fault") }, "error 15"},
		{func(words) string { panic(nil) }, "error 15"},
		{func(w words) string { return w[7] }, "error 15"},
		{func(words) string { return strings.Repeat("x", none.Now()) }, "error 15"},
	} {
		s := sit()
		s.deeds["x"] = deed{0, c.do}
		if got := s.answer("x"); got != c.want {
			t.Errorf("%q, want %q", got, c.want)
		}
		if got := s.answer("now"); got != "0 0 0 false" {
			t.Errorf("now: %q", got)
		}
	}
}

// TestLinesLeft: who ranges over lines may leave early.
func TestLinesLeft(t *testing.T) {
	var got []string
	for line := range lines("a\nb\nc") {
		if line == "c" {
			break
		}
		got = append(got, line)
	}
	if strings.Join(got, " ") != "a b" {
		t.Errorf("%q", got)
	}
}
