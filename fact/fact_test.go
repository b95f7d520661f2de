package fact_test

import (
	"errors"
	"math"
	"regexp"
	"slices"
	"strconv"
	"strings"
	"testing"

	"palimpsest/api"
	"palimpsest/fact"
	"palimpsest/plain"
	"palimpsest/span"
)

const (
	most = api.MaxTime
	last = api.MaxId
	long = "0123456789ab" // as long as a word may be
)

// node, edge and prop are keys, shortly.
func node(a int) api.Key                     { return api.Key{Kind: api.Node, A: a} }
func edge(a int, word string, b int) api.Key { return api.Key{Kind: api.Edge, A: a, Word: word, B: b} }
func prop(a int, word string) api.Key        { return api.Key{Kind: api.Prop, A: a, Word: word} }

// op is a change, shortly.
func op(k api.Key, from, to int, value string) api.Op {
	return api.Op{Key: k, Span: api.Span{From: from, To: to}, Value: value}
}

// rows are many changes that may be.
func rows(many int) []api.Op {
	var l []api.Op
	for i := range many {
		l = append(l, op(node(i), i, i+1, "a"))
	}
	return l
}

// written is what Write tells of changes that may be.
func written(t *testing.T, l ...api.Op) string {
	t.Helper()
	s, err := fact.Write(l)
	if err != nil {
		t.Fatalf("Write(%v): %v", l, err)
	}
	return s
}

// Promise 2.1.

func TestWord(t *testing.T) {
	for _, c := range []struct {
		s    string
		want bool
	}{
		{"a", true}, {"z", true}, {"0", true}, {"9", true},
		{"knows", true}, {"0a", true}, {"000", true},
		{long, true},
		{"", false},
		{long + "c", false},
		{strings.Repeat("a", 1000), false},
		{"-", false}, {"+", false}, {" ", false}, {"a b", false}, {" a", false}, {"a ", false},
		{"A", false}, {"aZ", false}, {"a_b", false}, {"a\n", false}, {"\x00", false},
		{"ä", false}, {"٣", false}, {"a\xff", false}, {"\xe1", false},
	} {
		if got := fact.Word(c.s); got != c.want {
			t.Errorf("Word(%q) = %v", c.s, got)
		}
	}
}

// TestWordBytes: of all bytes, at each place of a word, just those of a to z and 0 to 9 may be.
func TestWordBytes(t *testing.T) {
	for c := range 256 {
		want := strings.IndexByte("abcdefghijklmnopqrstuvwxyz0123456789", byte(c)) >= 0
		for i := range len(long) {
			b := []byte(long)
			b[i] = byte(c)
			if got := fact.Word(string(b)); got != want {
				t.Errorf("Word(%q) = %v", b, got)
			}
		}
	}
}

// TestWordLengths: 1 to MaxWord.
func TestWordLengths(t *testing.T) {
	for n := range 3 * api.MaxWord {
		if got := fact.Word(strings.Repeat("x", n)); got != (n >= 1 && n <= api.MaxWord) {
			t.Errorf("%d letters: %v", n, got)
		}
	}
}

func TestKey(t *testing.T) {
	for _, c := range []struct {
		k    api.Key
		want bool
	}{
		{node(0), true},
		{node(last), true},
		{node(-1), false},
		{node(last + 1), false},
		{node(math.MinInt), false},
		{api.Key{Kind: api.Node, A: 1, Word: "a"}, false},
		{api.Key{Kind: api.Node, A: 1, Word: "-"}, false},
		{api.Key{Kind: api.Node, A: 1, B: 1}, false},
		{api.Key{Kind: api.Node, A: 1, B: -1}, false},
		{edge(0, "a", 0), true},
		{edge(last, long, last), true},
		{edge(-1, "a", 0), false},
		{edge(last+1, "a", 0), false},
		{edge(0, "a", -1), false},
		{edge(0, "a", last+1), false},
		{edge(0, "a", math.MaxInt), false},
		{edge(0, "", 0), false},
		{edge(0, "A", 0), false},
		{edge(0, long+"c", 0), false},
		{prop(0, "a"), true},
		{prop(last, long), true},
		{prop(-1, "a"), false},
		{prop(last+1, "a"), false},
		{prop(0, ""), false},
		{prop(0, "a b"), false},
		{prop(0, long+"c"), false},
		{api.Key{Kind: api.Prop, A: 1, Word: "a", B: 1}, false},
		{api.Key{Kind: api.Prop, A: 1, Word: "a", B: -1}, false},
		{api.Key{}, false},
		{api.Key{Kind: 4, A: 1, Word: "a"}, false},
		{api.Key{Kind: 4, A: 1}, false},
		{api.Key{Kind: -1, A: 1}, false},
		{api.Key{Kind: math.MaxInt, A: 1}, false},
	} {
		if got := fact.Key(c.k); got != c.want {
			t.Errorf("Key(%+v) = %v", c.k, got)
		}
	}
}

func TestOp(t *testing.T) {
	for _, c := range []struct {
		o    api.Op
		want bool
	}{
		{op(node(3), 0, 10, "a"), true},
		{op(edge(1, "knows", 2), -5, 7, "well"), true},
		{op(prop(1, "age"), -5, 7, "30"), true},
		{op(node(3), 0, 10, ""), true},
		{op(node(3), -most, most, long), true},
		{op(node(3), 0, 0, "a"), false},
		{op(node(3), 5, 2, "a"), false},
		{op(node(3), -most-1, 0, "a"), false},
		{op(node(3), 0, most+1, "a"), false},
		{op(node(3), 0, 10, "-"), false},
		{op(node(3), 0, 10, "A"), false},
		{op(node(3), 0, 10, long+"c"), false},
		{op(node(-1), 0, 10, "a"), false},
		{op(edge(1, "", 2), 0, 10, "a"), false},
		{op(api.Key{Kind: 4}, 0, 10, "a"), false},
		{api.Op{}, false},
	} {
		if got := fact.Op(c.o); got != c.want {
			t.Errorf("Op(%+v) = %v", c.o, got)
		}
	}
}

// TestCompare: these keys are in order, whether they may be or not; each is held against each other one.
func TestCompare(t *testing.T) {
	rising := []api.Key{
		{Kind: math.MinInt, A: 9, Word: "z", B: 9},
		{Kind: 0},
		{Kind: 1, A: math.MinInt, Word: "z", B: 9},
		{Kind: 1, A: 0},
		{Kind: 1, A: 2, B: 5},
		{Kind: 1, A: 10},
		{Kind: 2, A: -1, Word: "z", B: 9},
		{Kind: 2, A: 0, Word: "", B: 9},
		{Kind: 2, A: 0, Word: "0", B: 9},
		{Kind: 2, A: 0, Word: "10", B: 1},
		{Kind: 2, A: 0, Word: "9", B: math.MinInt},
		{Kind: 2, A: 0, Word: "9", B: 2},
		{Kind: 2, A: 0, Word: "9", B: 10},
		{Kind: 2, A: 0, Word: "9", B: math.MaxInt},
		{Kind: 2, A: 0, Word: "Z", B: 0},
		{Kind: 2, A: 0, Word: "a", B: 9},
		{Kind: 2, A: 0, Word: "a\x00", B: 9},
		{Kind: 2, A: 0, Word: "a0", B: 9},
		{Kind: 2, A: 0, Word: "ab", B: 0},
		{Kind: 2, A: 0, Word: "b", B: 0},
		{Kind: 2, A: 0, Word: "\u00e4", B: 0},
		{Kind: 2, A: 0, Word: "\uffff", B: 0}, // a lower first byte than the next one, though its first half of 16 bits is higher
		{Kind: 2, A: 0, Word: "\U00010000", B: 0},
		{Kind: 2, A: 0, Word: "\xff", B: 0},
		{Kind: 2, A: 1, Word: "a", B: 0},
		{Kind: 3, A: 0, Word: "a", B: 0},
		{Kind: math.MaxInt},
	}
	for i, a := range rising {
		for j, b := range rising {
			want := 0
			if i < j {
				want = -1
			} else if i > j {
				want = 1
			}
			if got := fact.Compare(a, b); got != want {
				t.Errorf("Compare(%+v, %+v) = %d, not %d", a, b, got, want)
			}
		}
	}
}

// Promise 2.2.

// texts are changes, and what they are written as.
func texts() []struct {
	l []api.Op
	s string
} {
	return []struct {
		l []api.Op
		s string
	}{
		{[]api.Op{op(edge(1, "knows", 2), -5, 7, "well")}, "2 1 knows 2 -5 7 well"},
		{[]api.Op{op(node(3), 0, 10, "a")}, "1 3 - 0 0 10 a"},
		{[]api.Op{op(node(0), 0, 1, "")}, "1 0 - 0 0 1 -"},
		{[]api.Op{op(prop(4, "age"), -3, -1, "030")}, "3 4 age 0 -3 -1 030"},
		{[]api.Op{op(edge(last, long, last), -most, most, long)}, "2 1048576 0123456789ab 1048576 -1099511627776 1099511627776 0123456789ab"},
		{[]api.Op{op(edge(0, "0", 0), -1, 0, "0")}, "2 0 0 0 -1 0 0"},
		{[]api.Op{op(node(3), 0, 10, "a"), op(node(3), 5, 20, "b")}, "1 3 - 0 0 10 a+1 3 - 0 5 20 b"},
		{[]api.Op{op(node(1), 0, 1, ""), op(edge(1, "to", 1), 0, 1, ""), op(prop(1, "to"), 0, 1, "")}, "1 1 - 0 0 1 -+2 1 to 1 0 1 -+3 1 to 0 0 1 -"},
		{[]api.Op{op(node(1), 0, 1, "x"), op(node(1), 0, 1, "x")}, "1 1 - 0 0 1 x+1 1 - 0 0 1 x"},
		{rows(api.MaxOps), "1 0 - 0 0 1 a+1 1 - 0 1 2 a+1 2 - 0 2 3 a+1 3 - 0 3 4 a+1 4 - 0 4 5 a+1 5 - 0 5 6 a+1 6 - 0 6 7 a+1 7 - 0 7 8 a"},
	}
}

func TestWrite(t *testing.T) {
	for _, c := range texts() {
		if s, err := fact.Write(c.l); s != c.s || err != nil {
			t.Errorf("Write(%v) = %q, %v, not %q", c.l, s, err, c.s)
		}
	}
}

func TestWriteErrors(t *testing.T) {
	bad := op(node(-1), 0, 1, "a")
	with := func(l []api.Op, places ...int) []api.Op {
		for _, i := range places {
			l[i] = bad
		}
		return l
	}
	for _, c := range []struct {
		l     []api.Op
		want  api.Errno
		place int
	}{
		{nil, api.ErrLimit, -1},
		{[]api.Op{}, api.ErrLimit, -1},
		{rows(api.MaxOps + 1), api.ErrLimit, -1},
		{rows(10 * api.MaxOps), api.ErrLimit, -1},
		{with(rows(api.MaxOps+1), 0), api.ErrLimit, -1},
		{with(rows(1), 0), api.ErrArg, 0},
		{with(rows(3), 2), api.ErrArg, 2},
		{with(rows(3), 1, 2), api.ErrArg, 1},
		{with(rows(api.MaxOps), api.MaxOps-1), api.ErrArg, api.MaxOps - 1},
		{[]api.Op{op(node(0), 0, 1, "a"), op(node(0), 1, 1, "a")}, api.ErrArg, 1},
		{[]api.Op{op(node(0), 0, 1, "-")}, api.ErrArg, 0},
		{[]api.Op{op(prop(0, "-"), 0, 1, "a")}, api.ErrArg, 0},
		{[]api.Op{{}}, api.ErrArg, 0},
	} {
		s, err := fact.Write(c.l)
		if e, place := plain.Place(err); s != "" || e != c.want || place != c.place {
			t.Errorf("Write(%v) = %q, error %d at %d", c.l, s, e, place)
		}
	}
}

func TestRead(t *testing.T) {
	for _, c := range texts() {
		if l, err := fact.Read(c.s); !plain.Same(l, c.l) || err != nil {
			t.Errorf("Read(%q) = %v, %v, not %v", c.s, l, err, c.l)
		}
	}
}

// refused holds that a text is of another form: ErrForm, without a place, and no changes.
func refused(t *testing.T, s string) {
	t.Helper()
	l, err := fact.Read(s)
	if e, place := plain.Place(err); len(l) != 0 || e != api.ErrForm || place != -1 {
		t.Errorf("Read(%.80q) = %v, error %d at %d", s, l, e, place)
	}
}

func TestReadErrors(t *testing.T) {
	for _, s := range []string{
		"", " ", "-", "+", "++", "\n",
		// too few words
		"1 3 - 0 0 10",
		// too many
		"1 3 - 0 0 10 a b",
		// the word left out
		"1 3 0 0 10 a",
		// blanks
		" 1 3 - 0 0 10 a",
		"1 3 - 0 0 10 a ",
		"1  3 - 0 0 10 a",
		"1 3 - 0 0 10 a\n",
		"1\t3 - 0 0 10 a",
		// an empty text that is not -
		"1 3  0 0 10 a",
		"1 3 - 0 0 10 ",
		// pluses
		"+1 3 - 0 0 10 a",
		"1 3 - 0 0 10 a+",
		"1 +3 - 0 0 10 a",
		"1 3 - 0 0 +10 a",
		"1 3 - 0 0 10 a++1 3 - 0 0 10 a",
		"1 3 - 0 0 10 a + 1 3 - 0 0 10 a",
		"1 3 - 0 0 10 a +1 3 - 0 0 10 a",
		"1 3 - 0 0 10 a+ 1 3 - 0 0 10 a",
		"1 3 - 0 0 10 a 1 3 - 0 0 10 a",
		"1 3 - 0 0 10 a,1 3 - 0 0 10 a",
		// numbers that are spelt otherwise
		"01 3 - 0 0 10 a",
		"1 03 - 0 0 10 a",
		"1 3 - 00 0 10 a",
		"1 3 - 0 -0 10 a",
		"1 3 - -0 0 10 a",
		"1 3 - 0 -05 10 a",
		"1 3 - 0 --5 10 a",
		"1 3 - 0 - 10 a",
		"1 3 - 0 0 1_0 a",
		"1 3 - 0 0 0x10 a",
		"1 3 - 0 0 10.0 a",
		"1 3 - 0 0 1e1 a",
		"1 3 - 0 0 \u0663 a",
		"x 3 - 0 0 10 a",
		// numbers beyond 64 bits (the first one is 3, wrapped round)
		"1 18446744073709551619 - 0 0 10 a",
		"1 3 - 0 0 9223372036854775808 a",
		"1 3 - 0 -99999999999999999999 10 a",
		// changes that may not be
		"0 3 - 0 0 10 a",
		"4 3 - 0 0 10 a",
		"1 -1 - 0 0 10 a",
		"1 1048577 - 0 0 10 a",
		"1 3 a 0 0 10 a",
		"1 3 - 1 0 10 a",
		"2 3 - 0 0 10 a",
		"2 3 a 1048577 0 10 a",
		"3 3 - 0 0 10 a",
		"3 3 a 1 0 10 a",
		"1 3 - 0 10 10 a",
		"1 3 - 0 11 10 a",
		"1 3 - 0 -1099511627777 10 a",
		"1 3 - 0 0 1099511627777 a",
		"1 3 - 0 0 10 A",
		"1 3 - 0 0 10 --",
		"1 3 - 0 0 10 a\x00",
		"1 3 - 0 0 10 0123456789abc",
		"3 3 0123456789abc 0 0 10 a",
		// only the second one may not be
		"1 3 - 0 0 10 a+1 3 - 0 0 0 a",
	} {
		refused(t, s)
	}
}

// TestReadLimit: one change more than Write writes, and very many.
func TestReadLimit(t *testing.T) {
	one := written(t, op(node(3), 0, 10, "a"))
	for _, n := range []int{api.MaxOps + 1, api.MaxOps + 2, 100_000} {
		refused(t, strings.TrimSuffix(strings.Repeat(one+"+", n), "+"))
	}
	for _, s := range []string{"+", " ", "0", "-", "a", one, "1 "} {
		refused(t, strings.Repeat(s, 500_000))
	}
}

// form is the form of one change.
var form = regexp.MustCompile(`^([123]) (0|[1-9][0-9]*) (-|[a-z0-9]{1,12}) (0|[1-9][0-9]*) (0|-?[1-9][0-9]*) (0|-?[1-9][0-9]*) (-|[a-z0-9]{1,12})$`)

// spelt is what a text's changes are, by another way than Read's; false: it has none.
func spelt(s string) ([]api.Op, bool) {
	var l []api.Op
	for _, one := range strings.Split(s, "+") {
		m := form.FindStringSubmatch(one)
		if m == nil || strings.HasSuffix(one, "\n") {
			return nil, false
		}
		var n [8]int
		for _, i := range []int{1, 2, 4, 5, 6} {
			v, err := strconv.ParseInt(m[i], 10, 64)
			if err != nil {
				return nil, false
			}
			n[i] = int(v)
		}
		empty := func(w string) string { return strings.TrimPrefix(w, "-") }
		o := op(api.Key{Kind: n[1], A: n[2], Word: empty(m[3]), B: n[4]}, n[5], n[6], empty(m[7]))
		node, edge := n[1] == api.Node, n[1] == api.Edge
		if n[2] > last || n[4] > last || node == (m[3] != "-") || !edge && n[4] != 0 || !span.Right(o.Span) {
			return nil, false
		}
		l = append(l, o)
	}
	return l, len(l) <= api.MaxOps
}

// held holds what Read tells of a text against what is spelt there, and against Write.
func held(t *testing.T, s string) {
	t.Helper()
	want, ok := spelt(s)
	if !ok {
		refused(t, s)
		return
	}
	l, err := fact.Read(s)
	if err != nil || !plain.Same(l, want) {
		t.Errorf("Read(%q) = %v, %v, not %v", s, l, err, want)
		return
	}
	if again, err := fact.Write(l); again != s || err != nil {
		t.Errorf("Write of what Read tells of %q: %q, %v", s, again, err)
	}
}

// TestReadSpoilt: texts in which one byte is another one, is left out, or is one more.
func TestReadSpoilt(t *testing.T) {
	for _, c := range texts() {
		for i := range len(c.s) + 1 {
			for _, b := range " +-019aAz\n\x00" {
				held(t, c.s[:i]+string(b)+c.s[i:])
				if i < len(c.s) {
					held(t, c.s[:i]+string(b)+c.s[i+1:])
				}
			}
			if i < len(c.s) {
				held(t, c.s[:i]+c.s[i+1:])
				held(t, c.s[:i])
				held(t, c.s[i:])
			}
		}
	}
}

// FuzzRead: of any text.
func FuzzRead(f *testing.F) {
	for _, c := range texts() {
		f.Add(c.s)
	}
	f.Fuzz(func(t *testing.T, s string) { held(t, s) })
}

// TestWriteThenRead: what changes' text is is these changes, and other changes have another text.
func TestWriteThenRead(t *testing.T) {
	var all []api.Op
	for _, k := range []api.Key{node(0), node(last), edge(0, "a", 0), edge(1, "1", 1), edge(1, long, last), prop(0, "a"), prop(1, "1")} {
		for _, s := range []api.Span{{From: -most, To: most}, {From: -1, To: 0}, {From: 0, To: 1}, {From: 1, To: 11}, {From: 11, To: 12}} {
			for _, v := range []string{"", "0", "a", long} {
				all = append(all, api.Op{Key: k, Span: s, Value: v})
			}
		}
	}
	seen := map[string]bool{}
	for _, a := range all {
		for _, b := range all {
			l := []api.Op{a, b}
			s := written(t, l...)
			if got, err := fact.Read(s); err != nil || !plain.Same(got, l) {
				t.Fatalf("Read(%q) = %v, %v, not %v", s, got, err, l)
			}
			if seen[s] {
				t.Fatalf("%q is the text of several", s)
			}
			seen[s] = true
		}
	}
}

// TestOwnMemory: P4: nothing that goes in is changed, and what comes out is the caller's.
func TestOwnMemory(t *testing.T) {
	in := rows(4)
	in[3] = api.Op{}
	was := slices.Clone(in)
	s := written(t, in[:3]...)
	if !plain.Same(in, was) {
		t.Errorf("Write changed its list: %v", in)
	}
	a, err := fact.Read(s)
	b, more := fact.Read(s)
	if err := errors.Join(err, more); err != nil {
		t.Fatal(err)
	}
	clear(a)
	if c, err := fact.Read(s); err != nil || !plain.Same(b, was[:3]) || !plain.Same(c, was[:3]) {
		t.Errorf("Read's lists share memory: %v, %v, %v", b, c, err)
	}
}
