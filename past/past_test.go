package past_test

import (
	"errors"
	"math"
	"math/rand"
	"slices"
	"strconv"
	"testing"

	"palimpsest/api"
	"palimpsest/fact"
	"palimpsest/past"
	"palimpsest/plain"
)

const (
	most = api.MaxTime
	long = "0123456789ab" // as long as a word may be
)

// node, edge and prop are keys, shortly.
func node(a int) api.Key                     { return api.Key{Kind: api.Node, A: a} }
func edge(a int, word string, b int) api.Key { return api.Key{Kind: api.Edge, A: a, Word: word, B: b} }
func prop(a int, word string) api.Key        { return api.Key{Kind: api.Prop, A: a, Word: word} }

// of is a span, op a change, piece a piece, shortly.
func of(from, to int) api.Span { return api.Span{From: from, To: to} }
func op(k api.Key, from, to int, value string) api.Op {
	return api.Op{Key: k, Span: of(from, to), Value: value}
}
func piece(from, to int, value string) api.Piece {
	return api.Piece{Span: of(from, to), Value: value}
}

// told fails unless an error is the one wanted, at that place (-1: none).
func told(t *testing.T, what string, err error, want api.Errno, place int) {
	t.Helper()
	var a *api.At
	e, at := plain.Place(err)
	if e != want || at != place || errors.As(err, &a) != (place >= 0) {
		t.Errorf("%s: error %d at %d, want %d at %d", what, e, at, want, place)
	}
}

// commit lets changes be that may be.
func commit(t *testing.T, p *past.Past, l ...api.Op) {
	t.Helper()
	told(t, "Commit", p.Commit(l), api.OK, -1)
}

// counts fails unless a past has so many transactions, and is known from so many on.
func counts(t *testing.T, p *past.Past, now, known int) {
	t.Helper()
	if p.Now() != now || p.Known() != known {
		t.Errorf("Now %d, Known %d, want %d, %d", p.Now(), p.Known(), now, known)
	}
}

// value, pieces, ever and keys fail unless that was said.

func value(t *testing.T, p *past.Past, k api.Key, at, time int, want string) {
	t.Helper()
	if got, err := p.Value(k, at, time); err != nil || got != want {
		t.Errorf("Value(%v, %d, %d) = %q, %v, want %q", k, at, time, got, err, want)
	}
}

func pieces(t *testing.T, p *past.Past, k api.Key, at int, want ...api.Piece) {
	t.Helper()
	if got, err := p.Pieces(k, at); err != nil || !slices.Equal(got, want) {
		t.Errorf("Pieces(%v, %d) = %v, %v, want %v", k, at, got, err, want)
	}
}

func ever(t *testing.T, p *past.Past, k api.Key, from, to int, s api.Span, want ...string) {
	t.Helper()
	if got, err := p.Ever(k, from, to, s); err != nil || !slices.Equal(got, want) {
		t.Errorf("Ever(%v, %d, %d, %v) = %q, %v, want %q", k, from, to, s, got, err, want)
	}
}

func keys(t *testing.T, p *past.Past, at, time int, want ...api.Key) {
	t.Helper()
	if got, err := p.Keys(at, time); err != nil || !slices.Equal(got, want) {
		t.Errorf("Keys(%d, %d) = %v, %v, want %v", at, time, got, err, want)
	}
}

// Promise 4.1.

func TestZero(t *testing.T) {
	var p past.Past
	counts(t, &p, 0, 0)
	value(t, &p, node(3), 0, 7, "")
	pieces(t, &p, node(3), 0)
	ever(t, &p, node(3), 0, 0, of(-most, most))
	keys(t, &p, 0, 7)
	told(t, "Forget", p.Forget(0), api.OK, -1)
	told(t, "Forget", p.Forget(1), api.ErrRange, -1)
	counts(t, &p, 0, 0)
}

// TestExample is the document's example 4.
func TestExample(t *testing.T) {
	var p past.Past
	commit(t, &p, op(node(3), 0, 10, "a"))
	commit(t, &p, op(node(3), 5, 20, "b"))
	counts(t, &p, 2, 0)
	value(t, &p, node(3), 0, 7, "")
	value(t, &p, node(3), 1, 7, "a")
	value(t, &p, node(3), 2, 7, "b")
	pieces(t, &p, node(3), 0)
	pieces(t, &p, node(3), 1, piece(0, 10, "a"))
	pieces(t, &p, node(3), 2, piece(0, 5, "a"), piece(5, 20, "b"))
}

// TestCut: where a change's span lies in that of what was said, behind it and ahead of it.
func TestCut(t *testing.T) {
	k := prop(1, "age")
	for _, c := range []struct {
		o    api.Op
		want []api.Piece
	}{
		{op(k, 13, 15, "b"), []api.Piece{piece(10, 13, "a"), piece(13, 15, "b"), piece(15, 20, "a")}},
		{op(k, 13, 15, ""), []api.Piece{piece(10, 13, "a"), piece(15, 20, "a")}},
		{op(k, 13, 15, "a"), []api.Piece{piece(10, 20, "a")}},
		{op(k, 10, 20, "b"), []api.Piece{piece(10, 20, "b")}},
		{op(k, 10, 20, ""), nil},
		{op(k, 10, 11, "b"), []api.Piece{piece(10, 11, "b"), piece(11, 20, "a")}},
		{op(k, 19, 20, "b"), []api.Piece{piece(10, 19, "a"), piece(19, 20, "b")}},
		{op(k, 5, 15, "b"), []api.Piece{piece(5, 15, "b"), piece(15, 20, "a")}},
		{op(k, 5, 15, ""), []api.Piece{piece(15, 20, "a")}},
		{op(k, 15, 25, "b"), []api.Piece{piece(10, 15, "a"), piece(15, 25, "b")}},
		{op(k, 5, 25, "b"), []api.Piece{piece(5, 25, "b")}},
		{op(k, -most, most, "b"), []api.Piece{piece(-most, most, "b")}},
		{op(k, -most, most, ""), nil},
		{op(k, 5, 10, "b"), []api.Piece{piece(5, 10, "b"), piece(10, 20, "a")}},
		{op(k, 5, 10, "a"), []api.Piece{piece(5, 20, "a")}},
		{op(k, 20, 25, "b"), []api.Piece{piece(10, 20, "a"), piece(20, 25, "b")}},
		{op(k, 20, 25, "a"), []api.Piece{piece(10, 25, "a")}},
		{op(k, 21, 25, "a"), []api.Piece{piece(10, 20, "a"), piece(21, 25, "a")}},
		{op(k, 25, 30, ""), []api.Piece{piece(10, 20, "a")}},
		{op(prop(1, "ag"), 13, 15, "b"), []api.Piece{piece(10, 20, "a")}},
		{op(prop(2, "age"), 13, 15, "b"), []api.Piece{piece(10, 20, "a")}},
		{op(edge(1, "age", 0), 13, 15, "b"), []api.Piece{piece(10, 20, "a")}},
		{op(node(1), 13, 15, ""), []api.Piece{piece(10, 20, "a")}},
	} {
		var p past.Past
		commit(t, &p, op(k, 10, 20, "a"))
		commit(t, &p, c.o)
		pieces(t, &p, k, 2, c.want...)
		pieces(t, &p, k, 1, piece(10, 20, "a")) // what was said stays said
		pieces(t, &p, k, 0)
		// As one transaction they come to the same.
		var q past.Past
		commit(t, &q, op(k, 10, 20, "a"), c.o)
		pieces(t, &q, k, 1, c.want...)
		pieces(t, &q, k, 0)
	}
}

// TestOneBehindTheOther: the last one of a transaction's changes holds; what only stood between them was never said.
func TestOneBehindTheOther(t *testing.T) {
	var p past.Past
	k := edge(1, "to", 2)
	commit(t, &p, op(k, 0, 10, "a"), op(k, 0, 10, "b"), op(k, 4, 6, "c"), op(k, 4, 6, ""))
	pieces(t, &p, k, 1, piece(0, 4, "b"), piece(6, 10, "b"))
	ever(t, &p, k, 0, 1, of(-most, most), "b")
	commit(t, &p, op(k, 0, 10, ""), op(k, 3, 5, "d"), op(node(7), 0, 1, "x"), op(node(7), 0, 1, ""))
	counts(t, &p, 2, 0)
	pieces(t, &p, k, 2, piece(3, 5, "d"))
	ever(t, &p, k, 2, 2, of(-most, most), "d")
	ever(t, &p, k, 0, 2, of(-most, most), "b", "d")
	ever(t, &p, node(7), 0, 2, of(-most, most))
	keys(t, &p, 2, 0)
	// Nothing is said of it, and that too is a transaction.
	commit(t, &p, op(node(9), -5, 5, ""))
	counts(t, &p, 3, 0)
	pieces(t, &p, k, 3, piece(3, 5, "d"))
}

// TestCommitErrors: fact.Write's, and ErrFull behind them; nothing is changed then.
func TestCommitErrors(t *testing.T) {
	ok, bad := op(node(3), 0, 10, "b"), op(node(3), 5, 5, "b")
	wrong := []struct {
		l     []api.Op
		want  api.Errno
		place int
	}{
		{nil, api.ErrLimit, -1},
		{[]api.Op{}, api.ErrLimit, -1},
		{slices.Repeat([]api.Op{ok}, api.MaxOps+1), api.ErrLimit, -1},
		{slices.Repeat([]api.Op{bad}, api.MaxOps+1), api.ErrLimit, -1},
		{[]api.Op{bad}, api.ErrArg, 0},
		{[]api.Op{ok, ok, bad, bad}, api.ErrArg, 2},
		{[]api.Op{ok, op(node(-1), 0, 1, "a")}, api.ErrArg, 1},
		{[]api.Op{ok, op(edge(1, "A", 2), 0, 1, "a")}, api.ErrArg, 1},
		{[]api.Op{ok, op(node(3), -most-1, 1, "a")}, api.ErrArg, 1},
		{[]api.Op{ok, op(node(3), 0, most+1, "a")}, api.ErrArg, 1},
		{[]api.Op{ok, op(node(3), 0, 1, long+"c")}, api.ErrArg, 1},
		{[]api.Op{{}}, api.ErrArg, 0},
	}
	var p past.Past
	commit(t, &p, op(node(3), 0, 10, "a"))
	for _, c := range wrong {
		told(t, "Commit", p.Commit(c.l), c.want, c.place)
		counts(t, &p, 1, 0)
		pieces(t, &p, node(3), 1, piece(0, 10, "a"))
	}
	for range api.MaxLog - 1 {
		commit(t, &p, op(node(3), 0, 10, "a"))
	}
	counts(t, &p, api.MaxLog, 0)
	told(t, "full", p.Commit([]api.Op{ok}), api.ErrFull, -1)
	for _, c := range wrong {
		told(t, "full, and wrong", p.Commit(c.l), c.want, c.place)
	}
	told(t, "Forget", p.Forget(api.MaxLog), api.OK, -1) // that makes no room
	told(t, "full", p.Commit([]api.Op{ok}), api.ErrFull, -1)
	counts(t, &p, api.MaxLog, api.MaxLog)
	pieces(t, &p, node(3), api.MaxLog, piece(0, 10, "a"))
}

func TestForget(t *testing.T) {
	var p past.Past
	k := node(3)
	for i := range 5 {
		commit(t, &p, op(k, i, 10, strconv.Itoa(i)))
	}
	for _, c := range []struct {
		at    int
		want  api.Errno
		known int
	}{
		{-1, api.ErrRange, 0},
		{6, api.ErrRange, 0},
		{math.MinInt, api.ErrRange, 0},
		{math.MaxInt, api.ErrRange, 0},
		{0, api.OK, 0},
		{3, api.OK, 3},
		{2, api.ErrOrder, 3},
		{0, api.ErrOrder, 3},
		{-1, api.ErrRange, 3},
		{6, api.ErrRange, 3},
		{3, api.OK, 3},
		{4, api.OK, 4},
		{5, api.OK, 5},
		{4, api.ErrOrder, 5},
	} {
		told(t, "Forget", p.Forget(c.at), c.want, -1)
		counts(t, &p, 5, c.known)
		for at := range 6 {
			got, err := p.Value(k, at, 9)
			want, e := "", api.OK
			if at > 0 {
				want = strconv.Itoa(at - 1)
			}
			if at < c.known {
				want, e = "", api.ErrMissing
			}
			told(t, "Value", err, e, -1)
			if got != want {
				t.Errorf("Forget(%d): Value behind %d = %q, want %q", c.at, at, got, want)
			}
		}
	}
	// What is said yet outlives all of it, and goes on.
	pieces(t, &p, k, 5, piece(0, 1, "0"), piece(1, 2, "1"), piece(2, 3, "2"), piece(3, 4, "3"), piece(4, 10, "4"))
	commit(t, &p, op(k, 0, 9, ""))
	counts(t, &p, 6, 5)
	pieces(t, &p, k, 6, piece(9, 10, "4"))
	value(t, &p, k, 5, 0, "0")
	ever(t, &p, k, 5, 6, of(-most, most), "0", "1", "2", "3", "4")
	ever(t, &p, k, 6, 6, of(-most, most), "4")
}

// Promise 4.2.

// TestCountErrors: a count is looked at ahead of all else, of two the first one wholly.
func TestCountErrors(t *testing.T) {
	var p past.Past
	for range 6 {
		commit(t, &p, op(node(3), 0, 10, "a"))
	}
	told(t, "Forget", p.Forget(2), api.OK, -1)
	bad := api.Key{Kind: 4}
	for _, c := range []struct {
		at   int
		want api.Errno
	}{
		{-1, api.ErrRange}, {7, api.ErrRange}, {math.MinInt, api.ErrRange}, {math.MaxInt, api.ErrRange},
		{0, api.ErrMissing}, {1, api.ErrMissing},
		{2, api.OK}, {6, api.OK},
	} {
		for _, k := range []api.Key{node(3), bad} {
			want := c.want
			if k == bad && want == api.OK {
				want = api.ErrArg
			}
			v, err := p.Value(k, c.at, 5)
			told(t, "Value", err, want, -1)
			l, err := p.Pieces(k, c.at)
			told(t, "Pieces", err, want, -1)
			w, err := p.Ever(k, c.at, c.at, of(0, 1))
			told(t, "Ever", err, want, -1)
			if want != api.OK && (v != "" || l != nil || w != nil) {
				t.Errorf("with an error: %q, %v, %v", v, l, w)
			}
		}
		for _, time := range []int{5, most} {
			want := c.want
			if time == most && want == api.OK {
				want = api.ErrArg
			}
			_, err := p.Value(node(3), c.at, time)
			told(t, "Value", err, want, -1)
			l, err := p.Keys(c.at, time)
			told(t, "Keys", err, want, -1)
			if want != api.OK && l != nil {
				t.Errorf("Keys with an error: %v", l)
			}
		}
	}
	for _, c := range []struct {
		from, to int
		k        api.Key
		s        api.Span
		want     api.Errno
	}{
		{2, 6, node(3), of(0, 1), api.OK},
		{7, 1, node(3), of(0, 1), api.ErrRange},
		{-1, 1, node(3), of(0, 1), api.ErrRange},
		{1, 7, node(3), of(0, 1), api.ErrMissing},
		{1, -1, node(3), of(0, 1), api.ErrMissing},
		{1, 0, node(3), of(0, 1), api.ErrMissing},
		{1, 5, node(3), of(0, 1), api.ErrMissing},
		{5, 7, node(3), of(0, 1), api.ErrRange},
		{5, -1, node(3), of(0, 1), api.ErrRange},
		{5, 1, node(3), of(0, 1), api.ErrMissing}, // ahead of ErrOrder
		{5, 2, node(3), of(0, 1), api.ErrOrder},
		{5, 4, bad, of(1, 0), api.ErrOrder}, // ahead of ErrArg
		{5, 1, bad, of(1, 0), api.ErrMissing},
		{7, 7, bad, of(1, 0), api.ErrRange},
		{5, 5, bad, of(0, 1), api.ErrArg},
		{5, 5, node(3), of(1, 1), api.ErrArg},
	} {
		l, err := p.Ever(c.k, c.from, c.to, c.s)
		told(t, "Ever", err, c.want, -1)
		if c.want != api.OK && l != nil {
			t.Errorf("Ever with an error: %v", l)
		}
	}
}

// TestArgErrors: keys, times and spans that may not be.
func TestArgErrors(t *testing.T) {
	var p past.Past
	commit(t, &p, op(node(3), -most, most, "a"))
	for _, k := range []api.Key{
		{}, {Kind: 4, A: 3}, {Kind: -1}, node(-1), node(api.MaxId + 1),
		{Kind: api.Node, A: 3, Word: "a"}, {Kind: api.Node, A: 3, B: 1},
		edge(1, "", 2), edge(1, "A", 2), edge(1, "a", -1), prop(1, ""), prop(1, long+"c"),
		{Kind: api.Prop, A: 1, Word: "a", B: 1},
	} {
		_, err := p.Value(k, 1, 0)
		told(t, "Value", err, api.ErrArg, -1)
		_, err = p.Pieces(k, 1)
		told(t, "Pieces", err, api.ErrArg, -1)
		_, err = p.Ever(k, 0, 1, of(0, 1))
		told(t, "Ever", err, api.ErrArg, -1)
	}
	for _, time := range []int{-most - 1, most, most + 1, math.MinInt, math.MaxInt} {
		_, err := p.Value(node(3), 1, time)
		told(t, "Value", err, api.ErrArg, -1)
		_, err = p.Keys(1, time)
		told(t, "Keys", err, api.ErrArg, -1)
	}
	for _, s := range []api.Span{
		{}, of(5, 5), of(6, 5), of(-most-1, 5), of(5, most+1),
		of(math.MinInt, math.MaxInt), of(math.MaxInt, math.MinInt),
	} {
		_, err := p.Ever(node(3), 0, 1, s)
		told(t, "Ever", err, api.ErrArg, -1)
	}
}

// TestFarTimes: the first and the last time of all.
func TestFarTimes(t *testing.T) {
	var p past.Past
	k := prop(api.MaxId, long)
	commit(t, &p, op(k, -most, -most+1, "first"), op(k, most-1, most, "last"))
	commit(t, &p, op(k, -most, most, long))
	for _, time := range []int{-most, most - 1} {
		value(t, &p, k, 2, time, long)
		keys(t, &p, 2, time, k)
		keys(t, &p, 1, time, k)
	}
	value(t, &p, k, 1, -most, "first")
	value(t, &p, k, 1, -most+1, "")
	value(t, &p, k, 1, most-2, "")
	value(t, &p, k, 1, most-1, "last")
	pieces(t, &p, k, 1, piece(-most, -most+1, "first"), piece(most-1, most, "last"))
	pieces(t, &p, k, 2, piece(-most, most, long))
	ever(t, &p, k, 1, 1, of(-most, most), "first", "last")
	ever(t, &p, k, 1, 1, of(-most+1, most-1))
	ever(t, &p, k, 0, 2, of(most-1, most), long, "last")
}

// TestPiecesFewest: pieces that touch, and are alike, are one, whatever transactions they came by.
func TestPiecesFewest(t *testing.T) {
	var p past.Past
	k := node(0)
	commit(t, &p, op(k, 8, 10, "a"), op(k, 0, 2, "a"), op(k, 4, 6, "a"))
	pieces(t, &p, k, 1, piece(0, 2, "a"), piece(4, 6, "a"), piece(8, 10, "a"))
	commit(t, &p, op(k, 2, 4, "a"))
	pieces(t, &p, k, 2, piece(0, 6, "a"), piece(8, 10, "a"))
	commit(t, &p, op(k, 6, 8, "b"))
	pieces(t, &p, k, 3, piece(0, 6, "a"), piece(6, 8, "b"), piece(8, 10, "a"))
	commit(t, &p, op(k, 5, 9, "a"))
	pieces(t, &p, k, 4, piece(0, 10, "a"))
	commit(t, &p, op(k, 3, 4, ""))
	pieces(t, &p, k, 5, piece(0, 3, "a"), piece(4, 10, "a"))
	pieces(t, &p, k, 1, piece(0, 2, "a"), piece(4, 6, "a"), piece(8, 10, "a"))
}

// TestEver: which counts, and which times, are asked for; the order of values is that of bytes.
func TestEver(t *testing.T) {
	var p past.Past
	k := edge(4, "to", 5)
	commit(t, &p, op(k, 0, 10, "b"))
	commit(t, &p, op(k, 5, 15, "10"))
	commit(t, &p, op(k, 0, 20, ""))
	commit(t, &p, op(k, 0, 5, "9"), op(k, 5, 9, "a"), op(k, 9, 12, "9"))
	commit(t, &p, op(k, 2, 3, "ab"))
	all := of(-most, most)
	ever(t, &p, k, 0, 0, all)
	ever(t, &p, k, 0, 1, all, "b")
	ever(t, &p, k, 1, 2, all, "10", "b")
	ever(t, &p, k, 2, 2, all, "10", "b")
	ever(t, &p, k, 2, 3, all, "10", "b")
	ever(t, &p, k, 3, 3, all)
	ever(t, &p, k, 3, 4, all, "9", "a")
	ever(t, &p, k, 0, 5, all, "10", "9", "a", "ab", "b")
	ever(t, &p, k, 0, 5, of(2, 3), "9", "ab", "b")
	ever(t, &p, k, 0, 5, of(3, 5), "9", "b")
	ever(t, &p, k, 0, 5, of(10, 15), "10", "9")
	ever(t, &p, k, 0, 5, of(12, 15), "10")
	ever(t, &p, k, 0, 5, of(15, 99))
	ever(t, &p, k, 0, 5, of(-9, 0))
	ever(t, &p, k, 2, 5, of(9, 10), "10", "9")
	ever(t, &p, edge(5, "to", 4), 0, 5, all)
	told(t, "Forget", p.Forget(3), api.OK, -1)
	ever(t, &p, k, 3, 5, all, "9", "a", "ab")
	ever(t, &p, k, 4, 4, of(2, 3), "9")
}

func TestKeys(t *testing.T) {
	rising := []api.Key{
		node(0), node(2), node(10),
		edge(0, "to", 9), edge(1, "10", 0), edge(1, "9", 2), edge(1, "9", 10), edge(1, "a", 0), edge(1, "ab", 0), edge(1, "b", 0),
		prop(0, "z"), prop(1, "a"), prop(1, "at"),
	}
	for seed := range 20 {
		var p past.Past
		for _, i := range rand.New(rand.NewSource(int64(seed))).Perm(len(rising)) {
			commit(t, &p, op(rising[i], 0, 5+i, "x"))
		}
		n := p.Now()
		keys(t, &p, 0, 0)
		keys(t, &p, n, -1)
		keys(t, &p, n, 0, rising...)
		keys(t, &p, n, 4, rising...)
		keys(t, &p, n, 5, rising[1:]...)
		keys(t, &p, n, 8, rising[4:]...)
		keys(t, &p, n, 99)
		commit(t, &p, op(node(2), 0, 3, ""), op(prop(1, "at"), 3, 9, "y"))
		keys(t, &p, n+1, 0, slices.Concat(rising[:1], rising[2:])...)
		keys(t, &p, n+1, 3, rising...)
		keys(t, &p, n, 0, rising...)
	}
}

// model is a past that keeps all changes, and goes through all of them whatever it is asked.
type model [][]api.Op

// value goes through the changes of the first transactions.
func (m model) value(k api.Key, at, time int) string {
	v := ""
	for _, l := range m[:at] {
		for _, o := range l {
			if o.Key == k && o.Span.From <= time && time < o.Span.To {
				v = o.Value
			}
		}
	}
	return v
}

// The times that a model is asked of: what is drawn lies between.
const first, behind = -3, 26

// pieces goes through all times.
func (m model) pieces(k api.Key, at int) []api.Piece {
	var out []api.Piece
	was := ""
	for time := first; time < behind; time++ {
		v := m.value(k, at, time)
		if v != "" && v == was {
			out[len(out)-1].Span.To++
		} else if v != "" {
			out = append(out, piece(time, time+1, v))
		}
		was = v
	}
	return out
}

// ever goes through all counts, and all times.
func (m model) ever(k api.Key, from, to int, s api.Span) []string {
	var out []string
	for at := from; at <= to; at++ {
		for time := s.From; time < s.To; time++ {
			if v := m.value(k, at, time); v != "" && !slices.Contains(out, v) {
				out = append(out, v)
			}
		}
	}
	slices.Sort(out)
	return out
}

// keys goes through all keys.
func (m model) keys(all []api.Key, at, time int) []api.Key {
	var out []api.Key
	for _, k := range all {
		if m.value(k, at, time) != "" {
			out = append(out, k)
		}
	}
	slices.SortFunc(out, fact.Compare)
	return out
}

// some are keys that are drawn from.
func some() []api.Key {
	return []api.Key{node(0), node(1), edge(0, "to", 1), edge(0, "at", 1), prop(0, "to")}
}

// drawn are changes of few keys and times.
func drawn(r *rand.Rand, many int) []api.Op {
	var l []api.Op
	for range 1 + r.Intn(many) {
		a := r.Intn(20)
		k := some()[r.Intn(len(some()))]
		l = append(l, op(k, a, a+1+r.Intn(5), []string{"", "a", "b", "10"}[r.Intn(4)]))
	}
	return l
}

// held holds a past against a model, of one count that is known.
func held(t *testing.T, p *past.Past, m model, at int, r *rand.Rand) {
	t.Helper()
	for _, k := range some() {
		pieces(t, p, k, at, m.pieces(k, at)...)
		time, to, a := first+r.Intn(behind-first), at+r.Intn(p.Now()-at+1), r.Intn(20)
		value(t, p, k, at, time, m.value(k, at, time))
		s := of(a, a+1+r.Intn(4))
		ever(t, p, k, at, to, s, m.ever(k, at, to, s)...)
		keys(t, p, at, time, m.keys(some(), at, time)...)
	}
}

// TestModel: many calls, told as one tells them who keeps all changes; that is so whatever is forgotten.
func TestModel(t *testing.T) {
	r := rand.New(rand.NewSource(4))
	for range 60 {
		var p past.Past
		var m model
		known := 0
		for range 20 {
			if r.Intn(6) == 0 {
				known += r.Intn(len(m) - known + 1)
				told(t, "Forget", p.Forget(known), api.OK, -1)
			} else {
				l := drawn(r, 4)
				commit(t, &p, l...)
				m = append(m, l)
			}
			counts(t, &p, len(m), known)
			held(t, &p, m, known+r.Intn(len(m)-known+1), r)
		}
		for at := known; at <= len(m); at++ {
			held(t, &p, m, at, r)
		}
	}
}

// TestForgettingIsNotSeen: of two pasts, one of which forgets, who asks later cannot tell which.
func TestForgettingIsNotSeen(t *testing.T) {
	r := rand.New(rand.NewSource(5))
	for range 40 {
		var p, q past.Past
		for range 15 {
			l := drawn(r, 3)
			commit(t, &p, l...)
			commit(t, &q, l...)
			if at := r.Intn(p.Now() + 1); r.Intn(3) == 0 && at >= p.Known() {
				told(t, "Forget", p.Forget(at), api.OK, -1)
			}
			for at := p.Known(); at <= p.Now(); at++ {
				for _, k := range some() {
					a, _ := q.Pieces(k, at)
					pieces(t, &p, k, at, a...)
					b, _ := q.Ever(k, at, p.Now(), of(3, 9))
					ever(t, &p, k, at, p.Now(), of(3, 9), b...)
				}
			}
		}
	}
}

// TestFull: as many transactions of as many changes as may be, each of which cuts what was said in three, of one key.
func TestFull(t *testing.T) {
	var p past.Past
	k := node(1)
	width := 4 * api.MaxLog * api.MaxOps
	commit(t, &p, op(k, 0, width, "a"))
	for i := 1; i < api.MaxLog; i++ {
		var l []api.Op
		for j := range api.MaxOps {
			from := 4 * (i*api.MaxOps + j)
			l = append(l, op(k, from, from+2, "b"))
		}
		commit(t, &p, l...)
	}
	cuts := (api.MaxLog - 1) * api.MaxOps
	for _, at := range []int{1, 2, 75, api.MaxLog} {
		var want []api.Piece
		from := 0
		for i := api.MaxOps; i < at*api.MaxOps; i++ {
			want = append(want, piece(from, 4*i, "a"), piece(4*i, 4*i+2, "b"))
			from = 4*i + 2
		}
		pieces(t, &p, k, at, append(want, piece(from, width, "a"))...)
	}
	last := 4 * (cuts + api.MaxOps - 1)
	value(t, &p, k, api.MaxLog, last, "b")
	value(t, &p, k, api.MaxLog-1, last, "a")
	value(t, &p, k, api.MaxLog, last+2, "a")
	ever(t, &p, k, 1, api.MaxLog-1, of(last, last+2), "a")
	told(t, "Forget", p.Forget(api.MaxLog), api.OK, -1)
	l, err := p.Pieces(k, api.MaxLog)
	if err != nil || len(l) != 2*cuts+1 {
		t.Errorf("%d pieces, %v", len(l), err)
	}
}

// TestOwnMemory: what is handed in is neither written into nor kept; what is told is the caller's.
func TestOwnMemory(t *testing.T) {
	var p, other past.Past
	k := prop(1, "age")
	l := []api.Op{op(k, 0, 5, "a"), op(k, 7, 9, "b"), op(node(1), 0, 9, "c"), op(node(2), 0, 9, "behind")}
	was := slices.Clone(l)
	commit(t, &p, l[:3]...)
	told(t, "Commit", p.Commit(l[:3:4]), api.OK, -1)
	if !plain.Same(l, was) {
		t.Errorf("the changes are others now: %v", l)
	}
	clear(l)
	for range 2 {
		a, err := p.Pieces(k, 2)
		if err != nil || !slices.Equal(a, []api.Piece{piece(0, 5, "a"), piece(7, 9, "b")}) {
			t.Errorf("Pieces: %v, %v", a, err)
		}
		b, err := p.Ever(k, 0, 2, of(0, 9))
		if err != nil || !slices.Equal(b, []string{"a", "b"}) {
			t.Errorf("Ever: %v, %v", b, err)
		}
		c, err := p.Keys(2, 0)
		if err != nil || !slices.Equal(c, []api.Key{node(1), k}) {
			t.Errorf("Keys: %v, %v", c, err)
		}
		clear(a[:cap(a)])
		clear(b[:cap(b)])
		clear(c[:cap(c)])
	}
	counts(t, &other, 0, 0)
	keys(t, &other, 0, 0)
}
