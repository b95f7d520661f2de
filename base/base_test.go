package base_test

import (
	"errors"
	"math"
	"math/rand"
	"slices"
	"testing"

	"palimpsest/api"
	"palimpsest/base"
	"palimpsest/fact"
	"palimpsest/past"
	"palimpsest/plain"
)

const most = api.MaxTime

// node, edge and prop are keys, shortly.
func node(a int) api.Key                     { return api.Key{Kind: api.Node, A: a} }
func edge(a int, word string, b int) api.Key { return api.Key{Kind: api.Edge, A: a, Word: word, B: b} }
func prop(a int, word string) api.Key        { return api.Key{Kind: api.Prop, A: a, Word: word} }

// keys are all that the tests speak of.
func keys() []api.Key {
	return []api.Key{node(0), node(1), node(2), edge(0, "to", 1), edge(1, "at", 2), prop(0, "to"), prop(2, "at")}
}

// op is a change, shortly.
func op(k api.Key, from, to int, value string) api.Op {
	return api.Op{Key: k, Span: api.Span{From: from, To: to}, Value: value}
}

// say is one change that may be, as a list.
func say(value string) []api.Op {
	return []api.Op{op(node(0), 0, 9, value)}
}

// told fails unless an error is the one wanted, without a place.
func told(t *testing.T, what string, err error, want api.Errno) {
	t.Helper()
	var a *api.At
	if e, place := plain.Place(err); e != want || place != -1 || errors.As(err, &a) {
		t.Errorf("%s: error %d at %d, want %d", what, e, place, want)
	}
}

// open is the base of a disk that there is.
func open(t *testing.T, d *base.Disk) *base.Base {
	t.Helper()
	b, err := base.Open(d)
	if err != nil || b == nil || b.Past() == nil {
		t.Fatalf("Open: %v, %v", b, err)
	}
	if b.Down() {
		t.Errorf("a base that was just opened is Down")
	}
	return b
}

// commit and drop let a base write what may be written.

func commit(t *testing.T, b *base.Base, l ...api.Op) {
	t.Helper()
	told(t, "Commit", b.Commit(l, -1), api.OK)
}

func drop(t *testing.T, b *base.Base, at int) {
	t.Helper()
	told(t, "Forget", b.Forget(at, -1), api.OK)
}

// is fails unless a base tells that.
func is(t *testing.T, what string, b *base.Base, used, now, known int, down bool) {
	t.Helper()
	p := b.Past()
	if b.Used() != used || p.Now() != now || p.Known() != known || b.Down() != down {
		t.Errorf("%s: Used %d, Now %d, Known %d, Down %v, want %d, %d, %d, %v", what, b.Used(), p.Now(), p.Known(), b.Down(), used, now, known, down)
	}
}

// same fails unless two pasts tell the same, of whatever can be asked.
func same(t *testing.T, what string, got, want *past.Past) {
	t.Helper()
	if got.Now() != want.Now() || got.Known() != want.Known() {
		t.Fatalf("%s: Now %d, Known %d, want %d, %d", what, got.Now(), got.Known(), want.Now(), want.Known())
	}
	for at := range want.Now() + 1 {
		for _, k := range keys() {
			a, e := got.Pieces(k, at)
			b, f := want.Pieces(k, at)
			if api.Tell(e) != api.Tell(f) || !slices.Equal(a, b) {
				t.Fatalf("%s: Pieces(%v, %d) = %v, %v, want %v, %v", what, k, at, a, e, b, f)
			}
		}
		a, e := got.Keys(at, 5)
		b, f := want.Keys(at, 5)
		if api.Tell(e) != api.Tell(f) || !slices.Equal(a, b) {
			t.Fatalf("%s: Keys(%d, 5) = %v, %v, want %v, %v", what, at, a, e, b, f)
		}
	}
}

// step is what a call asks for: changes, or (if there are none) that something is forgotten.
type step struct {
	l  []api.Op
	at int
}

// do asks a base for it.
func (s step) do(b *base.Base, torn int) error {
	if s.l == nil {
		return b.Forget(s.at, torn)
	}
	return b.Commit(s.l, torn)
}

// ask asks a past for it.
func (s step) ask(p *past.Past) error {
	if s.l == nil {
		return p.Forget(s.at)
	}
	return p.Commit(s.l)
}

// after is the past that comes of all these.
func after(t *testing.T, l []step) *past.Past {
	t.Helper()
	p := new(past.Past)
	for _, s := range l {
		told(t, "a step", s.ask(p), api.OK)
	}
	return p
}

// steps are some of all kinds: one after the other they may be.
func steps() []step {
	return []step{
		{l: []api.Op{op(node(0), 0, 9, "a"), op(node(1), -most, most, "0123456789ab")}},
		{l: []api.Op{op(node(0), 3, 5, ""), op(edge(0, "to", 1), -5, 7, "well")}},
		{at: 1},
		{l: []api.Op{op(prop(2, "at"), 1, 2, "x")}},
		{at: 1},
		{l: []api.Op{op(node(0), 2, 20, "b"), op(node(0), 4, 6, "c"), op(node(0), 5, 6, "")}},
		{at: 4},
		{l: say("d")},
	}
}

// Promise 6.1.

// TestEmpty: a new disk has nothing, and power.
func TestEmpty(t *testing.T) {
	var d base.Disk
	b := open(t, &d)
	is(t, "a new disk", b, 0, 0, 0, false)
	same(t, "a new disk", b.Past(), new(past.Past))
	commit(t, b, say("a")...)
	is(t, "one write", b, 1, 1, 0, false)
}

// TestNoDisk: of no disk there is no base; nothing panics that has none.
func TestNoDisk(t *testing.T) {
	none, err := base.Open(nil)
	told(t, "Open", err, api.ErrMissing)
	if none != nil {
		t.Errorf("Open(nil) = %v", none)
	}
	for _, b := range []*base.Base{none, new(base.Base)} {
		is(t, "no disk", b, 0, 0, 0, false)
		told(t, "Commit", b.Commit(say("a"), 3), api.ErrMissing)
		told(t, "Forget", b.Forget(0, 3), api.ErrMissing)
		is(t, "no disk", b, 0, 0, 0, false)
	}
	var d *base.Disk
	d.Cut(3)
}

// TestRead: whoever opens a disk anew has all that was written, and how many writes that were; the power makes no difference to him.
func TestRead(t *testing.T) {
	for many := range len(steps()) + 1 {
		var d base.Disk
		b := open(t, &d)
		l := steps()[:many]
		for _, s := range l {
			told(t, "a step", s.do(b, -1), api.OK)
		}
		want := after(t, l)
		for _, power := range []int{-1, 0, 1} {
			d.Cut(power)
			for _, x := range []*base.Base{b, open(t, &d)} {
				same(t, "read anew", x.Past(), want)
				is(t, "read anew", x, many, want.Now(), want.Known(), false)
			}
		}
	}
}

// TestCut: so many writes are made, and no more; what writes nothing counts not.
func TestCut(t *testing.T) {
	for many := range 6 {
		var d base.Disk
		b := open(t, &d)
		d.Cut(many)
		for i := range many {
			told(t, "Commit of none", b.Commit(nil, 5), api.ErrLimit)
			told(t, "Forget of what is not", b.Forget(99, 5), api.ErrRange)
			b = open(t, &d) // opening writes nothing
			if i%2 == 0 {
				commit(t, b, say("a")...)
			} else {
				drop(t, b, 0)
			}
		}
		is(t, "behind the last write", b, many, (many+1)/2, 0, false)
		told(t, "Commit", b.Commit(say("b"), -1), api.ErrDevice)
		is(t, "without power", b, many, (many+1)/2, 0, true)
		for range 2 { // it is off from then on
			b = open(t, &d)
			told(t, "Forget", b.Forget(0, -1), api.ErrDevice)
			is(t, "without power", b, many, (many+1)/2, 0, true)
		}
		d.Cut(-1)
		b = open(t, &d)
		commit(t, b, say("c")...)
	}
}

// TestCutAnew: the last Cut holds.
func TestCutAnew(t *testing.T) {
	for _, c := range []struct {
		cuts []int
		want int // writes that are made, of three
	}{
		{nil, 3}, {[]int{0}, 0}, {[]int{1}, 1}, {[]int{2}, 2}, {[]int{3}, 3}, {[]int{math.MaxInt}, 3},
		{[]int{-1}, 3}, {[]int{math.MinInt}, 3}, {[]int{0, -1}, 3}, {[]int{0, math.MinInt}, 3},
		{[]int{0, 2}, 2}, {[]int{2, 1}, 1}, {[]int{1, 2}, 2}, {[]int{-1, 0}, 0}, {[]int{1, -1, 2}, 2}, {[]int{1, 0}, 0},
	} {
		var d base.Disk
		b := open(t, &d)
		for _, n := range c.cuts {
			d.Cut(n)
		}
		made := 0
		for range 3 {
			if b.Commit(say("a"), -1) == nil {
				made++
			}
		}
		if made != c.want || b.Used() != c.want || b.Down() != (c.want < 3) {
			t.Errorf("%v: %d writes, Used %d, Down %v, want %d", c.cuts, made, b.Used(), b.Down(), c.want)
		}
	}
}

// TestDown: who told ErrDevice is Down, and stays so; nobody else is.
func TestDown(t *testing.T) {
	var d base.Disk
	b, other := open(t, &d), open(t, &d)
	d.Cut(0)
	is(t, "the power is off, and nobody knows", b, 0, 0, 0, false)
	told(t, "Commit of none", b.Commit(nil, 0), api.ErrLimit)
	told(t, "Forget of what is not", b.Forget(1, 0), api.ErrRange)
	is(t, "nothing was to be written", b, 0, 0, 0, false)
	told(t, "Forget", b.Forget(0, 0), api.ErrDevice)
	is(t, "it told ErrDevice", b, 0, 0, 0, true)
	is(t, "the other one did not", other, 0, 0, 0, false)
	d.Cut(-1)
	told(t, "Commit", b.Commit(say("a"), 0), api.ErrState)
	told(t, "Forget", b.Forget(0, 0), api.ErrState)
	is(t, "it stays Down", b, 0, 0, 0, true)
	commit(t, other, say("a")...)
	is(t, "the other one goes on", other, 1, 1, 0, false)
}

// TestDisks: a disk is not another one, nor is its copy.
func TestDisks(t *testing.T) {
	var d, e base.Disk
	b, c := open(t, &d), open(t, &e)
	d.Cut(1)
	commit(t, b, say("a")...)
	commit(t, c, say("b")...)
	commit(t, c, say("c")...)
	f := d
	told(t, "Commit", b.Commit(say("x"), 4), api.ErrDevice)
	f.Cut(-1)
	commit(t, open(t, &f), say("d")...)
	same(t, "the first one", open(t, &d).Past(), after(t, []step{{l: say("a")}}))
	same(t, "the second one", open(t, &e).Past(), after(t, []step{{l: say("b")}, {l: say("c")}}))
	same(t, "the first one's copy", open(t, &f).Past(), after(t, []step{{l: say("a")}, {l: say("d")}}))
}

// Promise 6.2.

// TestErrors: of all that is wrong the first one is told; nothing is changed, and nothing written.
func TestErrors(t *testing.T) {
	wrong := []api.Op{op(node(0), 0, 9, "a"), op(node(0), 9, 9, "a")}
	for _, power := range []int{-1, 0} {
		var d base.Disk
		b := open(t, &d)
		for range 3 {
			commit(t, b, say("a")...)
		}
		drop(t, b, 2)
		d.Cut(power)
		for _, torn := range []int{-1, 0, 5, 999} {
			told(t, "no changes", b.Commit(nil, torn), api.ErrLimit)
			told(t, "too many changes", b.Commit(make([]api.Op, api.MaxOps+1), torn), api.ErrLimit)
			if e, place := plain.Place(b.Commit(wrong, torn)); e != api.ErrArg || place != 1 {
				t.Errorf("a wrong change: error %d at %d", e, place)
			}
			for at, want := range map[int]api.Errno{
				-1: api.ErrRange, 4: api.ErrRange, math.MinInt: api.ErrRange, math.MaxInt: api.ErrRange,
				0: api.ErrOrder, 1: api.ErrOrder,
			} {
				told(t, "Forget", b.Forget(at, torn), want)
			}
			is(t, "errors", b, 4, 3, 2, false)
			is(t, "errors", open(t, &d), 4, 3, 2, false)
		}
		if power == 0 {
			told(t, "Commit", b.Commit(say("b"), 5), api.ErrDevice)
			told(t, "Down, and wrong", b.Commit(wrong, 5), api.ErrState)
			told(t, "Down, and none", b.Commit(nil, 5), api.ErrState)
			told(t, "Down, and not there", b.Forget(-1, 5), api.ErrState)
			told(t, "Down, and not known", b.Forget(0, 5), api.ErrState)
			is(t, "Down", b, 4, 3, 2, true)
		}
	}
}

// TestLimit: MaxLog writes, of both kinds, and no more; Down is told ahead of that, all else behind it.
func TestLimit(t *testing.T) {
	for _, forgets := range []int{0, 1, api.MaxLog} {
		var d base.Disk
		b := open(t, &d)
		elder := open(t, &d)
		for i := range api.MaxLog {
			if i < forgets {
				drop(t, b, 0)
			} else {
				commit(t, b, say([]string{"a", "b"}[i%2])...)
			}
		}
		for _, x := range []*base.Base{b, open(t, &d)} {
			for _, power := range []int{-1, 0} {
				d.Cut(power)
				told(t, "Commit", x.Commit(say("c"), 5), api.ErrLimit)
				told(t, "a wrong Commit", x.Commit([]api.Op{{}}, 5), api.ErrLimit)
				told(t, "Forget", x.Forget(0, 5), api.ErrLimit)
				told(t, "a wrong Forget", x.Forget(-1, 5), api.ErrLimit)
				is(t, "all is full", x, api.MaxLog, api.MaxLog-forgets, 0, false)
			}
		}
		told(t, "an elder one", elder.Commit(say("c"), 5), api.ErrState)
	}
}

// TestLast: the last place is as the others: what is torn there is not there.
func TestLast(t *testing.T) {
	var d base.Disk
	b := open(t, &d)
	for range api.MaxLog - 1 {
		commit(t, b, say("a")...)
	}
	d.Cut(0)
	told(t, "Commit", b.Commit(say("b"), 999), api.ErrDevice)
	told(t, "Down", b.Commit(say("b"), 999), api.ErrState)
	d.Cut(-1)
	b = open(t, &d)
	is(t, "without the last one", b, api.MaxLog-1, api.MaxLog-1, 0, false)
	drop(t, b, api.MaxLog-1)
	is(t, "with the last one", open(t, &d), api.MaxLog, api.MaxLog-1, api.MaxLog-1, false)
}

// length is at least how many bytes any write of the tests has.
const length = 120

// TestTorn: wherever the power goes off, whatever is torn: all or nothing; and it goes on from there, over what was torn.
func TestTorn(t *testing.T) {
	l := steps()
	for i, s := range l {
		want := after(t, l[:i])
		for torn := -2; torn <= length; torn++ {
			var d base.Disk
			b := open(t, &d)
			d.Cut(i)
			for _, x := range l[:i] {
				told(t, "a step", x.do(b, torn), api.OK)
			}
			told(t, "without power", s.do(b, torn), api.ErrDevice)
			same(t, "nothing is changed", b.Past(), want)
			is(t, "nothing is changed", b, i, want.Now(), want.Known(), true)
			same(t, "opened without power", open(t, &d).Past(), want)
			d.Cut(-1)
			b = open(t, &d)
			same(t, "opened with power", b.Past(), want)
			is(t, "opened with power", b, i, want.Now(), want.Known(), false)
			for _, x := range l[i:] {
				told(t, "a step more", x.do(b, torn), api.OK)
			}
			same(t, "all of it", open(t, &d).Past(), after(t, l))
			is(t, "all of it", open(t, &d), len(l), b.Past().Now(), b.Past().Known(), false)
		}
	}
}

// TestTornOften: what was torn lies under what is torn next, longer or shorter, of the other kind or the same; none of it comes back.
func TestTornOften(t *testing.T) {
	long := step{l: slices.Repeat([]api.Op{op(edge(1, "at", 2), -most, most, "0123456789ab")}, api.MaxOps)}
	short, none := step{l: say("")}, step{at: 0}
	for _, torn := range []int{math.MinInt, -1, 0, 1, 6, 7, 8, 9, 10, 20, 300, math.MaxInt - 1, math.MaxInt} {
		for _, order := range [][]step{{long, short, none}, {none, short, long}, {long, none, long}, {short, long, none}} {
			var d base.Disk
			var done []step
			for _, last := range order {
				d.Cut(0)
				for _, s := range order {
					told(t, "without power", s.do(open(t, &d), torn), api.ErrDevice)
					same(t, "what was torn", open(t, &d).Past(), after(t, done))
				}
				d.Cut(-1)
				told(t, "with power", last.do(open(t, &d), torn), api.OK)
				done = append(done, last)
				same(t, "what was written over it", open(t, &d).Past(), after(t, done))
				if used := open(t, &d).Used(); used != len(done) {
					t.Errorf("Used %d, want %d", used, len(done))
				}
			}
		}
	}
}

// TestSeveral: one of several bases writes that has all that is written there: a younger one, or an elder one, if no younger one wrote.
func TestSeveral(t *testing.T) {
	var d base.Disk
	elder := open(t, &d)
	commit(t, elder, say("a")...)
	younger := open(t, &d)
	d.Cut(0)
	told(t, "the younger one", younger.Commit(say("x"), 999), api.ErrDevice)
	d.Cut(-1)
	commit(t, elder, say("b")...) // over what the younger one left: it wrote nothing
	open(t, &d)
	drop(t, elder, 1)
	want := []step{{l: say("a")}, {l: say("b")}, {at: 1}}
	same(t, "the elder one", elder.Past(), after(t, want))
	is(t, "the elder one", elder, 3, 2, 1, false)
	last := open(t, &d)
	same(t, "the last one", last.Past(), after(t, want))
	commit(t, last, say("c")...)
	commit(t, last, say("d")...)
	want = append(want, step{l: say("c")}, step{l: say("d")})
	same(t, "all of it", open(t, &d).Past(), after(t, want))
	same(t, "the elder one knows what it knew", elder.Past(), after(t, want[:3]))
}

// TestLate: who has not all that is written there may not write, so that nothing of it is lost; with power, or without.
func TestLate(t *testing.T) {
	for _, power := range []int{-1, 0} {
		var d base.Disk
		first, second, third := open(t, &d), open(t, &d), open(t, &d)
		want := []step{{l: say("a")}, {at: 1}}
		for _, s := range want {
			told(t, "the second one", s.do(second, -1), api.OK)
		}
		d.Cut(power)
		for _, b := range []*base.Base{first, third} {
			told(t, "Commit", b.Commit(say("b"), 999), api.ErrState)
			told(t, "Forget", b.Forget(0, 999), api.ErrState)
			is(t, "late", b, 0, 0, 0, false)
		}
		same(t, "all of it", open(t, &d).Past(), after(t, want))
		is(t, "all of it", open(t, &d), 2, 1, 1, false)
	}
}

// TestList: the list that is handed in is neither written into nor kept, nor is what stands behind its length.
func TestList(t *testing.T) {
	var d base.Disk
	b := open(t, &d)
	whole := []api.Op{op(node(0), 0, 9, "a"), op(node(1), 0, 9, "b"), op(node(2), 0, 9, "c")}
	was := slices.Clone(whole)
	commit(t, b, whole[:2]...)
	if !plain.Same(whole, was) {
		t.Errorf("the list is %v", whole)
	}
	whole[0], whole[1] = op(node(2), 0, 9, "x"), op(node(2), 0, 9, "y")
	want := after(t, []step{{l: was[:2]}})
	same(t, "it", b.Past(), want)
	same(t, "read anew", open(t, &d).Past(), want)
}

// drawn is a step that looks drawn, mostly one that may be.
func drawn(r *rand.Rand, now int) step {
	if r.Intn(5) == 0 {
		return step{at: r.Intn(now+3) - 1}
	}
	var l []api.Op
	for range 1 + r.Intn(api.MaxOps+1) { // now and then one too many
		from := r.Intn(20) - 5
		k := keys()[r.Intn(len(keys()))]
		l = append(l, op(k, from, from+r.Intn(12), []string{"", "a", "b", "0123456789ab"}[r.Intn(4)]))
	}
	return step{l: l}
}

// TestDrawn: whatever comes, and whenever the power goes off: each call tells what a bare past tells, or ErrDevice, and the disk has just what was told no error of.
func TestDrawn(t *testing.T) {
	r := rand.New(rand.NewSource(6))
	for range 60 {
		var d base.Disk
		b, p := open(t, &d), new(past.Past)
		used, left := 0, -1
		for range 60 {
			switch r.Intn(8) {
			case 0:
				left = r.Intn(8) - 2
				d.Cut(left)
			case 1:
				b = open(t, &d)
			}
			s := drawn(r, p.Now())
			want := wants(s, b, p, left)
			alike(t, s.do(b, r.Intn(200)-5), want)
			if want == nil {
				told(t, "the bare one", s.ask(p), api.OK)
				used, left = used+1, left-min(1, max(left, 0))
			}
			if b.Used() != used {
				t.Fatalf("Used %d, want %d", b.Used(), used)
			}
		}
		same(t, "it", b.Past(), p)
		same(t, "read anew", open(t, &d).Past(), p)
		is(t, "read anew", open(t, &d), used, p.Now(), p.Known(), false)
	}
}

// wants is what a base has to tell that has what a bare past has, and power for so many writes more (below 0: for all).
func wants(s step, b *base.Base, p *past.Past, left int) error {
	if b.Down() {
		return api.ErrState
	}
	if s.l == nil && (s.at < 0 || s.at > p.Now()) {
		return api.ErrRange
	}
	if s.l == nil && s.at < p.Known() {
		return api.ErrOrder
	}
	if s.l != nil {
		if _, err := fact.Write(s.l); err != nil {
			return err
		}
	}
	if left == 0 {
		return api.ErrDevice
	}
	return nil
}

// alike fails unless two errors are the same, at the same place.
func alike(t *testing.T, got, want error) {
	t.Helper()
	e, at := plain.Place(got)
	if f, place := plain.Place(want); e != f || at != place {
		t.Fatalf("error %d at %d, want %d at %d", e, at, f, place)
	}
}
