package walk_test

import (
	"errors"
	"math"
	"math/rand"
	"slices"
	"testing"

	"palimpsest/api"
	"palimpsest/fact"
	"palimpsest/past"
	"palimpsest/plain"
	"palimpsest/walk"
)

const most = api.MaxTime

// node, edge and prop are keys, shortly.
func node(a int) api.Key                     { return api.Key{Kind: api.Node, A: a} }
func edge(a int, word string, b int) api.Key { return api.Key{Kind: api.Edge, A: a, Word: word, B: b} }
func prop(a int, word string) api.Key        { return api.Key{Kind: api.Prop, A: a, Word: word} }

// op is a change, shortly.
func op(k api.Key, from, to int, value string) api.Op {
	return api.Op{Key: k, Span: api.Span{From: from, To: to}, Value: value}
}

// told fails unless an error is the one wanted, without a place.
func told(t *testing.T, what string, err error, want api.Errno) {
	t.Helper()
	var a *api.At
	if e, place := plain.Place(err); e != want || place != -1 || errors.As(err, &a) {
		t.Errorf("%s: error %d at %d, want %d", what, e, place, want)
	}
}

// commit lets changes be that may be.
func commit(t *testing.T, p *past.Past, l ...api.Op) {
	t.Helper()
	told(t, "Commit", p.Commit(l), api.OK)
}

// at is a graph that there is.
func at(t *testing.T, p *past.Past, count, time int) *walk.Graph {
	t.Helper()
	g, err := walk.At(p, count, time)
	if err != nil || g == nil {
		t.Fatalf("At(%d, %d): %v, %v", count, time, g, err)
	}
	return g
}

// graph is that of all nodes to which edges lead, or from which they do, each of kind x, in all times.
func graph(t *testing.T, edges ...api.Key) *walk.Graph {
	t.Helper()
	var p past.Past
	for _, k := range edges {
		commit(t, &p, op(k, -most, most, "e"), op(node(k.A), -most, most, "x"), op(node(k.B), -most, most, "x"))
	}
	return at(t, &p, p.Now(), 0)
}

// nodes, edges, has, hops and way fail unless a graph tells that, or that error.

func nodes(t *testing.T, g *walk.Graph, kind string, want ...int) {
	t.Helper()
	if got := g.Nodes(kind); !slices.Equal(got, want) {
		t.Errorf("Nodes(%q) = %v, want %v", kind, got, want)
	}
}

func edges(t *testing.T, g *walk.Graph, want ...api.Key) {
	t.Helper()
	if got := g.Edges(); !slices.Equal(got, want) {
		t.Errorf("Edges() = %v, want %v", got, want)
	}
}

func has(t *testing.T, g *walk.Graph, n int, word, want string, e api.Errno) {
	t.Helper()
	got, err := g.Prop(n, word)
	told(t, "Prop", err, e)
	if got != want {
		t.Errorf("Prop(%d, %q) = %q, want %q", n, word, got, want)
	}
}

func hops(t *testing.T, g *walk.Graph, n int, word string, many int, e api.Errno, want ...int) {
	t.Helper()
	got, err := g.Hops(n, word, many)
	told(t, "Hops", err, e)
	if !slices.Equal(got, want) {
		t.Errorf("Hops(%d, %q, %d) = %v, want %v", n, word, many, got, want)
	}
}

func way(t *testing.T, g *walk.Graph, from, to int, word string, e api.Errno, want ...int) {
	t.Helper()
	got, err := g.Way(from, to, word)
	told(t, "Way", err, e)
	if !slices.Equal(got, want) {
		t.Errorf("Way(%d, %d, %q) = %v, want %v", from, to, word, got, want)
	}
}

// nothing fails unless a graph has no nodes.
func nothing(t *testing.T, g *walk.Graph) {
	t.Helper()
	nodes(t, g, "")
	nodes(t, g, "a")
	edges(t, g)
	has(t, g, 0, "to", "", api.ErrMissing)
	hops(t, g, 0, "", 1, api.ErrMissing)
	way(t, g, 0, 0, "", api.ErrMissing)
}

// Promise 5.1.

// TestNothing: a past in which nothing is said, and what comes with an error, have no nodes.
func TestNothing(t *testing.T) {
	var p past.Past
	nothing(t, at(t, &p, 0, 0))
	nothing(t, at(t, nil, 0, 0))
	nothing(t, new(walk.Graph))
	nothing(t, nil)
	_, err := walk.At(nil, 1, 0)
	told(t, "At", err, api.ErrRange)
}

// TestAtErrors: those of Keys, in their order, and no graph with them.
func TestAtErrors(t *testing.T) {
	var p past.Past
	for range 6 {
		commit(t, &p, op(node(3), -most, most, "a"))
	}
	told(t, "Forget", p.Forget(2), api.OK)
	for _, c := range []struct {
		at, time int
		want     api.Errno
	}{
		{-1, 0, api.ErrRange}, {7, 0, api.ErrRange}, {math.MinInt, 0, api.ErrRange}, {math.MaxInt, 0, api.ErrRange},
		{7, most, api.ErrRange}, {-1, -most - 1, api.ErrRange},
		{0, 0, api.ErrMissing}, {1, 0, api.ErrMissing}, {1, most, api.ErrMissing},
		{2, most, api.ErrArg}, {6, most + 1, api.ErrArg}, {6, -most - 1, api.ErrArg},
		{6, math.MinInt, api.ErrArg}, {6, math.MaxInt, api.ErrArg},
	} {
		g, err := walk.At(&p, c.at, c.time)
		told(t, "At", err, c.want)
		if g != nil {
			t.Errorf("At(%d, %d): a graph with an error", c.at, c.time)
		}
	}
	for _, time := range []int{-most, 0, most - 1} {
		nodes(t, at(t, &p, 2, time), "", 3)
		nodes(t, at(t, &p, 6, time), "", 3)
	}
}

// TestCountAndTime: the graph is that of one count of transactions, and one time.
func TestCountAndTime(t *testing.T) {
	var p past.Past
	commit(t, &p, op(node(1), 0, 10, "a"), op(node(2), 0, 10, "b"), op(edge(1, "to", 2), 3, 5, "x"), op(prop(1, "age"), 0, 4, "9"))
	commit(t, &p, op(node(1), 5, 20, "b"), op(prop(1, "age"), 0, 20, "10"))
	commit(t, &p, op(node(2), 0, 20, ""), op(node(0), 4, 5, "a"))
	nothing(t, at(t, &p, 0, 3))
	nothing(t, at(t, &p, 3, -1))
	nothing(t, at(t, &p, 3, 20))

	g := at(t, &p, 1, 3)
	nodes(t, g, "", 1, 2)
	nodes(t, g, "a", 1)
	nodes(t, g, "b", 2)
	nodes(t, g, "x") // an edge's value is no kind
	edges(t, g, edge(1, "to", 2))
	has(t, g, 1, "age", "9", api.OK)

	g = at(t, &p, 1, 5)
	nodes(t, g, "", 1, 2)
	edges(t, g)
	has(t, g, 1, "age", "", api.ErrNone)
	nodes(t, at(t, &p, 1, 10), "")

	g = at(t, &p, 2, 5)
	nodes(t, g, "a")
	nodes(t, g, "b", 1, 2)
	has(t, g, 1, "age", "10", api.OK)
	nodes(t, at(t, &p, 2, 15), "", 1)

	g = at(t, &p, 3, 4)
	nodes(t, g, "", 0, 1)
	nodes(t, g, "a", 0, 1)
	edges(t, g) // one of its nodes is gone
	edges(t, at(t, &p, 2, 4), edge(1, "to", 2))
}

// TestNodes: those that a Node key tells of, rising as numbers; no edge, no prop makes one.
func TestNodes(t *testing.T) {
	var p past.Past
	for _, n := range []int{api.MaxId, 10, 9, 0, 100} {
		commit(t, &p, op(node(n), 0, 5, "a"))
	}
	commit(t, &p, op(node(5), 0, 5, "ab"), op(node(50), 0, 5, "b"), op(edge(6, "to", 7), 0, 5, "a"), op(prop(8, "a"), 0, 5, "a"))
	g := at(t, &p, p.Now(), 0)
	nodes(t, g, "", 0, 5, 9, 10, 50, 100, api.MaxId)
	nodes(t, g, "a", 0, 9, 10, 100, api.MaxId)
	nodes(t, g, "ab", 5)
	nodes(t, g, "b", 50)
	for _, kind := range []string{"c", "A", "-", " ", "0123456789abc", "\xff"} {
		nodes(t, g, kind)
	}
}

// TestEdges: in order; none but those both of whose nodes are nodes.
func TestEdges(t *testing.T) {
	rising := []api.Key{
		edge(0, "to", 9), edge(1, "10", 0), edge(1, "9", 2), edge(1, "9", 10), edge(1, "a", 0), edge(1, "ab", 0), edge(1, "b", 0), edge(1, "b", 1),
		edge(2, "a", 1), edge(10, "a", 9), edge(api.MaxId, "a", api.MaxId),
	}
	if !slices.IsSortedFunc(rising, fact.Compare) {
		t.Fatal("these do not rise")
	}
	for seed := range 20 {
		var p past.Past
		for _, n := range []int{0, 1, 2, 9, 10, api.MaxId} {
			commit(t, &p, op(node(n), 0, 5, "x"))
		}
		for _, i := range rand.New(rand.NewSource(int64(seed))).Perm(len(rising)) {
			commit(t, &p, op(rising[i], 0, 5, "v"))
		}
		commit(t, &p, op(edge(1, "a", 3), 0, 5, "v"), op(edge(3, "a", 1), 0, 5, "v"), op(edge(3, "a", 3), 0, 5, "v"), op(edge(3, "a", 4), 0, 5, "v"))
		edges(t, at(t, &p, p.Now(), 0), rising...)
		commit(t, &p, op(node(1), 0, 5, ""))
		edges(t, at(t, &p, p.Now(), 0), rising[0], rising[9], rising[10])
		edges(t, at(t, &p, p.Now()-1, 0), rising...)
		commit(t, &p, op(node(1), 0, 5, "y"))
		edges(t, at(t, &p, p.Now(), 0), rising...)
	}
}

func TestProp(t *testing.T) {
	var p past.Past
	commit(t, &p, op(node(1), 0, 9, "a"), op(node(2), 0, 9, "a"), op(prop(1, "b"), 0, 9, "two"), op(prop(1, "10"), 0, 9, "ten"))
	commit(t, &p, op(prop(1, "ab"), 0, 9, "0123456789ab"), op(prop(1, "0123456789ab"), 0, 9, "x"), op(prop(1, "c"), 0, 3, "c"))
	commit(t, &p, op(prop(3, "b"), 0, 9, "z"), op(edge(2, "b", 1), 0, 9, "z"), op(prop(1, "z"), 0, 9, "z"), op(prop(1, "z"), 0, 9, ""))
	g := at(t, &p, 3, 4)
	has(t, g, 1, "b", "two", api.OK)
	has(t, g, 1, "10", "ten", api.OK)
	has(t, g, 1, "ab", "0123456789ab", api.OK)
	has(t, g, 1, "0123456789ab", "x", api.OK)
	for _, word := range []string{"", "a", "c", "z", "abc", "1", "B", "-", "0123456789abc", "\xff"} {
		has(t, g, 1, word, "", api.ErrNone)
	}
	has(t, g, 2, "b", "", api.ErrNone) // an edge of that word is no prop, nor is another node's
	for _, n := range []int{3, 0, -1, api.MaxId, api.MaxId + 1, math.MinInt, math.MaxInt} {
		has(t, g, n, "b", "", api.ErrMissing)
		has(t, g, n, "", "", api.ErrMissing)
	}
}

// TestPastGoesOn: a past that changes later changes no graph of it.
func TestPastGoesOn(t *testing.T) {
	var p past.Past
	commit(t, &p, op(node(1), 0, 9, "a"), op(node(2), 0, 9, "b"), op(edge(1, "to", 2), 0, 9, "x"), op(prop(1, "age"), 0, 9, "9"))
	g := at(t, &p, 1, 0)
	check := func() {
		t.Helper()
		nodes(t, g, "", 1, 2)
		nodes(t, g, "b", 2)
		edges(t, g, edge(1, "to", 2))
		has(t, g, 1, "age", "9", api.OK)
		hops(t, g, 1, "", 9, api.OK, 1, 2)
		way(t, g, 1, 2, "to", api.OK, 1, 2)
	}
	check()
	commit(t, &p, op(node(2), 0, 9, ""), op(node(3), 0, 9, "b"), op(edge(1, "to", 3), 0, 9, "x"), op(prop(1, "age"), 0, 9, "10"))
	check()
	told(t, "Forget", p.Forget(2), api.OK)
	check()
	h := at(t, &p, 2, 0)
	nodes(t, h, "", 1, 3)
	edges(t, h, edge(1, "to", 3))
	check()
	if p.Now() != 2 || p.Known() != 2 {
		t.Errorf("the past was changed: %d, %d", p.Now(), p.Known())
	}
}

// Promise 5.2.

func TestHops(t *testing.T) {
	g := graph(t,
		edge(5, "to", 9), edge(5, "at", 2), edge(9, "to", 1), edge(2, "to", 7), edge(1, "to", 5), // round again
		edge(7, "at", 7), edge(8, "to", 5), edge(1, "to", 10), edge(5, "to", 2))
	hops(t, g, 5, "", 0, api.OK, 5)
	hops(t, g, 5, "", 1, api.OK, 2, 5, 9)
	hops(t, g, 5, "", 2, api.OK, 1, 2, 5, 7, 9)
	hops(t, g, 5, "", 3, api.OK, 1, 2, 5, 7, 9, 10)
	hops(t, g, 5, "", api.MaxId, api.OK, 1, 2, 5, 7, 9, 10)
	hops(t, g, 5, "to", 1, api.OK, 2, 5, 9)
	hops(t, g, 5, "to", 2, api.OK, 1, 2, 5, 7, 9)
	hops(t, g, 5, "at", 1, api.OK, 2, 5)
	hops(t, g, 5, "at", api.MaxId, api.OK, 2, 5)
	hops(t, g, 5, "no", api.MaxId, api.OK, 5)
	hops(t, g, 5, "TO", 3, api.OK, 5) // no word at all is the word of no edge
	hops(t, g, 7, "", 3, api.OK, 7)
	hops(t, g, 8, "", 1, api.OK, 5, 8)
	hops(t, g, 10, "", 3, api.OK, 10) // edges lead one way
}

// TestHopsErrors: no such node comes ahead of how many hops.
func TestHopsErrors(t *testing.T) {
	g := graph(t, edge(1, "to", 2))
	for _, many := range []int{-1, api.MaxId + 1, math.MinInt, math.MaxInt} {
		hops(t, g, 1, "", many, api.ErrRange)
		hops(t, g, 1, "no", many, api.ErrRange)
		hops(t, g, 3, "", many, api.ErrMissing)
	}
	for _, n := range []int{0, 3, -1, api.MaxId, math.MinInt, math.MaxInt} {
		hops(t, g, n, "", 1, api.ErrMissing)
	}
}

func TestWay(t *testing.T) {
	g := graph(t,
		edge(1, "to", 2), edge(2, "to", 3), edge(3, "to", 4), edge(4, "to", 5), edge(1, "at", 9), edge(9, "at", 5),
		edge(5, "to", 1), edge(6, "to", 6), edge(7, "to", 1))
	way(t, g, 1, 5, "", api.OK, 1, 9, 5)
	way(t, g, 1, 5, "at", api.OK, 1, 9, 5)
	way(t, g, 1, 5, "to", api.OK, 1, 2, 3, 4, 5)
	way(t, g, 5, 4, "", api.OK, 5, 1, 2, 3, 4)
	way(t, g, 1, 2, "to", api.OK, 1, 2)
	way(t, g, 2, 1, "to", api.OK, 2, 3, 4, 5, 1)
	for _, word := range []string{"", "to", "at", "no", "TO"} { // to itself no edge is needed
		for _, n := range []int{1, 6, 7} {
			way(t, g, n, n, word, api.OK, n)
		}
	}
	way(t, g, 7, 5, "", api.OK, 7, 1, 9, 5)
	way(t, g, 1, 7, "", api.ErrNone)
	way(t, g, 1, 6, "", api.ErrNone)
	way(t, g, 6, 1, "", api.ErrNone)
	way(t, g, 1, 2, "at", api.ErrNone)
	way(t, g, 1, 2, "no", api.ErrNone)
	way(t, g, 1, 2, "TO", api.ErrNone)
	for _, n := range []int{0, 8, -1, api.MaxId, math.MinInt, math.MaxInt} {
		way(t, g, n, 1, "", api.ErrMissing)
		way(t, g, 1, n, "", api.ErrMissing)
		way(t, g, n, n, "", api.ErrMissing)
	}
}

// TestLeastWay: of ways that are as short, that whose nodes are least, the first ones first, whatever words lead there.
func TestLeastWay(t *testing.T) {
	g := graph(t, edge(0, "a", 3), edge(0, "z", 2), edge(3, "a", 1), edge(2, "a", 4), edge(1, "a", 9), edge(4, "a", 9))
	way(t, g, 0, 9, "", api.OK, 0, 2, 4, 9) // not by 3, 1: the first ones count first
	g = graph(t, edge(0, "a", 10), edge(0, "b", 9), edge(10, "a", 50), edge(9, "a", 50))
	way(t, g, 0, 50, "", api.OK, 0, 9, 50) // as numbers, not as texts; nodes count, not words
	way(t, g, 0, 50, "a", api.OK, 0, 10, 50)
	g = graph(t, edge(0, "a", 1), edge(1, "a", 2), edge(2, "a", 8), edge(0, "a", 7), edge(7, "a", 8))
	way(t, g, 0, 8, "", api.OK, 0, 7, 8) // shorter counts ahead of less
	g = graph(t, edge(0, "a", 2), edge(0, "a", 3), edge(2, "a", 6), edge(3, "a", 5), edge(6, "a", 9), edge(5, "a", 9), edge(9, "a", 4))
	way(t, g, 0, 4, "", api.OK, 0, 2, 6, 9, 4)
	g = graph(t, edge(0, "a", 1), edge(1, "b", 4), edge(1, "a", 5), edge(4, "a", 6), edge(5, "a", 6))
	way(t, g, 0, 6, "", api.OK, 0, 1, 4, 6)
	way(t, g, 0, 6, "a", api.OK, 0, 1, 5, 6)
}

// TestLostNode: what no node is leads on to nothing.
func TestLostNode(t *testing.T) {
	var p past.Past
	for _, n := range []int{1, 2, 3} {
		commit(t, &p, op(node(n), 0, 9, "x"))
	}
	commit(t, &p, op(edge(1, "to", 2), 0, 9, "x"), op(edge(2, "to", 3), 0, 9, "x"), op(edge(1, "to", 4), 0, 9, "x"), op(edge(4, "to", 3), 0, 9, "x"))
	commit(t, &p, op(node(2), 5, 6, ""))
	g := at(t, &p, p.Now(), 4)
	hops(t, g, 1, "", 5, api.OK, 1, 2, 3)
	way(t, g, 1, 3, "", api.OK, 1, 2, 3)
	g = at(t, &p, p.Now(), 5)
	hops(t, g, 1, "", 5, api.OK, 1)
	way(t, g, 1, 3, "", api.ErrNone)
	way(t, g, 1, 2, "", api.ErrMissing)
}

// TestLongWay: as many nodes in a row as may be said.
func TestLongWay(t *testing.T) {
	var p past.Past
	n := 0
	for range api.MaxLog {
		var l []api.Op
		for range api.MaxOps / 2 {
			l = append(l, op(node(n), 0, 1, "x"), op(edge(n, "to", n+1), 0, 1, "x"))
			n++
		}
		commit(t, &p, l...)
	}
	g := at(t, &p, p.Now(), 0)
	var row []int
	for i := range n {
		row = append(row, i)
	}
	nodes(t, g, "", row...)
	if l := g.Edges(); len(l) != n-1 { // the last one leads nowhere
		t.Errorf("%d edges, want %d", len(l), n-1)
	}
	way(t, g, 0, n-1, "to", api.OK, row...)
	way(t, g, n-1, 0, "to", api.ErrNone)
	hops(t, g, 0, "to", n-2, api.OK, row[:n-1]...)
	hops(t, g, 0, "to", n-1, api.OK, row...)
	hops(t, g, 0, "to", api.MaxId, api.OK, row...)
}

// model is a graph that goes through all ways.
type model struct {
	nodes []int
	edges []api.Key
	kinds map[int]string
	props map[api.Key]string
}

// modelAt asks a past key by key.
func modelAt(p *past.Past, at, time int) model {
	m := model{kinds: map[int]string{}, props: map[api.Key]string{}}
	for _, k := range some() {
		v, _ := p.Value(k, at, time)
		switch {
		case v == "":
		case k.Kind == api.Node:
			m.nodes = append(m.nodes, k.A)
			m.kinds[k.A] = v
		case k.Kind == api.Prop:
			m.props[k] = v
		case slices.Contains(m.nodes, k.A) && slices.Contains(m.nodes, k.B):
			m.edges = append(m.edges, k)
		}
	}
	return m
}

// ways are all ways of just so many edges of a word, from a node.
func (m model) ways(n int, word string, many int) [][]int {
	out := [][]int{{n}}
	for range many {
		var longer [][]int
		for _, w := range out {
			for _, k := range m.edges {
				if k.A == w[len(w)-1] && (word == "" || k.Word == word) {
					longer = append(longer, append(slices.Clone(w), k.B))
				}
			}
		}
		out = longer
	}
	return out
}

// hops are the ends of all ways.
func (m model) hops(n int, word string, many int) []int {
	var out []int
	for i := range many + 1 {
		for _, w := range m.ways(n, word, i) {
			out = append(out, w[i])
		}
	}
	slices.Sort(out)
	return slices.Compact(out)
}

// way is the least one of all ways of as few edges as lead there; nil: none do.
func (m model) way(from, to int, word string) []int {
	for i := range m.nodes {
		var found [][]int
		for _, w := range m.ways(from, word, i) {
			if w[i] == to {
				found = append(found, w)
			}
		}
		if len(found) > 0 {
			return slices.MinFunc(found, slices.Compare[[]int])
		}
	}
	return nil
}

// some are all keys that are drawn from, in order.
func some() []api.Key {
	var l []api.Key
	for a := range 5 {
		l = append(l, node(a), prop(a, "at"), prop(a, "to"))
		for b := range 5 {
			l = append(l, edge(a, "at", b), edge(a, "to", b))
		}
	}
	slices.SortFunc(l, fact.Compare)
	return l
}

// drawn is a past of few keys and times, most nodes of which are there.
func drawn(t *testing.T, r *rand.Rand) *past.Past {
	var p past.Past
	for range 12 {
		var l []api.Op
		for range 1 + r.Intn(api.MaxOps) {
			k := some()[r.Intn(len(some()))]
			if r.Intn(3) == 0 {
				k = node(r.Intn(5))
			}
			from := r.Intn(4)
			l = append(l, op(k, from, from+1+r.Intn(4), []string{"", "a", "b", "a", "b"}[r.Intn(5)]))
		}
		commit(t, &p, l...)
	}
	return &p
}

// held holds a graph against a model.
func held(t *testing.T, g *walk.Graph, m model, r *rand.Rand) {
	t.Helper()
	nodes(t, g, "", m.nodes...)
	edges(t, g, m.edges...)
	for _, kind := range []string{"a", "b", "c"} {
		var want []int
		for _, n := range m.nodes {
			if m.kinds[n] == kind {
				want = append(want, n)
			}
		}
		nodes(t, g, kind, want...)
	}
	for a := range 6 {
		b, many, word := r.Intn(6), r.Intn(5), []string{"", "at", "to", "by"}[r.Intn(4)]
		if !slices.Contains(m.nodes, a) {
			has(t, g, a, word, "", api.ErrMissing)
			hops(t, g, a, word, many, api.ErrMissing)
			way(t, g, a, b, word, api.ErrMissing)
			way(t, g, b, a, word, api.ErrMissing)
			continue
		}
		if v := m.props[prop(a, word)]; v != "" {
			has(t, g, a, word, v, api.OK)
		} else {
			has(t, g, a, word, "", api.ErrNone)
		}
		hops(t, g, a, word, many, api.OK, m.hops(a, word, many)...)
		if !slices.Contains(m.nodes, b) {
			way(t, g, a, b, word, api.ErrMissing)
		} else if w := m.way(a, b, word); w != nil {
			way(t, g, a, b, word, api.OK, w...)
		} else {
			way(t, g, a, b, word, api.ErrNone)
		}
	}
}

// TestModel: many graphs, told as one tells them who goes through all ways.
func TestModel(t *testing.T) {
	r := rand.New(rand.NewSource(6))
	for range 60 {
		p := drawn(t, r)
		for count := range p.Now() + 1 {
			time := r.Intn(9) - 1
			held(t, at(t, p, count, time), modelAt(p, count, time), r)
		}
	}
}

// TestOwnMemory: what is told is the caller's.
func TestOwnMemory(t *testing.T) {
	g := graph(t, edge(1, "to", 2), edge(2, "to", 3), edge(1, "at", 3), edge(2, "at", 1))
	for range 2 {
		a, b := g.Nodes(""), g.Nodes("x")
		c := g.Edges()
		d, _ := g.Hops(1, "", 2)
		e, _ := g.Way(1, 3, "to")
		for _, l := range [][]int{a, b, d, e} {
			if !slices.Equal(l, []int{1, 2, 3}) {
				t.Errorf("%v, %v, %v, %v", a, b, d, e)
			}
			clear(l[:cap(l)])
		}
		if !slices.Equal(c, []api.Key{edge(1, "at", 3), edge(1, "to", 2), edge(2, "at", 1), edge(2, "to", 3)}) {
			t.Errorf("Edges: %v", c)
		}
		clear(c[:cap(c)])
	}
	one := graph(t, edge(1, "to", 2)) // all edges are those of one node
	for range 2 {
		edges(t, one, edge(1, "to", 2))
		clear(one.Edges())
	}
}
