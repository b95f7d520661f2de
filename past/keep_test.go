package past

import (
	"strings"
	"testing"
	"unsafe"

	"palimpsest/api"
)

// kept is how many versions a past keeps; it fails unless those that have not ended, and no others, have their spans in a tree, and no key is kept without any.
func kept(t *testing.T, p *Past) int {
	t.Helper()
	many := 0
	for k, x := range p.lines {
		spans := x.spans.Many()
		for n, v := range x.versions {
			if v.said[1] == still {
				spans--
				if s, err := x.spans.Span(n); err != nil || s != v.piece.Span {
					t.Errorf("%v: version %d: %v, %v", k, n, s, err)
				}
			}
			if v.said[0] >= v.said[1] || v.said[1] <= p.known {
				t.Errorf("%v: version %d is said from %d to %d", k, n, v.said[0], v.said[1])
			}
		}
		if len(x.versions) == 0 || spans != 0 {
			t.Errorf("%v: %d versions, %d spans too many", k, len(x.versions), spans)
		}
		many += len(x.versions)
	}
	return many
}

// TestKept: no more is kept than can be asked for (4.1: what is forgotten, what a transaction said and took back).
func TestKept(t *testing.T) {
	node, other := api.Key{Kind: api.Node, A: 1}, api.Key{Kind: api.Node, A: 2}
	change := func(k api.Key, from, to int, value string) api.Op {
		return api.Op{Key: k, Span: api.Span{From: from, To: to}, Value: value}
	}
	var p Past
	for i, c := range []struct {
		l      []api.Op // none: all is forgotten that may be
		want   int
		wanted int // keys
	}{
		{[]api.Op{change(node, 0, 9, "")}, 0, 0},
		{[]api.Op{change(node, 0, 9, "a"), change(node, 0, 9, "")}, 0, 0},
		{[]api.Op{change(node, 0, 9, "a"), change(node, 0, 9, "b"), change(other, 0, 9, "a")}, 2, 2},
		{[]api.Op{change(node, 3, 5, "c")}, 5, 2}, // one that ended, three of which it is made now, and the other key's
		{nil, 4, 2},
		{[]api.Op{change(node, 0, 9, "")}, 4, 2},
		{nil, 1, 1},
		{[]api.Op{change(other, 0, 9, "")}, 1, 1},
		{nil, 0, 0},
	} {
		if c.l == nil {
			if err := p.Forget(p.Now()); err != nil {
				t.Errorf("%d: Forget: %v", i, err)
			}
		} else if err := p.Commit(c.l); err != nil {
			t.Errorf("%d: Commit: %v", i, err)
		}
		if got := kept(t, &p); got != c.want || len(p.lines) != c.wanted {
			t.Errorf("%d: %d versions of %d keys, want %d of %d", i, got, len(p.lines), c.want, c.wanted)
		}
	}
}

// TestLongText: of a long text of which a word, or a value, is a part, nothing is kept.
func TestLongText(t *testing.T) {
	text := strings.Repeat("x", 1000) + "word" + "value"
	first := uintptr(unsafe.Pointer(unsafe.StringData(text)))
	var p Past
	for range 2 { // a key that is new, and one that is there
		o := api.Op{Key: api.Key{Kind: api.Prop, A: 1, Word: text[1000:1004]}, Span: api.Span{From: 0, To: 5}, Value: text[1004:]}
		if err := p.Commit([]api.Op{o}); err != nil {
			t.Fatal(err)
		}
		for k, x := range p.lines {
			for _, v := range x.versions {
				for _, s := range []string{k.Word, v.piece.Value} {
					if at := uintptr(unsafe.Pointer(unsafe.StringData(s))); at >= first && at < first+uintptr(len(text)) {
						t.Errorf("%q lies in the text that was handed in", s)
					}
				}
			}
		}
	}
	if v, err := p.Value(api.Key{Kind: api.Prop, A: 1, Word: "word"}, 2, 0); v != "value" || err != nil {
		t.Errorf("Value: %q, %v", v, err)
	}
}

// TestRoom: all transactions make no more versions than there is room for in a tree, and numbers.
func TestRoom(t *testing.T) {
	if most := 3 * api.MaxLog * api.MaxOps; most > api.MaxTree || most > api.MaxId {
		t.Errorf("%d versions, and room for %d", most, api.MaxTree)
	}
}
