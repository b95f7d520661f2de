package base

import (
	"strings"
	"testing"

	"palimpsest/api"
	"palimpsest/fact"
)

// TestThere: what was torn is there, so much of it as was told, but never its last byte (6.2); a place that no call wrote to is as it was.
func TestThere(t *testing.T) {
	l := []api.Op{{Key: api.Key{Kind: api.Node, A: 3}, Span: api.Span{From: 0, To: 10}, Value: "a"}}
	text, err := fact.Write(l)
	if err != nil {
		t.Fatal(err)
	}
	for torn := -2; torn < len(text)+4; torn++ {
		var d Disk
		for place := range 2 {
			d.Cut(0)
			b, _ := Open(&d)
			if err := b.Commit(l, torn); err != api.ErrDevice {
				t.Errorf("Commit: %v", err)
			}
			want := text[:min(max(torn, 0), len(text))]
			if got := d.places[place]; got != want {
				t.Errorf("torn %d: %q is there, want %q", torn, got, want)
			}
			if strings.Join(d.places[place+1:], "") != "" {
				t.Errorf("torn %d: something lies behind it", torn)
			}
			d.Cut(-1)
			b, _ = Open(&d)
			if err := b.Commit(l, torn); err != nil || d.places[place] != text+mark {
				t.Errorf("Commit: %v, %q is there", err, d.places[place])
			}
		}
	}
}

// TestOneWrite: a call writes to one place alone, and a mark stands at its end alone.
func TestOneWrite(t *testing.T) {
	var d Disk
	b, _ := Open(&d)
	for i := range api.MaxLog {
		was := d.places
		var err error
		if i%3 == 2 {
			err = b.Forget(i/3, -1)
		} else {
			err = b.Commit([]api.Op{{Key: api.Key{Kind: api.Prop, A: i, Word: "forget"}, Span: api.Span{From: -i, To: i + 1}, Value: "z9"}}, -1)
		}
		if err != nil {
			t.Fatal(err)
		}
		for place, got := range d.places {
			if (got != was[place]) != (place == i) {
				t.Errorf("write %d: at %d lies %q, and %q lay there", i, place, got, was[place])
			}
		}
		if strings.Index(d.places[i], mark) != len(d.places[i])-1 {
			t.Errorf("write %d: %q", i, d.places[i])
		}
	}
}
