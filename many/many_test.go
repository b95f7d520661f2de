package many_test

import (
	"errors"
	"fmt"
	"math"
	"runtime"
	"slices"
	"strings"
	"testing"
	"time"

	"palimpsest/api"
	"palimpsest/desk"
	"palimpsest/many"
	"palimpsest/plain"
)

// The most texts, and the most workers, that there may be.
const (
	texts   = 50
	workers = 16
)

// told fails unless an error is the one wanted, without a place.
func told(t *testing.T, what string, err error, want api.Errno) {
	t.Helper()
	var a *api.At
	if e, place := plain.Place(err); e != want || place != -1 || errors.As(err, &a) {
		t.Errorf("%s: error %d at %d, want %d", what, e, place, want)
	}
}

// some are so many texts, no two alike, some long, some short, some of which are wrong.
func some(n int) []string {
	var l []string
	for i := range n {
		var s strings.Builder
		for j := range (i * 37) % 140 {
			fmt.Fprintf(&s, "commit 1 %d - 0 %d %d a%d+2 %d to %d 0 9 x\n", j%7, j, j+9, i, j%7, i%7)
			fmt.Fprintf(&s, "at %d %d\nway 0 %d -\n", j, j, i%7)
		}
		fmt.Fprintf(&s, "commit 1 %d - 0 0 9 b\nkeys 1 %d\ncut 0\nforget 0\nnow", i, i%9)
		l = append(l, s.String())
	}
	if n > 3 {
		l[1], l[2], l[3] = "", strings.Repeat("x", api.MaxText+1), "x"
	}
	return l
}

// answers are the sessions of texts, one behind the other.
func answers(l []string) []string {
	var out []string
	for _, s := range l {
		out = append(out, desk.Session(s))
	}
	return out
}

// Promise 8.1.

// TestOrder: the session of each, in order, however many there are, and however many workers.
func TestOrder(t *testing.T) {
	for _, n := range []int{1, 2, 3, 15, 16, 17, 49, texts} {
		l := some(n)
		want := answers(l)
		for w := 1; w <= workers; w++ {
			got, err := many.All(l, w)
			told(t, "All", err, api.OK)
			if !slices.Equal(got, want) {
				t.Errorf("%d texts, %d workers: %.200q, want %.200q", n, w, got, want)
			}
		}
	}
}

// TestPlain: what is told of a few texts.
func TestPlain(t *testing.T) {
	l := []string{"commit 1 3 - 0 0 10 a\nnow", "now", "", "x\nopen"}
	want := []string{"1\n1 0 1 false\n", "0 0 0 false\n", "ok\n", "error 3\nopen\n"}
	for w := 1; w <= workers; w++ {
		got, err := many.All(l, w)
		told(t, "All", err, api.OK)
		if !slices.Equal(got, want) {
			t.Errorf("%d workers: %q, want %q", w, got, want)
		}
	}
}

// TestNone: no texts, no answers.
func TestNone(t *testing.T) {
	for _, l := range [][]string{nil, {}, make([]string, 0, 9)} {
		for _, w := range []int{1, 2, workers} {
			got, err := many.All(l, w)
			told(t, "All", err, api.OK)
			if len(got) != 0 {
				t.Errorf("%d workers: %q", w, got)
			}
		}
	}
}

// TestLimit: at most 50 texts, and 1 to 16 workers; with the error there are no answers.
func TestLimit(t *testing.T) {
	for _, n := range []int{0, 1, texts, texts + 1, 1000} {
		for _, w := range []int{math.MinInt, -1, 0, 1, workers, workers + 1, math.MaxInt} {
			want := api.OK
			if n > texts || w < 1 || w > workers {
				want = api.ErrLimit
			}
			got, err := many.All(make([]string, n), w)
			told(t, fmt.Sprintf("%d texts, %d workers", n, w), err, want)
			if want == api.OK && len(got) != n || want != api.OK && len(got) != 0 {
				t.Errorf("%d texts, %d workers: %d answers", n, w, len(got))
			}
		}
	}
}

// TestList: the list that is handed in is neither written into nor kept, nor is what stands behind its length; the answers are the caller's.
func TestList(t *testing.T) {
	whole := some(12)
	was := slices.Clone(whole)
	got, err := many.All(whole[:5], 4)
	told(t, "All", err, api.OK)
	if !slices.Equal(whole, was) {
		t.Errorf("the list is %.200q", whole)
	}
	want := answers(was[:5])
	for i := range whole {
		whole[i] = "help"
	}
	if !slices.Equal(got, want) {
		t.Errorf("the answers are %.200q", got)
	}
	again, err := many.All(was[:5], 4)
	told(t, "All", err, api.OK)
	for i := range got {
		got[i] = "mine"
	}
	if !slices.Equal(again, want) {
		t.Errorf("the other answers are %.200q", again)
	}
}

// TestJoined: no worker is left when it answers, not with an error either.
func TestJoined(t *testing.T) {
	before := runtime.NumGoroutine()
	for range 50 {
		for _, w := range []int{0, 1, 3, workers} {
			many.All(some(4), w)
			many.All(nil, w)
		}
	}
	for range 1000 { // one that has told that it is done may yet be on its way out
		if runtime.NumGoroutine() <= before {
			return
		}
		time.Sleep(time.Millisecond)
	}
	t.Errorf("%d goroutines, and %d before", runtime.NumGoroutine(), before)
}

// TestAtOnce: several calls at the same time have nothing to do with each other.
func TestAtOnce(t *testing.T) {
	l := some(20)
	want := answers(l)
	done := make(chan []string)
	for range 4 {
		go func() {
			got, _ := many.All(l, 5)
			done <- got
		}()
	}
	for range 4 {
		if got := <-done; !slices.Equal(got, want) {
			t.Errorf("%.200q, want %.200q", got, want)
		}
	}
}
