package desk_test

import (
	"fmt"
	"math/rand"
	"slices"
	"strings"
	"testing"

	"palimpsest/api"
	"palimpsest/base"
	"palimpsest/desk"
	"palimpsest/fact"
	"palimpsest/walk"
)

// talk fails unless each line is answered so: every first text is a line, every second one its answer.
func talk(t *testing.T, l ...string) {
	t.Helper()
	var lines, want []string
	for i := 0; i < len(l); i += 2 {
		lines, want = append(lines, l[i]), append(want, l[i+1])
	}
	got := strings.Split(desk.Session(strings.Join(lines, "\n")+"\n"), "\n")
	want = append(want, "") // each answer has its line feed
	if len(got) != len(want) {
		t.Fatalf("%d lines, want %d: %q", len(got)-1, len(want)-1, got)
	}
	for i, x := range lines {
		if got[i] != want[i] {
			t.Errorf("line %d, %q: %q, want %q", i, x, got[i], want[i])
		}
	}
}

// is fails unless a text is answered so, to the byte.
func is(t *testing.T, text, want string) {
	t.Helper()
	if got := desk.Session(text); got != want {
		t.Errorf("%.60q: %.200q, want %.200q", text, got, want)
	}
}

// told is how an error is told.
func told(e api.Errno) string { return fmt.Sprint("error ", int(e)) }

var form = told(api.ErrForm)

// Promise 7.1.

// TestLong: a text of MaxText bytes is answered line by line, a longer one as a whole.
func TestLong(t *testing.T) {
	for _, c := range []struct{ part, want string }{
		{"x", form + "\n"},
		{" ", "ok\n"},
		{"\n", strings.Repeat("ok\n", api.MaxText)},
		{"now\n", strings.Repeat("0 0 0 false\n", api.MaxText/4)},
	} {
		text := strings.Repeat(c.part, api.MaxText/len(c.part))
		is(t, text, c.want)
		is(t, text+"\n", "error 4\n")
		is(t, text+"x", "error 4\n")
		is(t, text+text, "error 4\n")
	}
	is(t, strings.Repeat("é", api.MaxText/2), form+"\n") // bytes are counted
	is(t, strings.Repeat("é", api.MaxText/2+1), "error 4\n")
}

// TestLines: a text is cut at line feeds; one at its end is left out; the empty text is one line.
func TestLines(t *testing.T) {
	const now = "0 0 0 false\n"
	for text, want := range map[string]string{
		"":                "ok\n",
		"\n":              "ok\n",
		"\n\n":            "ok\nok\n",
		"\n\n\n":          "ok\nok\nok\n",
		" ":               "ok\n",
		" \n":             "ok\n",
		"\n ":             "ok\nok\n",
		"now":             now,
		"now\n":           now,
		"now\n\n":         now + "ok\n",
		"\nnow":           "ok\n" + now,
		"now\nnow":        now + now,
		"now\n   \nx\n":   now + "ok\nerror 3\n",
		"x":               "error 3\n",
		"x\n\nopen":       "error 3\nok\nopen\n",
		"open\r\nopen":    "error 3\nopen\n",
		"open\x00\nopen":  "error 3\nopen\n",
		"open\u2028open":  "error 3\n",
		"open\vopen\fnow": "error 3\n",
	} {
		is(t, text, want)
	}
}

// TestBlanks: several blanks may stand between words, and at both ends; nothing else is one.
func TestBlanks(t *testing.T) {
	talk(t,
		"   ", "ok",
		"  now", "0 0 0 false",
		"now     ", "0 0 0 false",
		" commit   1  3 -   0 0     10  a ", "1",
		"   value  1   3 - 0  1   7   ", "a",
		"value 1 3 -  0 1 7", "a",
		"\t", form,
		"\tnow", form,
		"now\t", form,
		"now\r", form,
		"value\t1 3 - 0 1 7", form,
		"value 1\t3 - 0 1 7", form,
		"value 1 3 - 0 1 \t7", form,
		"commit 1 3\t- 0 0 10 a", form,
		"\u00a0", form,
		"now\u00a0", form,
		"now\u3000", form,
		"now\xff", form,
		"\xff now", form,
		"\xa0", form,
		"now\x00", form,
		"now", "1 0 1 false",
	)
}

// TestSaid: what the document's example says, by text: each way to ask for it.
func TestSaid(t *testing.T) {
	talk(t,
		"now", "0 0 0 false",
		"commit 1 3 - 0 0 10 a", "1",
		"commit 1 3 - 0 5 20 b", "2",
		"value 1 3 - 0 1 7", "a",
		"value 1 3 - 0 2 7", "b",
		"value 1 3 - 0 0 7", "-",
		"value 1 3 - 0 2 20", "-",
		"pieces 1 3 - 0 2", "pieces 0 5 a, 5 20 b",
		"pieces 1 3 - 0 1", "pieces 0 10 a",
		"pieces 1 3 - 0 0", "pieces ",
		"ever 1 3 - 0 0 2 7 8", "ever a b",
		"ever 1 3 - 0 2 2 7 8", "ever b",
		"ever 1 3 - 0 0 0 7 8", "ever ",
		"keys 2 7", "keys 1 3 - 0",
		"keys 0 7", "keys ",
		"now", "2 0 2 false",
		"forget 1", "forget",
		"now", "2 1 3 false",
		"value 1 3 - 0 0 7", told(api.ErrMissing),
		"value 1 3 - 0 1 7", "a",
		"forget 0", told(api.ErrOrder),
		"forget 3", told(api.ErrRange),
		"forget -1", told(api.ErrRange),
		"forget 1", "forget",
		"now", "2 1 4 false",
	)
}

// TestKeys: keys are told in order, with - for an empty word.
func TestKeys(t *testing.T) {
	talk(t,
		"commit 3 1 age 0 -5 5 30+2 1 to 2 -5 5 x+2 1 at 2 -5 5 y+1 2 - 0 -5 5 b+1 1 - 0 -5 5 a", "1",
		"keys 1 0", "keys 1 1 - 0, 1 2 - 0, 2 1 at 2, 2 1 to 2, 3 1 age 0",
		"keys 1 -5", "keys 1 1 - 0, 1 2 - 0, 2 1 at 2, 2 1 to 2, 3 1 age 0",
		"keys 1 5", "keys ",
		"keys 1 -6", "keys ",
		"keys 2 0", told(api.ErrRange),
		"keys 0 1099511627776", told(api.ErrArg),
		"keys 0 1099511627775", "keys ",
		"value 2 1 to 2 1 0", "x",
		"value 2 1 - 2 1 0", told(api.ErrArg), // an edge has a word
		"value 1 1 to 0 1 0", told(api.ErrArg), // and a node none
		"value 3 1 age 0 1 0", "30",
		"pieces 2 1 to 2 1", "pieces -5 5 x",
		"pieces 2 1 TO 2 1", told(api.ErrArg),
		"pieces 2 1 -- 2 1", told(api.ErrArg),
		"ever 3 1 age 0 0 1 -5 5", "ever 30",
		"ever 3 1 age 0 1 0 -5 5", told(api.ErrOrder),
		"ever 3 1 age 0 0 1 5 -5", told(api.ErrArg),
	)
}

// graph are lines that make, and look at, a graph of three nodes, of two kinds.
var graph = []string{
	"commit 1 1 - 0 0 9 man+1 2 - 0 0 9 man+1 3 - 0 0 9 town+2 1 knows 2 0 9 well+2 2 in 3 0 9 yes+3 1 age 0 0 9 30", "1",
	"at 1 5", "at",
	"nodes -", "nodes 1 2 3",
}

// TestGraph: the graph that is looked at, and ways through it.
func TestGraph(t *testing.T) {
	talk(t, append(slices.Clone(graph),
		"nodes man", "nodes 1 2",
		"nodes town", "nodes 3",
		"nodes sea", "nodes ",
		"nodes TOWN", "nodes ",
		"nodes --", "nodes ",
		"edges", "edges 2 1 knows 2, 2 2 in 3",
		"prop 1 age", "30",
		"prop 2 age", told(api.ErrNone),
		"prop 1 -", told(api.ErrNone),
		"prop 4 age", told(api.ErrMissing),
		"hops 1 - 0", "hops 1",
		"hops 1 - 1", "hops 1 2",
		"hops 1 - 2", "hops 1 2 3",
		"hops 1 knows 2", "hops 1 2",
		"hops 1 - 1048577", told(api.ErrRange),
		"hops 1 - -1", told(api.ErrRange),
		"hops 0 - 1", told(api.ErrMissing),
		"way 1 3 -", "way 1 2 3",
		"way 1 1 -", "way 1",
		"way 1 2 knows", "way 1 2",
		"way 1 3 knows", told(api.ErrNone),
		"way 3 1 -", told(api.ErrNone),
		"way 1 4 -", told(api.ErrMissing),
	)...)
}

// TestFirst: there are a new disk, a base, and the graph at 0, 0, at first; and behind new, whatever there was.
func TestFirst(t *testing.T) {
	first := []string{
		"now", "0 0 0 false",
		"nodes -", "nodes ",
		"nodes man", "nodes ",
		"edges", "edges ",
		"keys 0 0", "keys ",
		"prop 1 age", told(api.ErrMissing),
		"hops 1 - 1", told(api.ErrMissing),
		"way 1 1 -", told(api.ErrMissing),
		"value 1 1 - 0 0 0", "-",
		"value 1 1 - 0 1 0", told(api.ErrRange),
	}
	whole := slices.Concat(first, graph, []string{"new", "new"}, first, graph, []string{
		"forget 1", "forget",
		"cut 0", "cut",
		"commit 1 1 - 0 0 9 x", told(api.ErrDevice),
		"now", "1 1 2 true",
		"new", "new", // with power
	}, first, graph, []string{"cut 1", "cut", "new", "new"}, first, graph, graphAgain())
	talk(t, whole...)
}

// graphAgain are the graph's lines once more: there is a transaction already.
func graphAgain() []string {
	l := slices.Clone(graph)
	l[1] = "2"
	return l
}

// TestLooked: a graph is looked at until another one is: what is said, or forgotten, later changes it not, nor does opening the disk, nor an error.
func TestLooked(t *testing.T) {
	looked := []string{
		"nodes -", "nodes 1 2 3",
		"edges", "edges 2 1 knows 2, 2 2 in 3",
		"prop 1 age", "30",
		"way 1 3 -", "way 1 2 3",
	}
	var whole []string
	for _, l := range [][]string{
		graph,
		{"commit 1 1 - 0 0 9 -+1 4 - 0 0 9 man", "2"},
		{"at 3 5", told(api.ErrRange)},
		{"at -1 5", told(api.ErrRange)},
		{"at 2 1099511627776", told(api.ErrArg)},
		{"at 2 -1099511627777", told(api.ErrArg)},
		{"at 2", form},
		{"forget 2", "forget"},
		{"at 1 5", told(api.ErrMissing)},
		{"open", "open"},
		{"cut 0", "cut", "commit 1 1 - 0 0 9 x", told(api.ErrDevice), "open", "open"},
	} {
		whole = slices.Concat(whole, l, looked)
	}
	talk(t, append(whole, "at 2 5", "at", "nodes -", "nodes 2 3 4", "edges", "edges 2 2 in 3", "at 2 9", "at", "nodes -", "nodes ")...)
}

// TestPower: the power goes off behind so many writes more, and on again; nothing is there of a write that failed.
func TestPower(t *testing.T) {
	talk(t,
		"cut 2", "cut",
		"commit 1 1 - 0 0 9 a", "1",
		"forget 1", "forget",
		"now", "1 1 2 false",
		"commit 1 1 - 0 0 9 b", told(api.ErrDevice),
		"now", "1 1 2 true",
		"commit 1 1 - 0 0 9 b", told(api.ErrState),
		"forget 1", told(api.ErrState),
		"forget 99", told(api.ErrState),
		"commit 1 1 - 0 0 9 B", form, // what is not read is not committed
		"value 1 1 - 0 1 5", "a",
		"cut -1", "cut",
		"now", "1 1 2 true",
		"commit 1 1 - 0 0 9 b", told(api.ErrState), // it is down, with power, too
		"open", "open",
		"now", "1 1 2 false",
		"commit 1 1 - 0 0 9 b", "2",
		"cut 0", "cut",
		"forget 2", told(api.ErrDevice),
		"now", "2 1 3 true",
		"open", "open",
		"now", "2 1 3 false",
		"value 1 1 - 0 2 5", "b",
		"forget 2", "forget", // the power is on
		"now", "2 2 4 false",
		"cut 0", "cut",
		"forget 3", told(api.ErrRange),
		"forget 1", told(api.ErrOrder),
		"commit", form,
		"now", "2 2 4 false", // none of them was a write
		"cut -9223372036854775808", "cut",
		"commit 1 1 - 0 0 9 c", "3",
		"cut 9223372036854775807", "cut",
		"commit 1 1 - 0 0 9 c", "4",
	)
}

// TestFull: MaxLog writes, and no more; not by opening it anew either, and with power, or without.
func TestFull(t *testing.T) {
	var l []string
	for i := range api.MaxLog - 1 {
		l = append(l, "commit 1 1 - 0 0 9 a", fmt.Sprint(i+1))
	}
	l = append(l, "forget 0", "forget")
	full := []string{
		"commit 1 1 - 0 0 9 a", told(api.ErrLimit),
		"forget 0", told(api.ErrLimit),
		"commit 1 1 - 0 0 9", form,
		"now", fmt.Sprintf("%d 0 %d false", api.MaxLog-1, api.MaxLog),
	}
	talk(t, slices.Concat(l, full, []string{"open", "open"}, full, []string{"cut 0", "cut"}, full)...)
}

// TestCommit: what stands behind it is read as fact reads it, with one blank between words: of any other form it is an error.
func TestCommit(t *testing.T) {
	one := "1 1 - 0 0 9 a"
	many := strings.Repeat(one+"+", api.MaxOps-1) + one
	talk(t,
		"commit "+one, "1",
		"commit "+many, "2",
		"commit "+one+"+2 1 to 1 0 9 -", "3",
		"commit "+many+"+"+one, form,
		"commit", form,
		"commit -", form,
		"commit +", form,
		"commit "+one+" +"+one, form,
		"commit "+one+"+ "+one, form,
		"commit "+one+"+", form,
		"commit +"+one, form,
		"commit "+one+" "+one, form,
		"commit "+one+" a", form,
		"commit 1 1 - 0 0 9", form,
		"commit 1 1 - 0 9 9 a", form, // no such change may be
		"commit 1 1 to 0 0 9 a", form,
		"commit 4 1 - 0 0 9 a", form,
		"commit 01 1 - 0 0 9 a", form,
		"commit 1 1 - -0 0 9 a", form,
		"commit 1 1 - 0 0 9 A", form,
		"commit 1 1 - 0 0 9 0123456789abc", form,
		"commit 1 1 - 0 0 9 0123456789ab", "4",
		"commit 1 1048576 - 0 -1099511627776 1099511627776 z", "5",
		"commit 1 1048577 - 0 -1099511627776 1099511627776 z", form,
		"commit 1 1 - 0 -1099511627777 9 z", form,
		"now", "5 0 5 false",
	)
}

// TestHelp: all first words, in order.
func TestHelp(t *testing.T) {
	talk(t, "help", "at commit cut edges ever forget help hops keys new nodes now open pieces prop value way")
}

// right are lines of the right form, one of each first word but commit; what is a number there, and what a word.
func right() map[string]string {
	return map[string]string{
		"at 1 1":               "nn",
		"cut 9":                "n",
		"edges":                "",
		"ever 1 1 - 0 0 1 0 9": "nnwnnnnn",
		"forget 0":             "n",
		"help":                 "",
		"hops 1 - 1":           "nwn",
		"keys 1 1":             "nn",
		"new":                  "",
		"nodes -":              "w",
		"now":                  "",
		"open":                 "",
		"pieces 1 1 - 0 1":     "nnwnn",
		"prop 1 age":           "nw",
		"value 1 1 - 0 1 1":    "nnwnnn",
		"way 1 1 -":            "nnw",
	}
}

// state asks for all that a wrong line might change.
const state = "now\nnodes -\nedges\nkeys 1 5\npieces 1 1 - 0 1\npieces 1 1 - 0 0\ncommit 1 7 - 0 0 9 x\ncommit 1 8 - 0 0 9 x\nforget 1\nnow\nnodes -\nopen\nnow\nkeys 2 5"

// unchanged fails unless a line is answered so, and nothing is changed by it: with power, and with power for one write more.
func unchanged(t *testing.T, line, want string) {
	t.Helper()
	for _, ahead := range []string{graph[0] + "\n" + graph[2] + "\n", graph[0] + "\n" + graph[2] + "\ncut 1\n"} {
		lines := strings.Count(ahead, "\n")
		before := strings.SplitAfter(desk.Session(ahead+state), "\n")
		got := strings.SplitAfter(desk.Session(ahead+line+"\n"+state), "\n")
		if want := slices.Insert(before, lines, want+"\n"); !slices.Equal(got, want) {
			t.Errorf("%q: %q, want %q", line, got, want)
		}
	}
}

// TestForm: any other first word, any other number of words, anything but a number where one stands: ErrForm, and nothing is changed.
func TestForm(t *testing.T) {
	for _, line := range []string{"x", "-", "NEW", "New", "ne", "news", "news 1", "helphelp", "0", "error 3", "ok", "commit+", "1 1 - 0 0 9 a", "\x00", "é", "new new", "open 0", "key 1 1", "edge"} {
		unchanged(t, line, form)
	}
	for line, kinds := range right() {
		w := strings.Fields(line)
		if got := desk.Session(graph[0] + "\n" + line + "\n"); strings.HasSuffix(got, form+"\n") {
			t.Errorf("%q: %q", line, got)
		}
		for n := range w {
			if n > 0 { // one less, whichever
				unchanged(t, strings.Join(slices.Delete(slices.Clone(w), n, n+1), " "), form)
			}
			for _, more := range []string{"0", "-", "a"} { // one more, wherever
				unchanged(t, strings.Join(slices.Insert(slices.Clone(w), n+1, more), " "), form)
			}
		}
		for n, kind := range kinds {
			for _, x := range noNumbers() {
				if kind == 'n' {
					l := slices.Clone(w)
					l[n+1] = x
					unchanged(t, strings.Join(l, " "), form)
				}
			}
		}
	}
}

// noNumbers are words that are no numbers, though some of them look so.
func noNumbers() []string {
	return []string{
		"-", "--", "a", "x1", "1x", "+", "+1", "+0", "-0", "00", "01", "-01", "007", "--1", "1-", "-+1", "0x1", "1e1", "1.0", "1.", ".1", "1_0", "1,0", "٣", "１",
		"9223372036854775808", "-9223372036854775809", "18446744073709551616", "99999999999999999999999999", "NaN", "true",
	}
}

// TestNumbers: numbers of 64 bits are numbers, and go where they are asked for, whatever is told of them there.
func TestNumbers(t *testing.T) {
	for line, kinds := range right() {
		for n, kind := range kinds {
			if kind != 'n' {
				continue
			}
			for _, x := range []string{"9223372036854775807", "-9223372036854775808", "-1", "0", "10", "-10", "1099511627776", "-1099511627777"} {
				w := strings.Fields(line)
				w[n+1] = x
				got := desk.Session(graph[0] + "\nat 1 5\n" + strings.Join(w, " ") + "\n")
				if strings.HasSuffix(got, form+"\n") {
					t.Errorf("%q: %q", w, got)
				}
			}
		}
	}
	unchanged(t, "at 9223372036854775807 1", told(api.ErrRange))
	unchanged(t, "at 1 9223372036854775807", told(api.ErrArg))
	unchanged(t, "at 1 -9223372036854775808", told(api.ErrArg))
	unchanged(t, "keys 1 9223372036854775807", told(api.ErrArg))
	unchanged(t, "forget 9223372036854775807", told(api.ErrRange))
	unchanged(t, "forget -9223372036854775808", told(api.ErrRange))
	unchanged(t, "hops 9223372036854775807 - 1", told(api.ErrMissing))
	unchanged(t, "hops 1 - 9223372036854775807", told(api.ErrRange))
	unchanged(t, "value 9223372036854775807 1 - 0 1 1", told(api.ErrArg))
	unchanged(t, "value 1 1 - -9223372036854775808 1 1", told(api.ErrArg))
	unchanged(t, "ever 1 1 - 0 0 1 -9223372036854775808 9223372036854775807", told(api.ErrArg))
}

// TestAsked: what asks alone changes nothing.
func TestAsked(t *testing.T) {
	unchanged(t, "", "ok")
	unchanged(t, "  ", "ok")
	unchanged(t, "now", "1 0 1 false")
	unchanged(t, "value 1 1 - 0 1 5", "man")
	unchanged(t, "pieces 1 1 - 0 1", "pieces 0 9 man")
	unchanged(t, "ever 1 1 - 0 0 1 0 9", "ever man")
	unchanged(t, "keys 1 5", "keys 1 1 - 0, 1 2 - 0, 1 3 - 0, 2 1 knows 2, 2 2 in 3, 3 1 age 0")
	unchanged(t, "edges", "edges 2 1 knows 2, 2 2 in 3")
	unchanged(t, "nodes man", "nodes 1 2")
	unchanged(t, "hops 1 - 1", "hops 1 2")
	unchanged(t, "way 1 3 -", "way 1 2 3")
	unchanged(t, "prop 1 age", "30")
	unchanged(t, "prop 1 sex", told(api.ErrNone))
	unchanged(t, "commit 1 1 - 0 9 0 a", form)
	unchanged(t, "at 1 5", "at") // the same one
}

// bench is what a session has, asked by the faces of the layers below.
type bench struct {
	disk  *base.Disk
	base  *base.Base
	graph *walk.Graph
}

// words is any list, with blanks between, behind a word.
func words[T any](word string, l []T, err error) string {
	if err != nil {
		return told(api.Tell(err))
	}
	for i, x := range l {
		if i > 0 {
			word += " "
		}
		word += fmt.Sprint(x)
	}
	return word
}

// parts is any list, with commas between, behind a word.
func parts[T any](word string, l []T, err error) string {
	var told []string
	for _, x := range l {
		s := strings.NewReplacer("{", "", "}", "", "  ", " - ").Replace(fmt.Sprint(x)) // {1 3  0}, {{0 5} a}
		told = append(told, s)
	}
	if err == nil {
		return word + strings.Join(told, ", ")
	}
	return words(word, told, err)
}

// plainly is one answer, or an error.
func plainly(x any, err error) string {
	if err != nil {
		return told(api.Tell(err))
	}
	return fmt.Sprint(x)
}

// drawnKey is a key that looks drawn, mostly one that may be, and its text.
func drawnKey(r *rand.Rand) (api.Key, string) {
	k := []api.Key{
		{Kind: api.Node, A: r.Intn(4)},
		{Kind: api.Edge, A: r.Intn(4), Word: []string{"to", "at"}[r.Intn(2)], B: r.Intn(4)},
		{Kind: api.Prop, A: r.Intn(4), Word: []string{"to", "at"}[r.Intn(2)]},
		{Kind: r.Intn(5) - 1, A: r.Intn(4) - 1, Word: []string{"", "to"}[r.Intn(2)], B: r.Intn(4) - 1},
	}[min(3, r.Intn(12)/3)]
	w := k.Word
	if w == "" {
		w = "-"
	}
	return k, fmt.Sprint(k.Kind, " ", k.A, " ", w, " ", k.B)
}

// writes is a line that looks drawn, and writes, or may; and what is to be told of it.
func (b *bench) writes(r *rand.Rand) (string, string) {
	switch r.Intn(10) {
	case 0:
		at := r.Intn(6) - 1
		return fmt.Sprint("forget ", at), plainly("forget", b.base.Forget(at, -1))
	case 1:
		n := r.Intn(8) - 2
		b.disk.Cut(n)
		return fmt.Sprint("cut ", n), "cut"
	case 2:
		b.disk.Cut(-1)
		b.base, _ = base.Open(b.disk)
		return "open", "open"
	}
	var l []api.Op
	for range 1 + r.Intn(4) {
		k, _ := drawnKey(r)
		from := r.Intn(20) - 5
		l = append(l, api.Op{Key: k, Span: api.Span{From: from, To: from + 1 + r.Intn(9)}, Value: []string{"", "a", "b", "c"}[r.Intn(4)]})
	}
	text, err := fact.Write(l)
	if err != nil {
		return "commit", form
	}
	err = b.base.Commit(l, -1)
	return "commit " + text, plainly(b.base.Past().Now(), err)
}

// asks is a line that looks drawn, and asks the past; and what is to be told of it.
func (b *bench) asks(r *rand.Rand) (string, string) {
	k, key := drawnKey(r)
	p := b.base.Past()
	at, to, time := r.Intn(p.Now()+2), r.Intn(p.Now()+2), r.Intn(24)-6
	switch r.Intn(5) {
	case 0:
		v, err := p.Value(k, at, time)
		if v == "" {
			v = "-"
		}
		return fmt.Sprint("value ", key, " ", at, " ", time), plainly(v, err)
	case 1:
		l, err := p.Pieces(k, at)
		return fmt.Sprint("pieces ", key, " ", at), parts("pieces ", l, err)
	case 2:
		s := api.Span{From: time, To: time + r.Intn(9)}
		l, err := p.Ever(k, at, to, s)
		return fmt.Sprint("ever ", key, " ", at, " ", to, " ", s.From, " ", s.To), words("ever ", l, err)
	case 3:
		l, err := p.Keys(at, time)
		return fmt.Sprint("keys ", at, " ", time), parts("keys ", l, err)
	}
	return "now", fmt.Sprint(p.Now(), p.Known(), b.base.Used(), b.base.Down())
}

// looks is a line that looks drawn, and looks at a graph; and what is to be told of it.
func (b *bench) looks(r *rand.Rand) (string, string) {
	n, to, word := r.Intn(5)-1, r.Intn(4), []string{"", "to", "at"}[r.Intn(3)]
	w := []string{"-", word}[min(1, len(word))]
	switch r.Intn(7) {
	case 0, 1:
		at, time := r.Intn(b.base.Past().Now()+2), r.Intn(24)-6
		g, err := walk.At(b.base.Past(), at, time)
		if err == nil {
			b.graph = g
		}
		return fmt.Sprint("at ", at, " ", time), plainly("at", err)
	case 2:
		return "edges", parts("edges ", b.graph.Edges(), nil)
	case 3:
		kind := []string{"-", "a", "b"}[to%3]
		return "nodes " + kind, words("nodes ", b.graph.Nodes(strings.Trim(kind, "-")), nil)
	case 4:
		v, err := b.graph.Prop(n, w)
		return fmt.Sprint("prop ", n, " ", w), plainly(v, err)
	case 5:
		l, err := b.graph.Hops(n, word, to-1)
		return fmt.Sprint("hops ", n, " ", w, " ", to-1), words("hops ", l, err)
	}
	l, err := b.graph.Way(n, to, word)
	return fmt.Sprint("way ", n, " ", to, " ", w), words("way ", l, err)
}

// fresh is a bench as it is at first.
func fresh() *bench {
	d := new(base.Disk)
	b, _ := base.Open(d)
	g, _ := walk.At(b.Past(), 0, 0)
	return &bench{d, b, g}
}

// TestDrawn: whatever is asked, in whatever order: what the layers below tell.
func TestDrawn(t *testing.T) {
	r := rand.New(rand.NewSource(7))
	for range 150 {
		b := fresh()
		var l []string
		for range r.Intn(120) {
			var line, want string
			switch r.Intn(40) {
			case 0:
				b, line, want = fresh(), "new", "new"
			case 1, 2, 3, 4, 5, 6, 7, 8, 9, 10, 11, 12:
				line, want = b.writes(r)
			case 13, 14, 15, 16, 17, 18, 19, 20, 21, 22, 23, 24, 25:
				line, want = b.asks(r)
			default:
				line, want = b.looks(r)
			}
			l = append(l, line, want)
		}
		if len(l) > 0 {
			talk(t, l...)
		}
	}
}

// TestAlone: what a session answers hangs on its text alone.
func TestAlone(t *testing.T) {
	text := graph[0] + "\ncut 0\nforget 1\nat 1 5\nnow\nnodes -\nhelp\n"
	want := "1\ncut\nerror 14\nat\n1 0 1 true\nnodes 1 2 3\nat commit cut edges ever forget help hops keys new nodes now open pieces prop value way\n"
	for range 3 {
		is(t, text, want)
		is(t, "now\nnodes -", "0 0 0 false\nnodes \n")
	}
}
