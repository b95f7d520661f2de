package desk

import (
	"strconv"
	"strings"

	"palimpsest/api"
	"palimpsest/fact"
)

// How words stand in lines and answers: what stands between them, between pieces and keys, and for an empty one.
const (
	blank = ' '
	gap   = " "
	comma = ", "
	none  = "-"
)

// words are those of a line that are not taken yet. How many there are is known ahead of taking them.
type words []string

// split is a line's words.
func split(line string) words {
	return strings.FieldsFunc(line, func(r rune) bool { return r == blank })
}

// next takes a word, as it stands.
func (w *words) next() string {
	one := (*w)[0]
	*w = (*w)[1:]
	return one
}

// word takes a word that may be empty.
func (w *words) word() string {
	one := w.next()
	if one == none {
		return ""
	}
	return one
}

// number takes a number. Of its many spellings one alone is right: the one that it is told by.
func (w *words) number() int {
	one := w.next()
	n, err := strconv.ParseInt(one, 10, 64)
	if err != nil || strconv.FormatInt(n, 10) != one {
		panic(api.ErrForm)
	}
	return int(n)
}

// key takes a key.
func (w *words) key() api.Key {
	return api.Key{Kind: w.number(), A: w.number(), Word: w.word(), B: w.number()}
}

// span takes a span.
func (w *words) span() api.Span {
	return api.Span{From: w.number(), To: w.number()}
}

// changes takes all words that are left, as changes.
func (w *words) changes() []api.Op {
	return sure(fact.Read(strings.Join(*w, gap)))
}

// dash is a word as it is told.
func dash(word string) string {
	if word == "" {
		return none
	}
	return word
}

// keyText is a key as it is told.
func keyText(k api.Key) string {
	return strings.Join([]string{strconv.Itoa(k.Kind), strconv.Itoa(k.A), dash(k.Word), strconv.Itoa(k.B)}, gap)
}

// pieceText is a piece as it is told.
func pieceText(p api.Piece) string {
	return strings.Join([]string{strconv.Itoa(p.Span.From), strconv.Itoa(p.Span.To), p.Value}, gap)
}

// tell is a list as it is told, each one by a function.
func tell[T any](l []T, one func(T) string, between string) string {
	var out []string
	for _, x := range l {
		out = append(out, one(x))
	}
	return strings.Join(out, between)
}
