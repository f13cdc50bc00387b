package script

import (
	"slices"
	"strconv"
	"strings"

	"gemel/wire"
)

const (
	blank = " "
	comma = ","
	none  = "-"
)

// reading takes words off a text, one behind the other. What can't be taken is nothing: its text is another one then.
type reading struct{ words []string }

func read(s string) *reading { return &reading{strings.Split(s, blank)} }

// word is the next word.
func (r *reading) word() string {
	if len(r.words) == 0 {
		return ""
	}
	w := r.words[0]
	r.words = r.words[1:]
	return w
}

// number is the next word, as a number.
func (r *reading) number(most uint64) uint64 {
	n, _ := wire.Decimal(r.word(), most)
	return n
}

// place is which one of some words the next one is, from 1 on; 0 if it is none.
func (r *reading) place(of []string) int { return slices.Index(of, r.word()) + 1 }

// row is the next word, as a row of numbers.
func (r *reading) row(most uint64) []uint64 {
	w := r.word()
	if w == none {
		return nil
	}
	var out []uint64
	for _, x := range strings.Split(w, comma) {
		n, _ := wire.Decimal(x, most)
		out = append(out, n)
	}
	return out
}

func decimal(n uint64) string { return strconv.FormatUint(n, 10) }

// rowText is the text of a row of numbers.
func rowText(l []uint64) string {
	if len(l) == 0 {
		return none
	}
	var out []string
	for _, n := range l {
		out = append(out, decimal(n))
	}
	return strings.Join(out, comma)
}
