package script

import (
	"slices"
	"strconv"
	"strings"

	"gemel/api"
	"gemel/wire"
)

const (
	blank = " "
	comma = ","
	none  = "-"
)

// reading takes words off a text, one behind the other.
type reading struct {
	words  []string
	failed bool
}

func read(s string) *reading { return &reading{words: strings.Split(s, blank)} }

// word is the next word.
func (r *reading) word() string {
	if len(r.words) == 0 {
		r.failed = true
		return ""
	}
	w := r.words[0]
	r.words = r.words[1:]
	return w
}

// number is the next word, as a number.
func (r *reading) number(most uint64) uint64 {
	n, e := wire.Decimal(r.word(), most)
	if e != api.OK {
		r.failed = true
	}
	return n
}

// place is which one of some words the next one is, from 1 on.
func (r *reading) place(of []string) int {
	at := slices.Index(of, r.word())
	if at < 0 {
		r.failed = true
	}
	return at + 1
}

// row is the next word, as a row of numbers.
func (r *reading) row(most uint64) []uint64 {
	w := r.word()
	if w == none {
		return nil
	}
	var out []uint64
	for _, x := range strings.Split(w, comma) {
		n, e := wire.Decimal(x, most)
		if e != api.OK {
			r.failed = true
			return nil
		}
		out = append(out, n)
	}
	return out
}

// ended tells whether all words could be taken, and none is left.
func (r *reading) ended() bool { return !r.failed && len(r.words) == 0 }

func decimal(n uint64) string { return strconv.FormatUint(n, 10) }

// rowText is the text of a row of numbers.
func rowText(l []uint64) string {
	if len(l) == 0 {
		return none
	}
	var out []string
	for _, n := range l {
		out = append(out, decimal(n))
	}
	return strings.Join(out, comma)
}
