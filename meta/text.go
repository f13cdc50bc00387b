package meta

import (
	"slices"
	"strconv"
	"strings"

	"gemel/api"
)

const (
	blank     = " "
	newline   = "\n"
	nothing   = "none"
	hexDigits = 16
)

// Lines' words, in the order of the text.
const (
	metaLine = iota
	superLine
	lineLine
	tableLine
	keyLine
	mapLine
	hotLine
	lines
)

var lineWords = [lines]string{"meta", "super", "line", "table", "key", "map", "hot"}

func decimal(n uint64) string { return strconv.FormatUint(n, 10) }

func hex(n uint64) string {
	s := strconv.FormatUint(n, 16)
	return strings.Repeat("0", hexDigits-len(s)) + s
}

func flag(is bool) string {
	if is {
		return "1"
	}
	return "0"
}

// said is what the lines of each word say, behind that word.
func said(m api.Meta) [lines][]string {
	var out [lines][]string
	s, t := m.Super, m.Table
	row := func(l ...string) []string { return []string{strings.Join(l, blank)} }
	whole := func(n int) string { return strconv.Itoa(n) }
	out[metaLine] = row(whole(m.Blocks))
	out[superLine] = row(whole(int(s.State)), flag(s.Crashed), decimal(s.Seq))
	out[lineLine] = row(hex(s.Line.Current), hex(s.Line.Base), hex(s.Line.History[0]), hex(s.Line.History[1]))
	out[tableLine] = row(decimal(m.TableSeq), decimal(t.Gen), whole(int(t.Type)), whole(t.Holder))
	for i, key := range t.Keys {
		if key != 0 {
			out[keyLine] = append(out[keyLine], whole(i)+blank+hex(key))
		}
	}
	out[mapLine] = row(nothing)
	if m.Marked {
		out[mapLine] = row(hex(m.Set))
	}
	hot := []string{decimal(m.Number)}
	for i := range extents {
		if m.Hot>>i&1 == 1 {
			hot = append(hot, whole(i))
		}
	}
	out[hotLine] = row(hot...)
	return out
}

// Text is its text.
func Text(m api.Meta) (string, api.Errno) {
	if !May(m) {
		return "", api.ErrArg
	}
	var out strings.Builder
	for i, l := range said(m) {
		for _, x := range l {
			out.WriteString(lineWords[i] + blank + x + newline)
		}
	}
	return out.String(), api.OK
}

// Differ are the words of the lines that differ.
func Differ(a, b api.Meta) []string {
	var out []string
	ours, theirs := said(a), said(b)
	for i := range lines {
		if !slices.Equal(ours[i], theirs[i]) {
			out = append(out, lineWords[i])
		}
	}
	return out
}

// reading is what was read of a text. What can't be read is 0: its text is another one then.
type reading struct {
	m    api.Meta
	left []string // the words of a line
}

func (r *reading) number(base int) uint64 {
	if len(r.left) == 0 {
		return 0
	}
	n, _ := strconv.ParseUint(r.left[0], base, 64)
	r.left = r.left[1:]
	return n
}

func (r *reading) decimal() uint64 { return r.number(10) }

func (r *reading) hex() uint64 { return r.number(16) }

func (r *reading) meta() { r.m.Blocks = int(r.decimal()) }

func (r *reading) super() {
	s := &r.m.Super
	s.State, s.Crashed, s.Seq = api.State(r.decimal()), r.decimal() == 1, r.decimal()
}

func (r *reading) line() {
	r.m.Super.Line = api.Line{Current: r.hex(), Base: r.hex(), History: [2]uint64{r.hex(), r.hex()}}
}

func (r *reading) table() {
	r.m.TableSeq, r.m.Table.Gen = r.decimal(), r.decimal()
	r.m.Table.Type, r.m.Table.Holder = api.ResType(r.decimal()), int(r.decimal())
}

func (r *reading) key() {
	if who := r.decimal(); who < api.Initiators {
		r.m.Table.Keys[who] = r.hex()
	}
}

func (r *reading) marks() {
	if !slices.Equal(r.left, []string{nothing}) {
		r.m.Marked, r.m.Set = true, r.hex()
	}
}

func (r *reading) hot() {
	r.m.Number = r.decimal()
	for len(r.left) > 0 {
		r.m.Hot |= 1 << r.decimal()
	}
}

// lineOf is which line a word begins; below 0 if it begins none.
func lineOf(word string) int {
	for i, x := range lineWords {
		if x == word {
			return i
		}
	}
	return -1
}

// Of is what a text says.
func Of(s string) (api.Meta, api.Errno) {
	r := &reading{}
	ways := [lines]func(){r.meta, r.super, r.line, r.table, r.key, r.marks, r.hot}
	for left := s; left != ""; {
		line, rest, _ := strings.Cut(left, newline)
		left = rest
		words := strings.Split(line, blank)
		at := lineOf(words[0])
		if at < 0 {
			return api.Meta{}, api.ErrBytes
		}
		r.left = words[1:]
		ways[at]()
	}
	// What may be has one text alone: lines in another order, or a number's other digits, are not it.
	if text, e := Text(r.m); e != api.OK || text != s {
		return api.Meta{}, api.ErrBytes
	}
	return r.m, api.OK
}
