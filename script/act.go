// Package script is layer 25: acts as texts.
package script

import (
	"iter"
	"slices"

	"gemel/api"
	"gemel/command"
)

// form is an act's word, and a letter for each thing that stands behind it.
type form struct{ word, letters string }

var forms = [...]form{
	api.ActCommand:  {"command", "nc"},
	api.ActCarry:    {"carry", "m"},
	api.ActTick:     {"tick", "n"},
	api.ActAsk:      {"ask", "na"},
	api.ActOff:      {"off", "np"},
	api.ActOn:       {"on", "n"},
	api.ActFuse:     {"fuse", "nm"},
	api.ActFail:     {"fail", "n"},
	api.ActBlank:    {"blank", "n"},
	api.ActCarryAll: {"all", ""},
}

// part is what one letter stands for.
type part struct {
	may  func(a api.Act) bool
	move func(to *api.Act, from api.Act)
	text func(a api.Act) string
	take func(r *reading, a *api.Act)
}

// Words of what may be asked, from AskPromote on.
func askWords() []string {
	return []string{"promote", "force", "demote", "connect", "disconnect", "attach", "detach", "outdate", "verify"}
}

// Names goes over what may be asked, with its words, rising.
func Names() iter.Seq2[api.Ask, string] {
	return func(yield func(api.Ask, string) bool) {
		for i, word := range askWords() {
			if !yield(api.AskPromote+api.Ask(i), word) {
				return
			}
		}
	}
}

func mayNumber(n int) bool { return n >= 0 && n <= api.MaxNumber }

// number is the part of a number from 0 to a bound.
func number(most int, at func(a *api.Act) *int) part {
	return part{
		may:  func(a api.Act) bool { return *at(&a) >= 0 && *at(&a) <= most },
		move: func(to *api.Act, from api.Act) { *at(to) = *at(&from) },
		text: func(a api.Act) string { return decimal(uint64(*at(&a))) },
		take: func(r *reading, a *api.Act) { *at(a) = int(r.number(uint64(most))) },
	}
}

func commandPart() part {
	return part{
		may:  func(a api.Act) bool { return a.Cmd.Num == 0 && command.May(a.Cmd, api.MaxBlocks) },
		move: func(to *api.Act, from api.Act) { to.Cmd = from.Cmd },
		text: func(a api.Act) string { s, _ := CommandText(a.Cmd); return s },
		take: func(r *reading, a *api.Act) { a.Cmd = r.command() },
	}
}

func askPart() part {
	return part{
		may:  func(a api.Act) bool { return a.Ask >= api.AskPromote && a.Ask <= api.AskVerify },
		move: func(to *api.Act, from api.Act) { to.Ask = from.Ask },
		text: func(a api.Act) string { return askWords()[a.Ask-api.AskPromote] },
		take: func(r *reading, a *api.Act) { a.Ask = api.Ask(r.place(askWords())) },
	}
}

func mayPicks(l []int) bool {
	return len(l) <= api.MaxPicks && !slices.ContainsFunc(l, func(n int) bool { return !mayNumber(n) })
}

func picksPart() part {
	return part{
		may:  func(a api.Act) bool { return mayPicks(a.Picks) },
		move: func(to *api.Act, from api.Act) { to.Picks = from.Picks },
		text: func(a api.Act) string {
			var l []uint64
			for _, n := range a.Picks {
				l = append(l, uint64(n))
			}
			return rowText(l)
		},
		take: func(r *reading, a *api.Act) {
			for _, n := range r.row(api.MaxNumber) {
				a.Picks = append(a.Picks, int(n))
			}
		},
	}
}

// parts are what all letters stand for.
func parts() map[rune]part {
	return map[rune]part{
		'n': number(1, func(a *api.Act) *int { return &a.Node }),
		'm': number(api.MaxNumber, func(a *api.Act) *int { return &a.N }),
		'c': commandPart(),
		'a': askPart(),
		'p': picksPart(),
	}
}

// SameAct tells whether both are the same, part by part.
func SameAct(a, b api.Act) bool {
	return a.Kind == b.Kind && a.Node == b.Node && a.N == b.N && a.Cmd == b.Cmd && a.Ask == b.Ask && slices.Equal(a.Picks, b.Picks)
}

// MayAct tells whether an act may be told.
func MayAct(a api.Act) bool {
	if a.Kind < api.ActCommand || a.Kind > api.ActCarryAll {
		return false
	}
	named := api.Act{Kind: a.Kind}
	all := parts()
	for _, letter := range forms[a.Kind].letters {
		if !all[letter].may(a) {
			return false
		}
		all[letter].move(&named, a)
	}
	return SameAct(named, a)
}

// ActText is an act's text.
func ActText(a api.Act) (string, api.Errno) {
	if !MayAct(a) {
		return "", api.ErrArg
	}
	out := forms[a.Kind].word
	all := parts()
	for _, letter := range forms[a.Kind].letters {
		out += blank + all[letter].text(a)
	}
	return out, api.OK
}

// kindOf is the kind of act that a word begins; 0 if it begins none.
func kindOf(word string) api.ActKind {
	for kind := api.ActCommand; kind <= api.ActCarryAll; kind++ {
		if forms[kind].word == word {
			return kind
		}
	}
	return 0
}

// ActOf is the act of a text.
func ActOf(s string) (api.Act, api.Errno) {
	r := read(s)
	a := api.Act{Kind: kindOf(r.word())}
	all := parts()
	for _, letter := range forms[a.Kind].letters {
		all[letter].take(r, &a)
	}
	// What may be told has one text alone: another one, with noughts at a block's end, say, is not it.
	if text, e := ActText(a); e != api.OK || text != s {
		return api.Act{}, api.ErrBytes
	}
	return a, api.OK
}
