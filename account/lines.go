package account

import (
	"strconv"

	"gemel/api"
	"gemel/world"
)

// line is a word, and numbers behind it.
func line(word string, l ...int64) string {
	for _, n := range l {
		word += " " + strconv.FormatInt(n, 10)
	}
	return word
}

func sumLine(a api.Account) string {
	return line("calls", int64(a.Calls)) + line(" done", int64(a.Done)) + line(" refused", int64(a.Refused)) + line(" gone", int64(a.Gone)) +
		line(" under", int64(a.Under)) + line(" waits", a.Waits) + line(" longest", a.Longest)
}

// Lines are what calls, and what was seen, come to.
func Lines(l []api.Call, s []api.Seen, acts int) []string {
	out := []string{sumLine(Of(l))}
	for _, k := range Kinds(l) {
		out = append(out, line("kind", int64(k.Kind), int64(k.Account.Calls), int64(k.Account.Done), k.Account.Waits))
	}
	if half, any, _ := Wait(l, 1, 2); any {
		out = append(out, line("half", half))
	}
	for _, r := range Reigns(s) {
		out = append(out, line("reign", int64(r.Node), int64(r.From), int64(r.To)))
	}
	for _, p := range Pauses(s, acts) {
		out = append(out, line("pause", int64(p.From), int64(p.To)))
	}
	if Both(s) {
		out = append(out, "both")
	}
	return out
}

// World are a world's.
func World(w *world.World) []string {
	if w.Arbiter() == nil {
		return nil
	}
	return Lines(w.History(), w.Seen(), w.Acts())
}
