package account

import (
	"cmp"
	"slices"

	"gemel/api"
)

// span is a reign, and whether it goes on still.
type span struct {
	reign api.Reign
	open  bool
}

func reigns(v api.View, node int) bool { return v.Up[node] && v.Role[node] == api.Primary }

func bothReign(v api.View) bool { return reigns(v, 0) && reigns(v, 1) }

// spans are all reigns, in the order in which they began.
func spans(l []api.Seen) []span {
	const nobody = -1
	of := [2]int{nobody, nobody} // the place of each node's reign that goes on
	var out []span
	for _, x := range l {
		for _, v := range [2]api.View{x.Before, x.After} {
			for node := range 2 {
				at := of[node]
				switch is := reigns(v, node); {
				case is && at == nobody:
					of[node] = len(out)
					out = append(out, span{api.Reign{Node: node, From: x.Act, To: -1}, true})
				case !is && at != nobody:
					of[node] = nobody
					out[at].reign.To, out[at].open = x.Act, false
				}
			}
		}
	}
	return out
}

// Reigns are all reigns, in the order in which they began.
func Reigns(l []api.Seen) []api.Reign {
	var out []api.Reign
	for _, x := range spans(l) {
		out = append(out, x.reign)
	}
	return out
}

// Pauses are the acts, ahead of so many, that are in no reign's time.
func Pauses(l []api.Seen, acts int) []api.Pause {
	all := spans(l)
	slices.SortStableFunc(all, func(a, b span) int { return cmp.Compare(a.reign.From, b.reign.From) })
	var out []api.Pause
	at := 0 // all acts ahead of this one are told
	for _, x := range all {
		from, to := min(x.reign.From, acts), x.reign.To
		if x.open {
			to = acts
		}
		if to <= x.reign.From {
			continue
		}
		if from > at {
			out = append(out, api.Pause{From: at, To: from})
		}
		at = max(at, to)
	}
	if at < acts {
		out = append(out, api.Pause{From: at, To: acts})
	}
	return out
}

// Both tells whether both reigned at once.
func Both(l []api.Seen) bool {
	return slices.ContainsFunc(l, func(x api.Seen) bool { return bothReign(x.Before) || bothReign(x.After) })
}
