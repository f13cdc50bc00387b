package world

import (
	"slices"

	"gemel/api"
	"gemel/store"
)

// told is how much of what looks on is told, and who is what: a step that changes nothing of it is not seen.
type told struct {
	done, born, met, wrote, made int
	fence                        bool
	roles                        [2]api.Role
}

// step is a step of a node, and what comes behind it.
func (w *World) step(i int, picks []int, do func() api.Out) {
	before := w.View()
	o := do()
	if w.disks[i].Dead() {
		o = api.Out{Fence: o.Fence, Born: o.Born, Met: o.Met, Wrote: o.Wrote, Made: o.Made}
		w.losePower(i, picks)
	}
	for _, b := range o.Net {
		w.net = append(w.net, api.Sent{To: 1 - i, Bytes: b})
		w.waits = append(w.waits, true)
		w.waiting++
	}
	for _, a := range o.Answers {
		w.answered(a)
	}
	// A node that dropped has nothing under way, and did not answer it.
	if w.nodes[i].Under() == 0 {
		w.gone(i)
	}
	if o.Fence {
		w.losePower(1-i, picks)
	}
	w.look(i, before, o)
}

// losePower takes a node's power away, if it has it.
func (w *World) losePower(i int, picks []int) {
	if w.nodes[i] == nil {
		return
	}
	w.nodes[i] = nil
	w.disks[i].Crash(picks)
	w.gone(i)
}

func (w *World) answered(a api.Answer) {
	if a.Num < 1 || a.Num > uint64(len(w.calls)) {
		return
	}
	c := &w.calls[a.Num-1]
	w.ended++
	w.open[c.Node]--
	c.Done, c.To, c.Seq, c.Answer = true, w.Acts(), w.ended, a
}

// gone notes that what a node did not answer can't be answered any more.
func (w *World) gone(i int) {
	if w.open[i] == 0 {
		return
	}
	w.open[i] = 0
	for at := range w.calls {
		c := &w.calls[at]
		if c.Node == i && !c.Done && c.Gone < 0 {
			w.ended++
			c.Gone, c.Seq = w.Acts(), w.ended
		}
	}
}

// look notes what was seen of a step.
func (w *World) look(i int, before api.View, o api.Out) {
	after := w.View()
	now := told{len(o.Done), len(o.Born), len(o.Met), len(o.Wrote), len(o.Made), o.Fence, after.Role}
	if now == (told{roles: before.Role}) {
		return
	}
	x := api.Seen{Act: w.Acts(), Node: i, Done: o.Done, Born: o.Born, Met: o.Met, Wrote: o.Wrote, Made: o.Made, Fence: o.Fence, Before: before, After: after}
	if before.Role[i] != api.Primary && after.Role[i] == api.Primary {
		x.Image = w.image(i)
	}
	w.seen = append(w.seen, x)
}

// image are a node's blocks.
func (w *World) image(i int) []api.Block {
	blocks := w.stage.Setup.Blocks
	first := store.Size(blocks) - blocks
	var out []api.Block
	for at := range blocks {
		b, _ := w.disks[i].Read(first + at)
		out = append(out, b)
	}
	return out
}

func copyStage(s api.Stage) api.Stage {
	s.Draws = slices.Clone(s.Draws)
	return s
}

func copyMessage(m api.Message) api.Message {
	m.Table, m.Digest = slices.Clone(m.Table), slices.Clone(m.Digest)
	return m
}

func copySeen(x api.Seen) api.Seen {
	x.Done, x.Born, x.Wrote = slices.Clone(x.Done), slices.Clone(x.Born), slices.Clone(x.Wrote)
	x.Made, x.Image = slices.Clone(x.Made), slices.Clone(x.Image)
	x.Met = slices.Clone(x.Met)
	for i, m := range x.Met {
		x.Met[i].Own, x.Met[i].Other = copyMessage(m.Own), copyMessage(m.Other)
	}
	return x
}
