package node_test

import (
	"math/rand"
	"testing"

	"gemel/api"
	"gemel/uuid"
)

// entitled holds a Primary against what it must have, if it answers.
func (p *pair) entitled(seed int64, i int) {
	p.t.Helper()
	n := p.n[i]
	holder, held := p.arb.Holder()
	if n.Role() != pr || held && holder == i || n.Conn() == connected {
		return
	}
	for _, a := range p.last[i].Answers {
		if a.Code == api.OK {
			p.t.Fatal(seed, i, "answers without the grant, and not Connected")
		}
	}
}

// kept holds what was answered against both disks: who has not a write, nor one that was begun since, is the elder one, or the block is marked.
func (p *pair) kept(seed int64, wrote, begun map[int]api.Block) {
	p.t.Helper()
	for i := range 2 {
		s, o := p.n[i].Store(), p.n[1-i].Store()
		if s == nil || o == nil {
			return
		}
		elder := uuid.Compare(s.Super().Line, o.Super().Line) == api.VerdictAncestor
		for block, data := range wrote {
			if b, _ := s.Read(block); b != data && b != begun[block] && !elder && !s.Map().Has(block) && !o.Map().Has(block) {
				p.t.Fatal(seed, i, block, "was answered, and is neither there nor marked")
			}
		}
	}
}

// P20.4: a Primary that answers has the grant, or is Connected; what was answered is at both, or known to differ.
func TestFollows(t *testing.T) {
	answered, reigns := 0, 0
	for seed := range int64(150) {
		r := rand.New(rand.NewSource(seed))
		s := setup()
		s.Fencing = api.ResourceOnly
		p := together(t, s)
		sent, wrote, begun := map[uint64]api.Command{}, map[int]api.Block{}, map[int]api.Block{}
		num := uint64(0)
		for range 500 {
			i := r.Intn(2)
			p.tell()
			switch x := r.Intn(40); {
			case x < 8:
				if p.n[1-i].Role() == pr {
					i = 1 - i
				}
				num++
				sent[num] = write(num, r.Intn(8), byte(num))
				p.command(i, sent[num])
			case x < 16:
				p.tick(i)
			case x < 18:
				for range 8 {
					p.tick(i)
				}
			case x < 20:
				p.net[i] = nil
			case x < 23:
				p.ask(i, []api.Ask{api.AskPromote, api.AskDemote, api.AskConnect, api.AskDisconnect, api.AskAttach, api.AskDetach, api.AskConnect, api.AskPromote, api.AskVerify}[r.Intn(9)])
			default:
				for range 1 + r.Intn(4) {
					p.one(i)
				}
			}
			for j := range 2 {
				p.entitled(seed, j)
				for _, a := range p.last[j].Answers {
					if c := sent[a.Num]; a.Code == api.OK {
						wrote[c.Block] = c.Data
						answered++
					}
				}
				for _, m := range p.last[j].Made {
					begun[m.Block] = m.Data
				}
				for _, d := range p.last[j].Done {
					if d == ok(api.AskPromote) {
						reigns++
					}
				}
			}
			p.kept(seed, wrote, begun)
		}
	}
	if answered < 1000 || reigns < 200 {
		t.Error(answered, reigns)
	}
}
