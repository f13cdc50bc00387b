package command

import (
	"slices"

	"gemel/api"
	"gemel/reserve"
	"gemel/wire"
)

const (
	mostCode  = api.ErrBusy
	tableSize = 8 + 1 + 1 + 8*api.Initiators
)

// mayOut tells whether these are initiators, rising, each once.
func mayOut(out []int) bool {
	for i, who := range out {
		if !isWho(who) || i > 0 && who <= out[i-1] {
			return false
		}
	}
	return true
}

// Part is what an answer has besides its Num.
func Part(a api.Answer) any {
	if a.Code != api.OK {
		return a.Code
	}
	switch a.Kind {
	case api.CmdRead:
		return a.Data
	case api.CmdPRIn:
		return a.Reserve
	case api.CmdPROut:
		return slices.Clone(a.Out)
	}
	return nil
}

// bare is an answer that has no more than what its kind and its code let it have.
func bare(a api.Answer) api.Answer {
	out := api.Answer{Num: a.Num, Code: a.Code, Kind: a.Kind}
	switch part := Part(a).(type) {
	case api.Block:
		out.Data = part
	case api.Reserve:
		out.Reserve = part
	case []int:
		out.Out = part
	}
	return out
}

// MayAnswer tells whether an answer may be.
func MayAnswer(a api.Answer) bool {
	if !isKind(a.Kind) || a.Code < api.OK || a.Code > mostCode || !SameAnswer(bare(a), a) {
		return false
	}
	return reserve.May(a.Reserve) && mayOut(a.Out)
}

// AnswerBytes are an answer's bytes.
func AnswerBytes(a api.Answer) ([]byte, api.Errno) {
	if !MayAnswer(a) {
		return nil, api.ErrArg
	}
	w := new(wire.Writer).Number(a.Num, 8).Number(uint64(a.Code), 1).Number(uint64(a.Kind), 1)
	part := Part(a)
	if data, ok := part.(api.Block); ok {
		w.Block(data)
	}
	if table, ok := part.(api.Reserve); ok {
		b, _ := reserve.Bytes(table)
		w.Bytes(b)
	}
	if out, ok := part.([]int); ok {
		w.Count(len(out))
		for _, who := range out {
			w.Number(uint64(who), 1)
		}
	}
	return w.End()
}

// takeTable takes a table off a reader, which fails of what is none's.
func takeTable(r *wire.Reader) api.Reserve {
	t, e := reserve.OfBytes(r.Bytes(tableSize))
	if e != api.OK {
		r.Fail()
	}
	return t
}

func takeOut(r *wire.Reader) []int {
	var out []int
	for range r.Count() {
		out = append(out, int(r.Number(1)))
	}
	return out
}

// AnswerOf is the answer of bytes.
func AnswerOf(b []byte) (api.Answer, api.Errno) {
	r := wire.Read(b)
	a := api.Answer{Num: r.Number(8), Code: api.Errno(r.Number(1)), Kind: api.CmdKind(r.Number(1))}
	if a.Code == api.OK {
		switch a.Kind {
		case api.CmdRead:
			a.Data = r.Block()
		case api.CmdPRIn:
			a.Reserve = takeTable(r)
		case api.CmdPROut:
			a.Out = takeOut(r)
		}
	}
	if r.End() != api.OK || !MayAnswer(a) {
		return api.Answer{}, api.ErrBytes
	}
	return a, api.OK
}

// SameAnswer tells whether both are the same, in all fields.
func SameAnswer(a, b api.Answer) bool {
	return a.Num == b.Num && a.Code == b.Code && a.Kind == b.Kind && a.Data == b.Data && a.Reserve == b.Reserve && slices.Equal(a.Out, b.Out)
}
