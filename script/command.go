package script

import (
	"strings"

	"gemel/api"
	"gemel/command"
	"gemel/wire"
)

const mostByte = 255

// Words of kinds of commands, from CmdRead on.
func commandWords() []string {
	return []string{"read", "write", "flush", "trim", "zeroes", "table", "reserve"}
}

// BlockText is a block's text.
func BlockText(b api.Block) string {
	n := len(b)
	for n > 0 && b[n-1] == 0 {
		n--
	}
	if n == 0 {
		return none
	}
	return wire.Digits(b[:n])
}

// block is the next word, as a block.
func (r *reading) block() api.Block {
	var out api.Block
	b, _ := wire.OfDigits(r.word())
	copy(out[:], b)
	return out
}

// CommandText is a command's text.
func CommandText(c api.Command) (string, api.Errno) {
	if !command.May(c, api.MaxBlocks) {
		return "", api.ErrArg
	}
	out := []string{decimal(uint64(c.Who)), commandWords()[c.Kind-1]}
	switch c.Kind {
	case api.CmdRead, api.CmdTrim, api.CmdZeroes:
		out = append(out, decimal(uint64(c.Block)))
	case api.CmdWrite:
		out = append(out, decimal(uint64(c.Block)), BlockText(c.Data))
	case api.CmdPROut:
		a := c.Action
		out = append(out, decimal(uint64(a.Kind)), decimal(a.Key), decimal(a.New), decimal(uint64(a.Type)))
	}
	return strings.Join(out, blank), api.OK
}

// command takes a command's words.
func (r *reading) command() api.Command {
	const great = 1<<64 - 1
	c := api.Command{Who: int(r.number(mostByte)), Kind: api.CmdKind(r.place(commandWords()))}
	switch c.Kind {
	case api.CmdRead, api.CmdTrim, api.CmdZeroes:
		c.Block = int(r.number(mostByte))
	case api.CmdWrite:
		c.Block = int(r.number(mostByte))
		c.Data = r.block()
	case api.CmdPROut:
		c.Action = api.Action{Kind: api.ResKind(r.number(mostByte)), Key: r.number(great), New: r.number(great), Type: api.ResType(r.number(mostByte))}
	}
	return c
}
