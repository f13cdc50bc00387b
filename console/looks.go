package console

import (
	"strconv"
	"strings"

	"gemel/api"
	"gemel/command"
	"gemel/ghost"
	"gemel/judge"
	"gemel/script"
	"gemel/store"
)

// look tells whether a line is one that looks at a world, and whether there is one.
func (c *Console) look(line, word string) api.Errno {
	switch {
	case line != word:
		return api.ErrBytes
	case c.world == nil:
		return api.ErrState
	}
	return api.OK
}

// lookAt is the node at which a line looks.
func (c *Console) lookAt(line, word string) (int, api.Errno) {
	node := 0
	switch line {
	case word + " 0":
	case word + " 1":
		node = 1
	default:
		return 0, api.ErrBytes
	}
	return node, c.look(word, word)
}

func number[N int | api.State | api.Role | api.Conn | api.ResType](n N) string {
	return strconv.Itoa(int(n))
}

func great(n uint64) string { return strconv.FormatUint(n, 10) }

func joined(words ...string) string { return strings.Join(words, blank) }

func (c *Console) view(line string) ([]string, api.Errno) {
	if e := c.look(line, "view"); e != api.OK {
		return nil, e
	}
	v := c.world.View()
	var out []string
	for i := range 2 {
		x := "off"
		if v.Up[i] {
			x = joined("up", number(v.Role[i]), number(v.State[i]), number(v.Conn[i]))
		}
		out = append(out, x)
	}
	holder := "nobody"
	if v.Grant >= 0 {
		holder = number(v.Grant)
	}
	return append(out, holder), api.OK
}

func tableText(t api.Reserve) string {
	out := []string{great(t.Gen), number(t.Type), number(t.Holder)}
	for _, key := range t.Keys {
		out = append(out, great(key))
	}
	return joined(out...)
}

func rowText(l []int) string {
	if len(l) == 0 {
		return "-"
	}
	var out []string
	for _, n := range l {
		out = append(out, number(n))
	}
	return strings.Join(out, ",")
}

// answerText is an answer as words.
func answerText(a api.Answer) string {
	part := command.Part(a)
	if e, ok := part.(api.Errno); ok {
		return refused(e)
	}
	switch x := part.(type) {
	case api.Block:
		return joined(fine, script.BlockText(x))
	case api.Reserve:
		return joined(fine, tableText(x))
	case []int:
		return joined(fine, rowText(x))
	}
	return fine
}

// callText is a call of the history.
func callText(x api.Call) string {
	text, _ := script.CommandText(x.Cmd)
	out := []string{great(x.Num), number(x.Node), text, number(x.From)}
	switch {
	case x.Done:
		out = append(out, number(x.To), answerText(x.Answer))
	case x.Gone >= 0:
		out = append(out, "gone", number(x.Gone))
	default:
		out = append(out, "waits")
	}
	return joined(out...)
}

func (c *Console) history(line string) ([]string, api.Errno) {
	if e := c.look(line, "history"); e != api.OK {
		return nil, e
	}
	var out []string
	for _, x := range c.world.History() {
		out = append(out, callText(x))
	}
	return out, api.OK
}

func (c *Console) net(line string) ([]string, api.Errno) {
	if e := c.look(line, "net"); e != api.OK {
		return nil, e
	}
	return []string{joined(number(len(c.world.Net())), number(c.world.Waiting()))}, api.OK
}

func (c *Console) blocks(line string) ([]string, api.Errno) {
	i, e := c.lookAt(line, "blocks")
	if e != api.OK {
		return nil, e
	}
	n := c.world.Node(i).Store().Blocks()
	if n == 0 {
		return []string{nothing}, api.OK
	}
	// The disk is looked at, not the store: that would be broken by a look that fails.
	first := store.Size(n) - n
	var out []string
	for at := range n {
		b, _ := c.world.Disk(i).Read(first + at)
		out = append(out, script.BlockText(b))
	}
	return out, api.OK
}

func (c *Console) table(line string) ([]string, api.Errno) {
	i, e := c.lookAt(line, "table")
	if e != api.OK {
		return nil, e
	}
	n := c.world.Node(i)
	if n == nil {
		return []string{nothing}, api.OK
	}
	return []string{tableText(n.Table())}, api.OK
}

func (c *Console) line(line string) ([]string, api.Errno) {
	i, e := c.lookAt(line, "line")
	if e != api.OK {
		return nil, e
	}
	s := c.world.Node(i).Store()
	if s == nil {
		return []string{nothing}, api.OK
	}
	x := s.Super()
	left := "left"
	if x.Crashed {
		left = "crashed"
	}
	l := x.Line
	return []string{joined(number(x.State), great(l.Current), great(l.Base), great(l.History[0]), great(l.History[1]), left, number(s.Map().Len()))}, api.OK
}

func (c *Console) tree(line string) ([]string, api.Errno) {
	if e := c.look(line, "tree"); e != api.OK {
		return nil, e
	}
	t, may := ghost.World(c.world)
	if !may {
		return []string{nothing}, api.OK
	}
	var out []string
	for g, parent := range t.All() {
		out = append(out, joined(great(g), great(parent)))
	}
	return out, api.OK
}

func (c *Console) judge(line string) ([]string, api.Errno) {
	if e := c.look(line, "judge"); e != api.OK {
		return nil, e
	}
	v := judge.All(c.world)
	var out []string
	for _, is := range [6]bool{v.Linear, v.One, v.Promotes, v.Firsts, v.Lines, v.Heals} {
		word := "wrong"
		if is {
			word = "right"
		}
		out = append(out, word)
	}
	return []string{joined(out...)}, api.OK
}
