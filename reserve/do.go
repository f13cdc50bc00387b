package reserve

import "gemel/api"

// doing is what an action does with a table that may be: the table then, and who was thrown out.
type doing = func(t api.Reserve, a api.Action) (api.Reserve, []int, api.Errno)

// ways is what an action does, by its kind.
func ways() map[api.ResKind]doing {
	return map[api.ResKind]doing{
		api.ResRegister: register,
		api.ResIgnore:   ignore,
		api.ResReserve:  hold,
		api.ResRelease:  release,
		api.ResClear:    wipe,
		api.ResPreempt:  preempt,
	}
}

// Do is the table behind an action, and who was thrown out.
func Do(t api.Reserve, a api.Action) (api.Reserve, []int, api.Errno) {
	do, known := ways()[a.Kind]
	if !May(t) || !known || !isWho(a.Who) {
		return api.Reserve{}, nil, api.ErrArg
	}
	then, out, e := do(t, a)
	if e == api.OK && (t.Gen > mostGen || then.Gen > mostGen) {
		e = api.ErrFull
	}
	if e != api.OK {
		return api.Reserve{}, nil, e
	}
	return then, out, api.OK
}

// reserved is the table with a reservation of who.
func reserved(t api.Reserve, who int, kind api.ResType) api.Reserve {
	t.Type, t.Holder = kind, who
	if byAll(kind) {
		t.Holder = 0
	}
	return t
}

// settled is the table without a reservation that nobody holds any more.
func settled(t api.Reserve) api.Reserve {
	if !May(t) {
		t.Type, t.Holder = 0, 0
	}
	return t
}

func register(t api.Reserve, a api.Action) (api.Reserve, []int, api.Errno) {
	if t.Keys[a.Who] != a.Key {
		return t, nil, api.ErrConflict
	}
	return ignore(t, a)
}

func ignore(t api.Reserve, a api.Action) (api.Reserve, []int, api.Errno) {
	t.Keys[a.Who] = a.New
	t.Gen++
	return settled(t), nil, api.OK
}

// known tells whether who is registered by the key that it names.
func known(t api.Reserve, a api.Action) bool {
	return registered(t, a.Who) && t.Keys[a.Who] == a.Key
}

func hold(t api.Reserve, a api.Action) (api.Reserve, []int, api.Errno) {
	switch {
	case !known(t, a):
		return t, nil, api.ErrConflict
	case !isType(a.Type):
		return t, nil, api.ErrArg
	case t.Type != 0 && (t.Type != a.Type || !holds(t, a.Who)):
		return t, nil, api.ErrConflict
	}
	return reserved(t, a.Who, a.Type), nil, api.OK
}

func release(t api.Reserve, a api.Action) (api.Reserve, []int, api.Errno) {
	switch {
	case !known(t, a):
		return t, nil, api.ErrConflict
	case !holds(t, a.Who):
		return t, nil, api.OK
	case t.Type != a.Type:
		return t, nil, api.ErrArg
	}
	t.Type, t.Holder = 0, 0
	return t, nil, api.OK
}

func wipe(t api.Reserve, a api.Action) (api.Reserve, []int, api.Errno) {
	if !known(t, a) {
		return t, nil, api.ErrConflict
	}
	return api.Reserve{Gen: t.Gen + 1}, nil, api.OK
}

// throw lets all but who, of those whom the choice takes, not be registered any more.
func throw(t api.Reserve, who int, takes func(key uint64) bool) (api.Reserve, []int) {
	var out []int
	for i, key := range t.Keys {
		if i != who && key != 0 && takes(key) {
			t.Keys[i] = 0
			out = append(out, i)
		}
	}
	return t, out
}

func has(t api.Reserve, key uint64) bool {
	for _, k := range t.Keys {
		if k == key {
			return true
		}
	}
	return false
}

func preempt(t api.Reserve, a api.Action) (api.Reserve, []int, api.Errno) {
	all := byAll(t.Type) && a.New == 0
	takesOver := all || t.Type != 0 && !byAll(t.Type) && t.Keys[t.Holder] == a.New
	switch {
	case !known(t, a):
		return t, nil, api.ErrConflict
	case takesOver && !isType(a.Type):
		return t, nil, api.ErrArg
	case a.New == 0 && !all:
		return t, nil, api.ErrArg
	case !all && !has(t, a.New):
		return t, nil, api.ErrConflict
	}
	then, out := throw(t, a.Who, func(key uint64) bool { return all || key == a.New })
	if takesOver {
		then = reserved(then, a.Who, a.Type)
	}
	then.Gen++
	return settled(then), out, api.OK
}
