package verify

import (
	"gemel/api"
	"gemel/resync"
	"gemel/store"
)

// Carry lets another store answer, so often at most: how many answers came?
func Carry(v *Verify, other *store.Store, most int) (int, api.Errno) {
	if v.none() || other.Blocks() == 0 {
		return 0, api.ErrNil
	}
	came := 0
carry:
	for came < most {
		l, e := v.Asks()
		if e != api.OK {
			return 0, e
		}
		if len(l) == 0 {
			break
		}
		for _, ask := range l {
			if came == most {
				break carry
			}
			m, e := resync.Same(other, ask)
			if e != api.OK {
				return 0, e
			}
			v.Take(m)
			came++
		}
	}
	return came, api.OK
}

// pair tells whether there are two stores, of one number of blocks.
func pair(a, b *store.Store) api.Errno {
	switch {
	case a.Blocks() == 0 || b.Blocks() == 0:
		return api.ErrNil
	case a.Blocks() != b.Blocks():
		return api.ErrArg
	}
	return api.OK
}

// Both verifies all blocks of a store beside another one: those that were found.
func Both(a, b *store.Store, window int) ([]int, api.Errno) {
	if e := pair(a, b); e != api.OK {
		return nil, e
	}
	v, e := New(a, 0, a.Blocks(), window)
	if e == api.OK {
		_, e = Carry(v, b, a.Blocks())
	}
	if e != api.OK {
		return nil, e
	}
	return v.Found(), api.OK
}

// Differ are the blocks whose bytes are not the same.
func Differ(a, b *store.Store) ([]int, api.Errno) {
	if e := pair(a, b); e != api.OK {
		return nil, e
	}
	var same []bool
	for i := range a.Blocks() {
		x, e := a.Read(i)
		if e != api.OK {
			return nil, e
		}
		y, e := b.Read(i)
		if e != api.OK {
			return nil, e
		}
		same = append(same, x == y)
	}
	return row(same, 0, func(is bool) bool { return !is }), api.OK
}

// Mend makes a store's marked blocks another one's: how many were written?
func Mend(a, b *store.Store, window int, digests bool) (int, api.Errno) {
	if e := pair(a, b); e != api.OK {
		return 0, e
	}
	t, e := resync.New(a, window, digests)
	if e != api.OK {
		return 0, e
	}
	wrote := 0
	for !t.Done() {
		l, e := t.Asks()
		if e != api.OK {
			return 0, e
		}
		for _, ask := range l {
			m, e := resync.Answer(b, ask)
			if e != api.OK {
				return 0, e
			}
			if _, e := t.Take(m); e != api.OK {
				return 0, e
			}
			if !m.Yes {
				wrote++
			}
		}
	}
	return wrote, api.OK
}
