package ring

import (
	"cmp"
	"math"
	"slices"

	"tidewrack/api"
	"tidewrack/order"
)

// members are those of a ring that may be, in memory of their own. Each change is a method of them.
type members []api.Member

// changed takes a change as a method expression: what may be changed, and that nothing of r is, is the same for all.
func changed(r api.Ring, id int, change func(members, int) (members, api.Errno)) (api.Ring, api.Errno) {
	if !mayBe(r) || r.Epoch == math.MaxUint64 || !isID(id) {
		return api.Ring{}, api.ErrRingForm
	}
	ms, e := change(copied(r.Members), id)
	if e != api.OK {
		return api.Ring{}, e
	}
	return api.Ring{Epoch: r.Epoch + 1, Members: ms}, api.OK
}

func copied(ms members) members {
	out := slices.Clone(ms)
	for i, m := range out {
		out[i].Tokens = slices.Clone(m.Tokens)
	}
	return out
}

func (ms members) join(id int) (members, api.Errno) {
	at, found := find(ms, id)
	if found {
		return nil, api.ErrRingMember
	}
	return slices.Insert(ms, at, api.Member{ID: id, State: api.RingJoin, Tokens: Tokens(id)}), api.OK
}

func (ms members) activate(id int) (members, api.Errno) {
	return ms.turn(id, api.RingJoin, api.RingActive)
}

func (ms members) leave(id int) (members, api.Errno) {
	return ms.turn(id, api.RingActive, api.RingLeave)
}

func (ms members) gone(id int) (members, api.Errno) {
	at, e := ms.in(id, api.RingLeave)
	if e != api.OK {
		return nil, e
	}
	return slices.Delete(ms, at, at+1), api.OK
}

func (ms members) turn(id int, from int, to int) (members, api.Errno) {
	at, e := ms.in(id, from)
	if e != api.OK {
		return nil, e
	}
	ms[at].State = to
	return ms, api.OK
}

// in is the place of a member that is in that state.
func (ms members) in(id int, state int) (int, api.Errno) {
	at, found := find(ms, id)
	if !found {
		return 0, api.ErrRingMember
	}
	if ms[at].State != state {
		return 0, api.ErrRingState
	}
	return at, api.OK
}

// find is the place of a member, or that in which it would stand.
func find(ms members, id int) (int, bool) {
	return slices.BinarySearchFunc(ms, id, func(m api.Member, id int) int { return cmp.Compare(m.ID, id) })
}

func mayBe(r api.Ring) bool {
	for i, m := range r.Members {
		if !memberMayBe(m) || i > 0 && r.Members[i-1].ID >= m.ID {
			return false
		}
	}
	return true
}

func memberMayBe(m api.Member) bool {
	return isID(m.ID) && isState(m.State) && len(m.Tokens) >= 1 && len(m.Tokens) <= api.MaxTokens && order.Rising(m.Tokens)
}

func isID(id int) bool {
	return id >= 0 && id < api.MaxIngest
}

func isState(state int) bool {
	return state == api.RingJoin || state == api.RingActive || state == api.RingLeave
}
