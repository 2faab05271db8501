package check

import (
	"slices"

	"seisin/api"
)

// Fold removes dead code.
func Fold(p api.Prog) (api.Prog, api.Errno) {
	if e := Right(p); e != api.OK {
		return api.Prog{}, e
	}
	same := func(c api.Cond) api.Cond { return c }
	q := api.Prog{Name: p.Name, Locs: slices.Clone(p.Locs), Init: slices.Clone(p.Init), Ask: p.Ask, Cond: rebuilt(p.Cond, same)}
	for _, ins := range p.Threads {
		q.Threads = append(q.Threads, fold(ins))
	}
	return q, api.OK
}

// marked has a mark for each instruction of a thread, and one for its end.
type marked [api.MaxIns + 1]bool

// unmarked counts the instructions without a mark among those that the instruction at place i would skip.
func (m *marked) unmarked(i int, x api.Ins) uint8 {
	n := uint8(0)
	for _, mark := range m[i+1 : target(i, x)] {
		if !mark {
			n++
		}
	}
	return n
}

// fold returns a thread without its dead code.
func fold(ins []api.Ins) []api.Ins {
	gone := dead(ins)
	var kept []api.Ins
	for i, x := range ins {
		if !gone[i] {
			x.Skip = gone.unmarked(i, x)
			kept = append(kept, x)
		}
	}
	return kept
}

// dead marks what is to be removed from a thread.
//
// To look once at each instruction is enough. Whether a skip has nothing left to skip depends on later ones only, so these are looked at first. And a removal makes no other instruction unreachable: a skip that could be reached leads only to what then takes its place.
func dead(ins []api.Ins) marked {
	met := reachable(ins)
	var gone marked
	for i, x := range slices.Backward(ins) {
		gone[i] = !met[i] || x.Op == api.OpSkip && (!mayJump(x) || gone.unmarked(i, x) == 0)
	}
	return gone
}

// reachable marks what can be reached in a thread. Nothing leads back in it.
func reachable(ins []api.Ins) marked {
	met := marked{true}
	for i, x := range ins {
		if met[i] && mayStay(x) {
			met[i+1] = true
		}
		if met[i] && mayJump(x) {
			met[target(i, x)] = true
		}
	}
	return met
}

// target returns the place behind the instructions that the one at place i would skip.
func target(i int, x api.Ins) int {
	return i + 1 + int(x.Skip)
}

// mayStay reports whether an instruction may continue with its successor.
func mayStay(x api.Ins) bool {
	return x.Op != api.OpSkip || !isFixed(x) || !holds(x)
}

// mayJump reports whether an instruction may continue with its target.
func mayJump(x api.Ins) bool {
	return x.Op == api.OpSkip && (!isFixed(x) || holds(x))
}

// isFixed reports whether both arguments are constants.
func isFixed(x api.Ins) bool {
	return !x.A.Reg && !x.B.Reg
}

// holds reports whether the test of a skip holds for two constants.
func holds(x api.Ins) bool {
	switch x.Fn {
	case api.FnEq:
		return x.A.N == x.B.N
	case api.FnNe:
		return x.A.N != x.B.N
	}
	return x.A.N < x.B.N
}
