package check

import (
	"seisin/api"
)

// needs is a set of fields that an instruction needs, of which Fn and Mode tell apart what they may hold.
type needs uint16

const (
	needDst needs = 1 << iota
	needLoc
	needA
	needB
	needSum       // Fn is what a move does
	needTest      // Fn is what a skip asks
	needLoadMode  // Mode is that of a load
	needStoreMode // Mode is that of a store
	needFenceMode // Mode is that of a fence
	needSkip

	needFn   = needSum | needTest
	needMode = needLoadMode | needStoreMode | needFenceMode
)

// opNeeds holds what each Op needs. An Op that needs nothing is none.
var opNeeds = [...]needs{
	api.OpLoad:  needDst | needLoc | needLoadMode,
	api.OpStore: needLoc | needA | needStoreMode,
	api.OpMove:  needDst | needA | needB | needSum,
	api.OpSwap:  needDst | needLoc | needA,
	api.OpFetch: needDst | needLoc | needA,
	api.OpCas:   needDst | needLoc | needA | needB,
	api.OpFence: needFenceMode,
	api.OpSkip:  needA | needB | needTest | needSkip,
}

// needsOf returns what an Op needs, which is nothing if it is none.
func needsOf(op uint8) needs {
	if int(op) >= len(opNeeds) {
		return 0
	}
	return opNeeds[op]
}

// has reports whether one of the fields is needed.
func (n needs) has(fields needs) bool {
	return n&fields != 0
}

// only returns an instruction with its Op and the fields that are needed.
func (n needs) only(x api.Ins) api.Ins {
	return api.Ins{
		Op:   x.Op,
		Dst:  keep(n.has(needDst), x.Dst),
		Loc:  keep(n.has(needLoc), x.Loc),
		A:    keep(n.has(needA), x.A),
		B:    keep(n.has(needB), x.B),
		Fn:   keep(n.has(needFn), x.Fn),
		Mode: keep(n.has(needMode), x.Mode),
		Skip: keep(n.has(needSkip), x.Skip),
	}
}

// keep returns v, or the zero value if v is not needed.
func keep[V any](needed bool, v V) (kept V) {
	if needed {
		kept = v
	}
	return kept
}

// Thread reports whether a thread is valid.
func Thread(ins []api.Ins, locs int) bool {
	if len(ins) > api.MaxIns {
		return false
	}
	c := checked{locs: locs}
	demands := c.demands()
	for i, x := range ins {
		c.Ins, c.after = x, len(ins)-1-i
		if !c.meets(demands) {
			return false
		}
	}
	return true
}

// checked is an instruction that is being checked.
type checked struct {
	api.Ins
	locs  int // the locations that there are
	after int // the instructions that follow
}

// demand is a condition of validity of the instructions that need a field.
type demand struct {
	field needs
	holds func() bool
}

// demands returns what must hold of the fields that the instruction needs, whichever instruction c then holds.
func (c *checked) demands() []demand {
	return []demand{
		{needDst, func() bool { return c.Dst < api.MaxRegs }},
		{needLoc, func() bool { return int(c.Loc) < c.locs }},
		{needA, func() bool { return isArg(c.A) }},
		{needB, func() bool { return isArg(c.B) }},
		{needSum, func() bool { return isOne(c.Fn, api.FnAdd, api.FnSub, api.FnXor) }},
		{needTest, func() bool { return isOne(c.Fn, api.FnEq, api.FnNe, api.FnLt) }},
		{needLoadMode, func() bool { return isOne(c.Mode, api.ModePlain, api.ModeAcquire) }},
		{needStoreMode, func() bool { return isOne(c.Mode, api.ModePlain, api.ModeRelease) }},
		{needFenceMode, func() bool { return isOne(c.Mode, api.ModeFull, api.ModeLoads, api.ModeStores) }},
		{needSkip, func() bool { return isCount(int(c.Skip), c.after) }},
	}
}

// meets reports whether the instruction uses exactly the fields that its Op needs, and these meet the demands.
func (c *checked) meets(demands []demand) bool {
	n := needsOf(c.Op)
	return n != 0 && c.Ins == n.only(c.Ins) &&
		all(demands, func(d demand) bool { return !n.has(d.field) || d.holds() })
}

// isArg reports whether an argument is a constant or a register that there is.
func isArg(a api.Arg) bool {
	return !a.Reg || a.N < api.MaxRegs
}
