package path

import (
	"math/bits"

	"seisin/api"
)

// run is the execution of a thread, as far as it has come.
type run struct {
	api.Path
	left   []uint8              // the values that the next reads return
	more   bool                 // whether a read found no value left
	at     int                  // the index of the instruction
	from   [api.MaxRegs]api.Set // the reads on which each register depends
	tested api.Set              // the reads on which the skips depend
}

// value is a value and the reads on which it depends.
type value struct {
	n    uint8
	from api.Set
}

// effects returns what each operation does.
func effects() [api.OpSkip + 1]func(*run, api.Ins) {
	return [...]func(*run, api.Ins){
		api.OpLoad:  (*run).load,
		api.OpStore: (*run).store,
		api.OpMove:  (*run).move,
		api.OpSwap:  (*run).swap,
		api.OpFetch: (*run).fetch,
		api.OpCas:   (*run).cas,
		api.OpFence: (*run).fence,
		api.OpSkip:  (*run).skip,
	}
}

// follow executes a valid thread to its end, or up to the instruction whose read finds no value left. That one goes on as if it had read a value, so the path must not be handed out then.
func (r *run) follow(ins []api.Ins) {
	does := effects()
	for r.at < len(ins) && !r.more {
		x := ins[r.at]
		does[x.Op](r, x)
		r.at++
	}
}

func (r *run) load(x api.Ins) {
	r.set(x.Dst, r.read(x.Loc, x.Mode))
}

func (r *run) store(x api.Ins) {
	r.write(api.Event{Loc: x.Loc, Mode: x.Mode}, r.value(x.A), 0)
}

func (r *run) move(x api.Ins) {
	a, b := r.value(x.A), r.value(x.B)
	r.set(x.Dst, value{computed(x.Fn, a.n, b.n), a.from | b.from})
}

func (r *run) swap(x api.Ins) {
	a := r.value(x.A)
	old := r.read(x.Loc, api.ModeFull)
	r.replace(x.Loc, a, 0)
	r.set(x.Dst, old)
}

func (r *run) fetch(x api.Ins) {
	a := r.value(x.A)
	old := r.read(x.Loc, api.ModeFull)
	r.replace(x.Loc, value{old.n + a.n, old.from | a.from}, 0)
	r.set(x.Dst, old)
}

func (r *run) cas(x api.Ins) {
	a, b := r.value(x.A), r.value(x.B)
	old := r.read(x.Loc, api.ModeFull)
	if old.n == a.n {
		r.replace(x.Loc, b, old.from|a.from)
	}
	r.set(x.Dst, old)
}

func (r *run) fence(x api.Ins) {
	r.add(api.Event{Kind: api.EvFence, Mode: x.Mode}, 0, 0)
}

func (r *run) skip(x api.Ins) {
	a, b := r.value(x.A), r.value(x.B)
	r.tested |= a.from | b.from
	if holds(x.Fn, a.n, b.n) {
		r.at += int(x.Skip)
	}
}

// value returns the value of an argument.
func (r *run) value(a api.Arg) value {
	if a.Reg {
		return value{r.Regs[a.N], r.from[a.N]}
	}
	return value{n: a.N}
}

// set changes a register.
func (r *run) set(dst uint8, v value) {
	r.Regs[dst], r.from[dst] = v.n, v.from
}

// read adds a read and returns its value, which depends on nothing but that read.
func (r *run) read(loc, mode uint8) value {
	if len(r.left) == 0 {
		r.more = true
		return value{}
	}
	v := value{r.left[0], 1 << len(r.Events)}
	r.left = r.left[1:]
	r.add(api.Event{Kind: api.EvRead, Loc: loc, Val: v.n, Mode: mode}, 0, 0)
	return v
}

// write adds a write of v to the location and with the mode of e, which happens only because of the reads in ctrl.
func (r *run) write(e api.Event, v value, ctrl api.Set) {
	e.Kind, e.Val = api.EvWrite, v.n
	r.add(e, v.from, ctrl)
}

// replace adds the write of an atomic instruction right after its read.
func (r *run) replace(loc uint8, v value, ctrl api.Set) {
	pos := uint8(len(r.Events))
	r.Rmw = append(r.Rmw, [2]uint8{pos - 1, pos})
	r.write(api.Event{Loc: loc, Mode: api.ModeFull}, v, ctrl)
}

// add adds an event that has the dependencies given, beside those on the reads of skips.
func (r *run) add(e api.Event, data, ctrl api.Set) {
	e.Ins, e.Pos = uint8(r.at), uint8(len(r.Events))
	r.Events = append(r.Events, e)
	r.Data = withPairs(r.Data, data, e.Pos)
	r.Ctrl = withPairs(r.Ctrl, ctrl|r.tested, e.Pos)
}

// withPairs returns l and behind it the pairs of each read, in increasing order, and an event.
func withPairs(l [][2]uint8, reads api.Set, pos uint8) [][2]uint8 {
	for rest := reads; rest != 0; rest &= rest - 1 {
		l = append(l, [2]uint8{uint8(bits.TrailingZeros64(uint64(rest))), pos})
	}
	return l
}

// computed returns what a move makes of two values.
func computed(fn, a, b uint8) uint8 {
	switch fn {
	case api.FnAdd:
		return a + b
	case api.FnSub:
		return a - b
	}
	return a ^ b
}

// holds reports whether the test of a skip holds for two values.
func holds(fn, a, b uint8) bool {
	switch fn {
	case api.FnEq:
		return a == b
	case api.FnNe:
		return a != b
	}
	return a < b
}
