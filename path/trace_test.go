package path_test

import (
	"cmp"
	"maps"
	"slices"
	"testing"

	"seisin/api"
	"seisin/path"
)

// mixer gives numbers that look mixed up and are the same in every run.
type mixer uint64

func (x *mixer) below(n int) int {
	*x = *x*6364136223846793005 + 1442695040888963407
	return int(uint64(*x)>>33) % n
}

// ways are bounds of what a mixer chooses. The tighter they are, the more the instructions have to do with each other.
type ways struct {
	regs, locs, vals int
}

func (x *mixer) arg(w ways) api.Arg {
	if x.below(3) > 0 {
		return api.Arg{Reg: true, N: uint8(x.below(w.regs))}
	}
	return api.Arg{N: uint8(x.below(w.vals))}
}

// ins is a valid instruction ahead of so many others.
func (x *mixer) ins(w ways, after int) api.Ins {
	y := api.Ins{Op: uint8(1 + x.below(8)), Dst: uint8(x.below(w.regs)), Loc: uint8(x.below(w.locs)), A: x.arg(w), B: x.arg(w)}
	if y.Op == api.OpSkip && after == 0 {
		y.Op = api.OpFence
	}
	switch y.Op {
	case api.OpLoad:
		y.A, y.B, y.Mode = api.Arg{}, api.Arg{}, uint8(x.below(2))
	case api.OpStore:
		y.Dst, y.B, y.Mode = 0, api.Arg{}, uint8(2*x.below(2))
	case api.OpMove:
		y.Loc, y.Fn = 0, uint8(1+x.below(3))
	case api.OpSwap, api.OpFetch:
		y.B = api.Arg{}
	case api.OpFence:
		y = api.Ins{Op: api.OpFence, Mode: uint8(3 + x.below(3))}
	case api.OpSkip:
		y.Dst, y.Loc, y.Fn, y.Skip = 0, 0, uint8(4+x.below(3)), uint8(1+x.below(after))
	}
	return y
}

// thread is a valid thread of n instructions.
func (x *mixer) thread(w ways, n int) []api.Ins {
	var l []api.Ins
	for i := range n {
		l = append(l, x.ins(w, n-1-i))
	}
	return l
}

func (x *mixer) bytes(w ways, n int) []uint8 {
	var l []uint8
	for range n {
		l = append(l, uint8(x.below(w.vals)))
	}
	return l
}

// step is an instruction that was executed, the value that it read, and the number of events ahead of it.
type step struct {
	api.Ins
	got uint8
	pos uint8
}

type sources map[uint8]bool

func joined(l ...sources) sources {
	r := sources{}
	for _, s := range l {
		maps.Copy(r, s)
	}
	return r
}

// worth is the value of an argument after the steps, and the reads on which it depends. It goes back to the step that set the register.
func worth(steps []step, a api.Arg) (uint8, sources) {
	if !a.Reg {
		return a.N, nil
	}
	for k, s := range slices.Backward(steps) {
		if s.Dst != a.N || !slices.Contains([]uint8{api.OpLoad, api.OpMove, api.OpSwap, api.OpFetch, api.OpCas}, s.Op) {
			continue
		}
		if s.Op != api.OpMove {
			return s.got, sources{s.pos: true}
		}
		v, of := worth(steps[:k], s.A)
		w, by := worth(steps[:k], s.B)
		return map[uint8]uint8{api.FnAdd: v + w, api.FnSub: v - w, api.FnXor: v ^ w}[s.Fn], joined(of, by)
	}
	return 0, nil
}

// trace is a path that is written down as the chapter's tables have it, with its pairs as a set.
type trace struct {
	api.Path
	pairs [3]map[[2]uint8]bool // data, ctrl and rmw
	steps []step
	tests sources
}

func (r *trace) note(i int, kind, loc, val, mode uint8, depends ...sources) {
	pos := uint8(len(r.Events))
	r.Events = append(r.Events, api.Event{Kind: kind, Loc: loc, Val: val, Mode: mode, Ins: uint8(i), Pos: pos})
	depends = append(depends, make([]sources, 3-len(depends))...)
	depends[1] = joined(depends[1], r.tests)
	for k, l := range depends {
		for read := range l {
			if r.pairs[k] == nil {
				r.pairs[k] = map[[2]uint8]bool{}
			}
			r.pairs[k][[2]uint8{read, pos}] = true
		}
	}
}

// do executes the instruction at place i and says how many of the next ones are skipped.
func (r *trace) do(i int, x api.Ins, got uint8) int {
	s := step{Ins: x, got: got, pos: uint8(len(r.Events))}
	a, of := worth(r.steps, x.A)
	b, by := worth(r.steps, x.B)
	own := sources{s.pos: true}
	r.steps = append(r.steps, s)
	mode := x.Mode
	if x.Op == api.OpSwap || x.Op == api.OpFetch || x.Op == api.OpCas {
		mode = api.ModeFull
	}
	if isRead(x) {
		r.note(i, api.EvRead, x.Loc, got, mode)
	}
	switch {
	case x.Op == api.OpStore:
		r.note(i, api.EvWrite, x.Loc, a, mode, of)
	case x.Op == api.OpSwap:
		r.note(i, api.EvWrite, x.Loc, a, mode, of, nil, own)
	case x.Op == api.OpFetch:
		r.note(i, api.EvWrite, x.Loc, got+a, mode, joined(of, own), nil, own)
	case x.Op == api.OpCas && got == a:
		r.note(i, api.EvWrite, x.Loc, b, mode, by, joined(of, own), own)
	case x.Op == api.OpFence:
		r.note(i, api.EvFence, 0, 0, mode)
	case x.Op == api.OpSkip:
		r.tests = joined(r.tests, of, by)
		if map[uint8]bool{api.FnEq: a == b, api.FnNe: a != b, api.FnLt: a < b}[x.Fn] {
			return int(x.Skip)
		}
	}
	return 0
}

func isRead(x api.Ins) bool {
	return slices.Contains([]uint8{api.OpLoad, api.OpSwap, api.OpFetch, api.OpCas}, x.Op)
}

// traced is what Follow should answer for a valid thread.
func traced(ins []api.Ins, reads []uint8) (api.Path, bool, api.Errno) {
	var r trace
	for i := 0; i < len(ins); i++ {
		got := uint8(0)
		if isRead(ins[i]) {
			if len(reads) == 0 {
				return api.Path{}, true, api.OK
			}
			got, reads = reads[0], reads[1:]
		}
		i += r.do(i, ins[i], got)
	}
	if len(reads) > 0 {
		return api.Path{}, false, api.ErrMany
	}
	for k, l := range []*[][2]uint8{&r.Data, &r.Ctrl, &r.Rmw} {
		*l = slices.SortedFunc(maps.Keys(r.pairs[k]), func(a, b [2]uint8) int {
			return cmp.Or(cmp.Compare(a[1], b[1]), cmp.Compare(a[0], b[0]))
		})
	}
	for n := range r.Regs {
		r.Regs[n], _ = worth(r.steps, api.Arg{Reg: true, N: uint8(n)})
	}
	return r.Path, false, api.OK
}

// holdTrace holds Follow against the trace, and says what it answers.
func holdTrace(t *testing.T, ins []api.Ins, reads []uint8) (api.Path, bool, api.Errno) {
	t.Helper()
	p, more, e := path.Follow(ins, reads)
	q, more2, e2 := traced(ins, reads)
	if !samePath(p, q) || more != more2 || e != e2 {
		t.Fatalf("%v with %v: %s, %v, %d, want %s, %v, %d", ins, reads, shown(p), more, e, shown(q), more2, e2)
	}
	return p, more, e
}

// all enumerates all lists of n of the elements.
func all[V any](l []V, n int, use func([]V)) {
	if n == 0 {
		use(nil)
		return
	}
	all(l, n-1, func(rest []V) {
		for _, v := range l {
			use(append(slices.Clone(rest), v))
		}
	})
}

// P8.1: all threads of up to three of some instructions, with all short lists of reads.
func TestFollowSmall(t *testing.T) {
	l := thread(t, "r0 = x", "r1 = y acq", "x = r0", "y = 1 rel", "r0 = r0 + r1", "r1 = r0 - 1", "r0 = 1 + 1", "r1 = swap x r1", "r0 = fetch x r1", "r0 = cas x r0 r1", "r1 = cas y 1 r0", "fence", "skip 1 if r0 == r1", "skip 1 if r1 < 1", "skip 2 if r0 != 0")
	known := map[[2]any]int{}
	for n := range 4 {
		all(l, n, func(ins []api.Ins) {
			for i, x := range ins {
				if int(x.Skip) > n-1-i {
					return
				}
			}
			for many := range 4 {
				all([]uint8{0, 1}, many, func(reads []uint8) {
					_, more, e := holdTrace(t, ins, reads)
					known[[2]any{more, e}]++
				})
			}
		})
	}
	if known[[2]any{false, api.OK}] < 4000 || known[[2]any{true, api.OK}] < 4000 || known[[2]any{false, api.ErrMany}] < 4000 {
		t.Error(known)
	}
}

// P8.1, P8.4: mixed threads of any length. What is read first decides what happens first, and nothing else does.
func TestFollowMixed(t *testing.T) {
	longest := 0
	for n := range 30000 {
		x := mixer(n)
		w := []ways{{8, 6, 256}, {3, 2, 2}, {2, 1, 3}}[n%3]
		ins := x.thread(w, x.below(13))
		reads := x.bytes(w, 12)
		for k := range 13 {
			if p, more, e := holdTrace(t, ins, reads[:k]); e == api.OK && !more {
				longest = max(longest, k)
				holdBackward(t, ins, reads[:k], p)
				holdBegin(t, ins, &x, p)
			}
		}
	}
	if longest < 10 {
		t.Error(longest)
	}
}

// holdBackward holds what follows for every path: it reads what it was given, and events depend on earlier reads.
func holdBackward(t *testing.T, ins []api.Ins, reads []uint8, p api.Path) {
	t.Helper()
	if !slices.Equal(path.Reads(p), reads) {
		t.Fatal(ins, reads, shown(p))
	}
	for _, l := range [][][2]uint8{p.Data, p.Ctrl, p.Rmw} {
		for i, pair := range l {
			if pair[0] >= pair[1] || p.Events[pair[0]].Kind != api.EvRead || i > 0 && cmp.Or(cmp.Compare(l[i-1][1], pair[1]), cmp.Compare(l[i-1][0], pair[0])) >= 0 {
				t.Fatal(ins, reads, shown(p))
			}
		}
	}
	for _, pair := range slices.Concat(p.Data, p.Rmw) {
		if p.Events[pair[1]].Kind != api.EvWrite {
			t.Fatal(ins, reads, shown(p))
		}
	}
}

// holdBegin holds a path against another one whose reads begin in the same way: up to the first that differs they are the same.
func holdBegin(t *testing.T, ins []api.Ins, x *mixer, p api.Path) {
	t.Helper()
	reads := path.Reads(p)
	if len(reads) == 0 {
		return
	}
	same := x.below(len(reads))
	other := append(slices.Clone(reads[:same]), reads[same]+1+uint8(x.below(255)))
	q, more, _ := path.Follow(ins, other)
	for more {
		other = append(other, uint8(x.below(256)))
		q, more, _ = path.Follow(ins, other)
	}
	differ, met := 0, 0
	for i, e := range p.Events {
		if e.Kind == api.EvRead && met == same {
			differ = i
		}
		if e.Kind == api.EvRead {
			met++
		}
	}
	if !samePath(upTo(p, differ), upTo(q, differ)) || q.Events[differ].Val != other[same] {
		t.Fatal(ins, shown(p), shown(q))
	}
	p.Events[differ].Val = other[same]
	if p.Events[differ] != q.Events[differ] {
		t.Fatal(ins, shown(p), shown(q))
	}
}

// upTo is what a path has of its first n events, and the dependencies of the next one.
func upTo(p api.Path, n int) api.Path {
	cut := func(l [][2]uint8) [][2]uint8 {
		return slices.DeleteFunc(slices.Clone(l), func(pair [2]uint8) bool { return int(pair[1]) > n })
	}
	return api.Path{Events: p.Events[:n], Data: cut(p.Data), Ctrl: cut(p.Ctrl), Rmw: cut(p.Rmw)}
}
