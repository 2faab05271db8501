package cand_test

import (
	"reflect"
	"slices"
	"testing"

	"seisin/api"
	"seisin/cand"
	"seisin/parse"
	"seisin/path"
)

// relation is the relation of the pairs that are in it.
func relation(n int, in func(a, b int) bool) api.Rel {
	r := api.Rel{N: n}
	for a := range n {
		for b := range n {
			if in(a, b) {
				r.To[a] |= 1 << b
			}
		}
	}
	return r
}

// selected is what is chosen for a candidate: the number of each thread's path, the source of each read by index, and the order of each location's writes.
type selected struct {
	numbers, from []int
	orders        [][]int
}

// compare has the candidates in the chapter's order.
func compare(a, b selected) int {
	flat := func(s selected) []int {
		return slices.Concat(append([][]int{s.numbers, s.from}, s.orders...)...)
	}
	return slices.Compare(flat(a), flat(b))
}

// eventsOf are the events of a program whose threads take the paths.
func eventsOf(p api.Prog, paths []api.Path) []api.Event {
	var l []api.Event
	for loc, v := range p.Init {
		l = append(l, api.Event{Thread: api.Init, Kind: api.EvWrite, Loc: uint8(loc), Val: v})
	}
	for t, q := range paths {
		for _, e := range q.Events {
			e.Thread = t
			l = append(l, e)
		}
	}
	return l
}

// built is the candidate that a choice stands for, by the definitions of the relations.
func built(p api.Prog, paths []api.Path, s selected) api.Exec {
	x := api.Exec{Events: eventsOf(p, paths)}
	n := len(x.Events)
	both := func(a, b int) bool {
		return x.Events[a].Thread != api.Init && x.Events[a].Thread == x.Events[b].Thread
	}
	depends := func(pairs func(api.Path) [][2]uint8) api.Rel {
		return relation(n, func(a, b int) bool {
			return both(a, b) && slices.Contains(pairs(paths[x.Events[a].Thread]), [2]uint8{x.Events[a].Pos, x.Events[b].Pos})
		})
	}
	x.Po = relation(n, func(a, b int) bool { return both(a, b) && x.Events[a].Pos < x.Events[b].Pos })
	x.Data = depends(func(q api.Path) [][2]uint8 { return q.Data })
	x.Ctrl = depends(func(q api.Path) [][2]uint8 { return q.Ctrl })
	x.Rmw = depends(func(q api.Path) [][2]uint8 { return q.Rmw })
	source := map[int]int{}
	for i, e := range x.Events {
		if e.Kind == api.EvRead {
			source[i] = s.from[len(source)]
		}
	}
	x.Rf = relation(n, func(a, b int) bool { w, is := source[b]; return is && w == a })
	x.Co = relation(n, func(a, b int) bool {
		return slices.ContainsFunc(s.orders, func(l []int) bool {
			i, k := slices.Index(l, a), slices.Index(l, b)
			return i >= 0 && i < k
		})
	})
	for t, q := range paths {
		x.Final.Regs[t] = q.Regs
	}
	for loc, l := range s.orders {
		x.Final.Mem[loc] = x.Events[l[len(l)-1]].Val
	}
	return x
}

// orderings are all orders of a list whose first element stays first, found by putting each element anywhere behind it.
func orderings(l []int) [][]int {
	if len(l) == 1 {
		return [][]int{{l[0]}}
	}
	var all [][]int
	for _, o := range orderings(l[:len(l)-1]) {
		for at := len(o); at > 0; at-- {
			all = append(all, slices.Insert(slices.Clone(o), at, l[len(l)-1]))
		}
	}
	return all
}

// product calls use with each list that has an element of every list.
func product[V any](lists [][]V, use func([]V)) {
	if len(lists) == 0 {
		use(nil)
		return
	}
	last := len(lists) - 1
	for _, v := range slices.Backward(lists[last]) {
		product(lists[:last], func(l []V) { use(append(slices.Clone(l), v)) })
	}
}

// selections are the choices that candidates with these events have, of sources and orders alone. It says whether they fit.
func selections(events []api.Event, locs, most int) (l []selected, fits bool) {
	writes := make([][]int, locs)
	for i, e := range events {
		if e.Kind == api.EvWrite {
			writes[e.Loc] = append(writes[e.Loc], i)
		}
	}
	var sources [][]int
	many := 1.0 // a float, for it may be far beyond any integer
	for _, e := range events {
		if e.Kind != api.EvRead {
			continue
		}
		var from []int
		for _, w := range writes[e.Loc] {
			if events[w].Val == e.Val {
				from = append(from, w)
			}
		}
		sources = append(sources, from)
		many *= float64(len(from))
	}
	for _, w := range writes {
		for k := range len(w) {
			many *= float64(max(k, 1))
		}
	}
	if many == 0 || many > float64(most) {
		return nil, many == 0
	}
	var orders [][][]int
	for _, w := range writes {
		orders = append(orders, orderings(w))
	}
	product(orders, func(o [][]int) {
		product(sources, func(from []int) { l = append(l, selected{from: from, orders: slices.Clone(o)}) })
	})
	return l, true
}

// searched are the candidates of a program, found in another order and then sorted. It says whether they fit.
func searched(t *testing.T, p api.Prog, most int) ([]api.Exec, bool) {
	t.Helper()
	values, e := path.Values(p, 16)
	if e != api.OK {
		return nil, false
	}
	var threads [][]api.Path
	var numbers [][]int
	mixed := 1
	for _, ins := range p.Threads {
		l, e := path.Paths(ins, values, api.MaxPaths)
		if e != api.OK {
			t.Fatal(ins, e)
		}
		threads, numbers = append(threads, l), append(numbers, nil)
		for i := range l {
			numbers[len(numbers)-1] = append(numbers[len(numbers)-1], i)
		}
		mixed *= len(l)
	}
	if mixed > api.MaxMixed {
		return nil, false
	}
	var found []selected
	fits := true
	taken := func(l []int) (paths []api.Path) {
		for t, i := range l {
			paths = append(paths, threads[t][i])
		}
		return paths
	}
	product(numbers, func(l []int) {
		events := eventsOf(p, taken(l))
		some, ok := selections(events, len(p.Locs), most)
		fits = fits && ok && len(events) <= api.MaxItems
		for _, s := range some {
			found = append(found, selected{l, s.from, s.orders})
		}
	})
	if !fits || len(found) > most {
		return nil, false
	}
	slices.SortFunc(found, compare)
	var all []api.Exec
	for _, s := range found {
		all = append(all, built(p, taken(s.numbers), s))
	}
	return all, true
}

// holdSearch holds Cands against the search, with limits around what there is, and returns the candidates if they are not more than most.
func holdSearch(t *testing.T, p api.Prog, most int) []api.Exec {
	t.Helper()
	want, fits := searched(t, p, most)
	if !fits {
		holdError(t, p, most, api.ErrMany)
		return nil
	}
	for _, limit := range []int{len(want), most} {
		l, e := cand.Cands(p, limit)
		if e != api.OK || len(l) != len(want) {
			t.Fatal(p, limit, len(l), e, len(want))
		}
		for i, x := range l {
			if !reflect.DeepEqual(x, want[i]) || !cand.Same(x, want[i]) || !cand.Right(x) {
				t.Fatalf("%v: %d of %d\n%s\nwant\n%s", p, i, len(l), shown(x), shown(want[i]))
			}
		}
	}
	if len(want) > 0 {
		holdError(t, p, len(want)-1, api.ErrMany)
	}
	return want
}

// P9.1, P9.2: all programs of two threads of up to two of some instructions, every other one with a third thread.
func TestCandsSmall(t *testing.T) {
	t.Parallel()
	var pool []api.Ins
	for _, s := range []string{"r0 = x", "r1 = y acq", "x = r0", "x = 1", "y = r1 rel", "r0 = swap x 1", "r1 = cas y 0 1", "fence", "skip 1 if r0 == r1"} {
		x, _, e := parse.Line(s, names...)
		if e != api.OK {
			t.Fatal(s, e)
		}
		pool = append(pool, x)
	}
	var threads [][]api.Ins
	for n := range 3 {
		product(slices.Repeat([][]api.Ins{pool}, n), func(l []api.Ins) {
			if n == 0 || l[n-1].Op != api.OpSkip {
				threads = append(threads, l)
			}
		})
	}
	third := []api.Ins{{Op: api.OpStore, Loc: 1, A: api.Arg{N: 1}}}
	counts := map[int]bool{}
	for i, a := range threads {
		for k, b := range threads {
			p := api.Prog{Name: "a", Locs: names[:2], Init: []uint8{0, 0}, Threads: [][]api.Ins{a, b, third}[:2+(i+k)%2], Ask: api.AskAll}
			counts[len(holdSearch(t, p, 100))] = true
		}
	}
	if len(counts) < 20 {
		t.Error(counts)
	}
}

// mixer gives numbers that look mixed up and are the same in every run.
type mixer uint64

func (x *mixer) below(n int) int {
	*x = *x*6364136223846793005 + 1442695040888963407
	return int(uint64(*x)>>33) % n
}

// arg is a register or a value, of which there are few.
func (x *mixer) arg() api.Arg {
	return api.Arg{Reg: x.below(2) == 0, N: uint8(x.below(2))}
}

// ins is a valid instruction ahead of so many others.
func (x *mixer) ins(locs, after int) api.Ins {
	y := api.Ins{Op: uint8(1 + x.below(8)), Dst: uint8(x.below(2)), Loc: uint8(x.below(locs)), A: x.arg(), B: x.arg()}
	if y.Op == api.OpSkip && after == 0 {
		y.Op = api.OpFence
	}
	switch y.Op {
	case api.OpLoad:
		y.A, y.B, y.Mode = api.Arg{}, api.Arg{}, uint8(x.below(2))
	case api.OpStore:
		y.Dst, y.B, y.Mode = 0, api.Arg{}, uint8(2*x.below(2))
	case api.OpMove:
		y.Loc, y.Fn = 0, uint8(1+x.below(3))
	case api.OpSwap, api.OpFetch:
		y.B = api.Arg{}
	case api.OpFence:
		y = api.Ins{Op: api.OpFence, Mode: uint8(3 + x.below(3))}
	case api.OpSkip:
		y.Dst, y.Loc, y.Fn, y.Skip = 0, 0, uint8(4+x.below(3)), uint8(1+x.below(after))
	}
	return y
}

// program is a valid program, whose threads have fewer instructions than the number.
func (x *mixer) program(long int) api.Prog {
	locs := 1 + x.below(4)
	p := api.Prog{Name: "a", Locs: slices.Clone(names[:locs]), Ask: api.AskNone}
	for range locs {
		p.Init = append(p.Init, uint8(x.below(2)))
	}
	for range 1 + x.below(4) {
		var ins []api.Ins
		n := x.below(long)
		for i := range n {
			ins = append(ins, x.ins(locs, n-1-i))
		}
		p.Threads = append(p.Threads, ins)
	}
	return p
}

// P9.1, P9.2: mixed programs.
func TestCandsMixedUp(t *testing.T) {
	t.Parallel()
	known, most := map[bool]int{}, 0
	for n := range 1200 {
		x := mixer(n)
		l := holdSearch(t, x.program([]int{4, 5, 7}[n%3]), 150)
		known[l != nil]++
		most = max(most, len(l))
	}
	if known[true] < 700 || known[false] < 100 || most < 140 {
		t.Error(known, most)
	}
}

// key is an execution as a value that can be the key of a map.
type key struct {
	events [api.MaxItems]api.Event
	rels   [6]api.Rel
	final  api.Final
}

func keyOf(x api.Exec) key {
	k := key{final: x.Final}
	copy(k.events[:], x.Events)
	rels, _ := relations(&x)
	for i, r := range rels {
		k.rels[i] = *r
	}
	return k
}

// P9.3: no two candidates are equal, each thread does what it does by itself, and what a candidate chooses can be chosen anew, one thing at a time.
func TestCandsIndependent(t *testing.T) {
	t.Parallel()
	others := 0
	for n := range 600 {
		x := mixer(n)
		p := x.program([]int{4, 6, 8}[n%3])
		l, e := cand.Cands(p, 150)
		if e != api.OK {
			continue
		}
		met := map[key]bool{}
		for _, x := range l {
			met[keyOf(x)] = true
		}
		if len(met) != len(l) {
			t.Fatal(p, len(met), len(l))
		}
		for _, x := range l {
			holdThreads(t, p, x)
			for _, y := range slices.Concat(otherSources(x), otherOrders(x)) {
				others++
				if !met[keyOf(y)] || !cand.Right(y) || cand.Same(x, y) {
					t.Fatalf("%v\n%s\n%s", p, shown(x), shown(y))
				}
			}
		}
	}
	if others < 10000 {
		t.Error(others)
	}
}

// holdThreads holds each thread of a candidate against its path for the values that it reads.
func holdThreads(t *testing.T, p api.Prog, x api.Exec) {
	t.Helper()
	for n, ins := range p.Threads {
		var own []api.Event
		var reads []uint8
		for _, e := range x.Events {
			if e.Thread != n {
				continue
			}
			if e.Kind == api.EvRead {
				reads = append(reads, e.Val)
			}
			e.Thread = 0
			own = append(own, e)
		}
		if q, more, e := path.Follow(ins, reads); more || e != api.OK || !slices.Equal(own, q.Events) || x.Final.Regs[n] != q.Regs {
			t.Fatal(ins, reads, q, shown(x))
		}
	}
}

// otherSources are the executions in which one read reads from another write of the same value.
func otherSources(x api.Exec) (l []api.Exec) {
	for i, r := range x.Events {
		for w, e := range x.Events {
			if r.Kind == api.EvRead && e.Kind == api.EvWrite && e.Loc == r.Loc && e.Val == r.Val && !has(&x.Rf, w, i) {
				y := x
				y.Rf = relation(x.Rf.N, func(a, b int) bool { return b == i && a == w || b != i && has(&x.Rf, a, b) })
				l = append(l, y)
			}
		}
	}
	return l
}

// otherOrders are the executions in which two writes of a location that are next to each other have changed places.
func otherOrders(x api.Exec) (l []api.Exec) {
	for i, e := range x.Events {
		if e.Thread != api.Init {
			continue
		}
		order := orderOf(&x.Co, i)
		for k := 1; k < len(order); k++ {
			first, second := order[k-1], order[k]
			y := x
			y.Co = relation(x.Co.N, func(a, b int) bool {
				return a == second && b == first || (a != first || b != second) && has(&x.Co, a, b)
			})
			if k == len(order)-1 {
				y.Final.Mem[e.Loc] = x.Events[first].Val
			}
			l = append(l, y)
		}
	}
	return l
}
