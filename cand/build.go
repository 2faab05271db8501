package cand

import (
	"slices"

	"seisin/api"
	"seisin/marks"
	"seisin/order"
	"seisin/rel"
)

// started returns the execution whose locations have the given values at first and whose threads take the given paths, without Rf, Co and Final.Mem.
func started(values []uint8, paths []api.Path) api.Exec {
	var x api.Exec
	for loc, v := range values {
		x.Events = append(x.Events, initial(loc, v))
	}
	for t, p := range paths {
		first := len(x.Events)
		add(&x.Data, p.Data, first)
		add(&x.Ctrl, p.Ctrl, first)
		add(&x.Rmw, p.Rmw, first)
		for _, e := range p.Events {
			e.Thread = t
			x.Events = append(x.Events, e)
		}
		x.Final.Regs[t] = p.Regs
	}
	n := len(x.Events)
	x.Data.N, x.Ctrl.N, x.Rmw.N = n, n, n
	x.Po = programOrder(x.Events)
	return x
}

// initial returns the initial write of a location.
func initial(loc int, val uint8) api.Event {
	return api.Event{Thread: api.Init, Kind: api.EvWrite, Loc: uint8(loc), Val: val}
}

// add adds pairs of a path to a relation, in which the path's events begin at first.
func add(r *api.Rel, pairs [][2]uint8, first int) {
	for _, p := range pairs {
		r.To[first+int(p[0])] |= 1 << (first + int(p[1]))
	}
}

// programOrder returns Po for the events.
func programOrder(events []api.Event) api.Rel {
	r := api.Rel{N: len(events)}
	for a, e := range events {
		if e.Thread == api.Init {
			continue
		}
		for b := a + 1; b < len(events); b++ {
			if events[b].Thread == e.Thread {
				r.To[a] |= 1 << b
			}
		}
	}
	return r
}

// isSource reports whether the read r may read from w.
func isSource(w, r api.Event) bool {
	return w.Kind == api.EvWrite && w.Loc == r.Loc && w.Val == r.Val
}

// sourcesOf returns the reads, and the writes from which each of them may read.
func sourcesOf(events []api.Event) ([]int, [][]int) {
	var reads []int
	var sources [][]int
	for i, r := range events {
		if r.Kind != api.EvRead {
			continue
		}
		var l []int
		for k, w := range events {
			if isSource(w, r) {
				l = append(l, k)
			}
		}
		reads, sources = append(reads, i), append(sources, l)
	}
	return reads, sources
}

// readsFrom returns Rf for n events of which each of the reads reads from the write at its place in from.
func readsFrom(n int, reads, from []int) api.Rel {
	r := api.Rel{N: n}
	for i, w := range from {
		r.To[w] |= 1 << reads[i]
	}
	return r
}

// locations returns the number of initial writes with which the events begin.
func locations(events []api.Event) int {
	n := 0
	for n < len(events) && events[n].Thread == api.Init {
		n++
	}
	return n
}

// writesOf returns the writes of each location, in the order in which they stand among the given indices of the events.
func writesOf(events []api.Event, indices []int) [][]int {
	writes := make([][]int, locations(events))
	for _, i := range indices {
		if e := events[i]; e.Kind == api.EvWrite {
			writes[e.Loc] = append(writes[e.Loc], i)
		}
	}
	return writes
}

// ordersOf returns the orders that the writes of each location may have. It reports ErrMany if those of one location have more orders than there may be candidates.
func ordersOf(events []api.Event) ([][][]int, api.Errno) {
	var orders [][][]int
	for _, writes := range writesOf(events, marks.List(marks.All(len(events)))) {
		l, e := initialFirst(writes)
		if e != api.OK {
			return nil, e
		}
		orders = append(orders, l)
	}
	return orders, api.OK
}

// initialFirst returns the orders of the writes of a location that begin with the first of them. It reports ErrMany if there are more than MaxOrders; since their number is a factorial, it's more than MaxCands then, too.
func initialFirst(writes []int) ([][]int, api.Errno) {
	n, first := len(writes), marks.All(1)
	orders, e := order.Orders(rel.Cross(n, first, marks.All(n)&^first), api.MaxOrders)
	for _, l := range orders {
		for i, k := range l {
			l[i] = writes[k]
		}
	}
	return orders, e
}

// coherence returns Co, in which the writes of each location are ordered as in its list, and the memory that they leave.
func coherence(events []api.Event, lists [][]int) (api.Rel, [api.MaxLocs]uint8) {
	co := api.Rel{N: len(events)}
	var mem [api.MaxLocs]uint8
	for loc, l := range lists {
		var after api.Set
		for _, w := range slices.Backward(l) {
			co.To[w] = after
			after |= 1 << w
		}
		mem[loc] = events[l[len(l)-1]].Val
	}
	return co, mem
}
