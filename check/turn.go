package check

import (
	"slices"

	"seisin/api"
)

// Turn renumbers the threads and locations of a program.
func Turn(p api.Prog, threads, locs []int) (api.Prog, api.Errno) {
	if e := Right(p); e != api.OK {
		return api.Prog{}, e
	}
	if !isOrder(threads, len(p.Threads)) || !isOrder(locs, len(p.Locs)) {
		return api.Prog{}, api.ErrArg
	}
	n := numbers{threads, locs}
	return api.Prog{
		Name:    p.Name,
		Locs:    inOrder(p.Locs, locs),
		Init:    inOrder(p.Init, locs),
		Threads: n.threadsOf(p),
		Ask:     p.Ask,
		Cond:    rebuilt(p.Cond, n.cond),
	}, api.OK
}

// Final renumbers an outcome.
func Final(f api.Final, threads, locs []int) (api.Final, api.Errno) {
	if !isShortOrder(threads, api.MaxThreads) || !isShortOrder(locs, api.MaxLocs) {
		return api.Final{}, api.ErrArg
	}
	g := f
	copy(g.Regs[:], inOrder(f.Regs[:], threads))
	copy(g.Mem[:], inOrder(f.Mem[:], locs))
	return g, api.OK
}

// isOrder reports whether l is a permutation of the numbers from 0 to n - 1.
func isOrder(l []int, n int) bool {
	if len(l) != n {
		return false
	}
	for k := range n {
		if !slices.Contains(l, k) {
			return false
		}
	}
	return true
}

// isShortOrder reports whether l is a permutation of the numbers from 0 to n - 1 for some n of at most most.
func isShortOrder(l []int, most int) bool {
	return len(l) <= most && isOrder(l, len(l))
}

// inOrder returns the elements of l at the places.
func inOrder[V any](l []V, places []int) []V {
	var r []V
	for _, k := range places {
		r = append(r, l[k])
	}
	return r
}

// numbers are the old numbers of threads and locations, each at its new one.
type numbers struct {
	threads, locs []int
}

// place returns the new number of what has an old one.
func place(l []int, old uint8) uint8 {
	return uint8(slices.Index(l, int(old)))
}

// threadsOf returns the threads of a program in their new order.
func (n numbers) threadsOf(p api.Prog) [][]api.Ins {
	l := inOrder(p.Threads, n.threads)
	for k, ins := range l {
		l[k] = n.thread(ins)
	}
	return l
}

// thread returns a thread with the new numbers.
func (n numbers) thread(ins []api.Ins) []api.Ins {
	l := slices.Clone(ins)
	for i, x := range l {
		// Elsewhere Loc is no number of a location, but 0 as an unused field.
		if needsOf(x.Op).has(needLoc) {
			l[i].Loc = place(n.locs, x.Loc)
		}
	}
	return l
}

// cond returns a condition with the new numbers; its Kids stay as they are.
func (n numbers) cond(c api.Cond) api.Cond {
	switch c.Kind {
	case api.CondReg:
		c.Thread = place(n.threads, c.Thread)
	case api.CondLoc:
		c.N = place(n.locs, c.N)
	}
	return c
}
