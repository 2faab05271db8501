package check_test

import (
	"slices"
	"testing"

	"seisin/api"
	"seisin/check"
	"seisin/print"
)

// inverse is the inverse of a permutation.
func inverse(l []int) []int {
	r := make([]int, len(l))
	for k, n := range l {
		r[n] = k
	}
	return r
}

// lists enumerates all lists of up to n of the numbers from -1 to n, of all lengths up to n + 1.
func lists(n int, use func([]int)) {
	var grow func(l []int)
	grow = func(l []int) {
		use(l)
		if len(l) > n {
			return
		}
		for k := -1; k <= n; k++ {
			grow(append(slices.Clone(l), k))
		}
	}
	grow(nil)
}

// permutes reports whether a list has each number from 0 to n - 1 once.
func permutes(l []int, n int) bool {
	sorted := slices.Sorted(slices.Values(l))
	for k, m := range sorted {
		if k != m {
			return false
		}
	}
	return len(l) == n
}

// isTrue reports whether a condition holds for an outcome.
func isTrue(c api.Cond, f api.Final) bool {
	is := func(kid api.Cond) bool { return isTrue(kid, f) }
	switch c.Kind {
	case api.CondReg:
		return f.Regs[c.Thread][c.N] == c.Val
	case api.CondLoc:
		return f.Mem[c.N] == c.Val
	case api.CondAnd:
		return !slices.ContainsFunc(c.Kids, func(kid api.Cond) bool { return !is(kid) })
	case api.CondOr:
		return slices.ContainsFunc(c.Kids, is)
	case api.CondNot:
		return !is(c.Kids[0])
	}
	return true
}

// small makes the values of a condition small, so that an outcome often has them.
func small(c api.Cond) api.Cond {
	c.Val %= 2
	for i, kid := range c.Kids {
		c.Kids[i] = small(kid)
	}
	return c
}

// P7.4: a program that is renumbered by hand.
func TestTurn(t *testing.T) {
	p := sample(t)
	// Thread 0 was 1. Locations: 0 was z (2), 1 was x (0), 2 was y (1).
	want := read(t, "test SB", "init z = 3 x = 1 y = 2",
		"thread", "r7 = r1 ^ 9", "fence stores", "r0 = swap y 5",
		"thread", "x = r1 rel", "r2 = y acq", "skip 1 if r2 < 7", "r3 = cas z 1 r2",
		"all 1:r2 = 1 & ! z = 4 | true | 0:r0 = 2")
	if q, e := check.Turn(p, []int{1, 0}, []int{2, 0, 1}); e != api.OK || !sameProg(q, want) {
		t.Error(q, e)
	}
	if q, e := check.Turn(p, []int{0, 1}, []int{0, 1, 2}); e != api.OK || !sameProg(q, p) {
		t.Error(q, e)
	}
	if q, e := check.Turn(want, []int{1, 0}, []int{1, 2, 0}); e != api.OK || !sameProg(q, p) {
		t.Error(q, e)
	}
}

// P7.4, P7.5: a renumbered program is valid, has the same text but for its order, and its inverse renumbering gives the original.
func TestTurnMixed(t *testing.T) {
	for n := range 4000 {
		x := mixer(n)
		p := x.prog()
		threads, locs := x.order(len(p.Threads)), x.order(len(p.Locs))
		q, e := check.Turn(p, threads, locs)
		if e != api.OK || check.Right(q) != api.OK || q.Name != p.Name || q.Ask != p.Ask || len(q.Threads) != len(threads) || len(q.Locs) != len(locs) || len(q.Init) != len(locs) {
			t.Fatalf("%v: %v, %d", p, q, e)
		}
		for k, old := range locs {
			if q.Locs[k] != p.Locs[old] || q.Init[k] != p.Init[old] {
				t.Fatalf("%v: %v", p, q)
			}
		}
		for k, old := range threads {
			if len(q.Threads[k]) != len(p.Threads[old]) {
				t.Fatalf("%v: %v", p, q)
			}
			for i, y := range q.Threads[k] {
				s, e := print.Line(y, q.Locs...)
				if want, _ := print.Line(p.Threads[old][i], p.Locs...); s != want || e != api.OK {
					t.Fatalf("%v: %q, want %q", p, s, want)
				}
			}
		}
		if r, e := check.Turn(q, inverse(threads), inverse(locs)); e != api.OK || !sameProg(r, p) {
			t.Fatalf("%v: %v, then %v, %d", p, q, r, e)
		}
	}
}

// P7.4: the condition of a renumbered program holds for the renumbered outcomes for which that of the program holds.
func TestTurnCond(t *testing.T) {
	held := 0
	for n := range 5000 {
		x := mixer(n)
		p := x.prog()
		p.Cond = small(x.cond(1+n%5, len(p.Threads), len(p.Locs)))
		var f api.Final
		for i := range p.Threads {
			for r := range f.Regs[i] {
				f.Regs[i][r] = uint8(x.below(2))
			}
		}
		for i := range p.Locs {
			f.Mem[i] = uint8(x.below(2))
		}
		threads, locs := x.order(len(p.Threads)), x.order(len(p.Locs))
		q, e := check.Turn(p, threads, locs)
		g, e2 := check.Final(f, threads, locs)
		if e != api.OK || e2 != api.OK || isTrue(q.Cond, g) != isTrue(p.Cond, f) {
			t.Fatalf("%v, %v: %v, %v", p, f, q, g)
		}
		if isTrue(p.Cond, f) {
			held++
		}
	}
	if held < 1000 || held > 4000 {
		t.Error(held)
	}
}

// P7.4: only permutations renumber programs.
func TestTurnLists(t *testing.T) {
	for threads := 1; threads <= 4; threads++ {
		p := api.Prog{Name: "a", Locs: []string{"x", "y", "z"}, Init: []uint8{1, 2, 3}, Threads: make([][]api.Ins, threads), Ask: api.AskAll}
		good := 0
		lists(threads, func(l []int) {
			q, e := check.Turn(p, l, []int{0, 1, 2})
			if permutes(l, threads) {
				good++
				if e != api.OK || !sameProg(q, p) {
					t.Error(l, q, e)
				}
			} else if e != api.ErrArg || !isZero(q) {
				t.Error(l, q, e)
			}
		})
		if want := []int{1, 1, 2, 6, 24}[threads]; good != want {
			t.Error(good, want)
		}
	}
	p := sample(t)
	lists(3, func(l []int) {
		q, e := check.Turn(p, []int{0, 1}, l)
		if permutes(l, 3) && (e != api.OK || isZero(q)) || !permutes(l, 3) && (e != api.ErrArg || !isZero(q)) {
			t.Error(l, q, e)
		}
	})
	for _, l := range [][]int{{256, 1}, {-256, 1}, {0, 257}, {-1 << 63, 1}, {0, 1<<63 - 1}, make([]int, 1<<20)} {
		if q, e := check.Turn(p, l, []int{0, 1, 2}); e != api.ErrArg || !isZero(q) {
			t.Error(l[:2], q, e)
		}
		if q, e := check.Turn(p, []int{0, 1}, append([]int{2}, l...)); e != api.ErrArg || !isZero(q) {
			t.Error(l[:2], q, e)
		}
	}
}

// P7.4: an invalid program has Right's error, whatever the permutations.
func TestTurnInvalid(t *testing.T) {
	for i, c := range harmful() {
		for _, threads := range [][]int{nil, {0, 1}, {0, 0}, {0, 1, 2}} {
			p := sample(t)
			c.turn(&p)
			if q, e := check.Turn(p, threads, []int{0, 1, 2}); e != c.e || !isZero(q) {
				t.Error(i, q, e)
			}
		}
	}
	if q, e := check.Turn(api.Prog{}, nil, nil); e != api.ErrName || !isZero(q) {
		t.Error(q, e)
	}
}

// numbered is an outcome whose entries all differ.
func numbered() (f api.Final) {
	for i := range f.Regs {
		for r := range f.Regs[i] {
			f.Regs[i][r] = uint8(10*i + r)
		}
	}
	for i := range f.Mem {
		f.Mem[i] = uint8(100 + i)
	}
	return f
}

// P7.4: outcomes are renumbered by permutations of up to four threads and up to six locations; the rest stays.
func TestFinal(t *testing.T) {
	f := numbered()
	hold := func(threads, locs []int) {
		t.Helper()
		want, wantE := f, api.OK
		if !permutes(threads, len(threads)) || len(threads) > 4 || !permutes(locs, len(locs)) || len(locs) > 6 {
			want, wantE = api.Final{}, api.ErrArg
		}
		if wantE == api.OK {
			for k, old := range threads {
				want.Regs[k] = f.Regs[old]
			}
			for k, old := range locs {
				want.Mem[k] = f.Mem[old]
			}
		}
		if g, e := check.Final(f, threads, locs); g != want || e != wantE {
			t.Fatalf("%v, %v: %v, %d, want %v, %d", threads, locs, g, e, want, wantE)
		}
	}
	lists(4, func(l []int) {
		hold(l, nil)
		hold(nil, l)
		hold(l, []int{5, 0, 4, 1, 3, 2})
		hold([]int{1, 2, 0}, l)
	})
	for n := range 10 {
		for seed := range 100 {
			x := mixer(seed)
			l := x.order(n)
			hold(l, []int{1, 0})
			hold([]int{1, 0}, l)
		}
	}
	hold([]int{}, []int{})
	hold(make([]int, 1<<20), nil)
	hold(nil, make([]int, 1<<20))
	for _, k := range []int{-1 << 63, -256, -1, 2, 255, 256, 257, 1<<63 - 1} {
		hold([]int{k, 0}, nil)
		hold(nil, []int{1, k})
	}
}

// P7.4: the outcome of the chapter's words, by hand, and back again by the inverse.
func TestFinalByHand(t *testing.T) {
	f := numbered()
	g, e := check.Final(f, []int{2, 0, 1}, []int{1, 2, 0})
	want := f
	want.Regs[0], want.Regs[1], want.Regs[2] = f.Regs[2], f.Regs[0], f.Regs[1]
	want.Mem = [6]uint8{101, 102, 100, 103, 104, 105}
	if g != want || e != api.OK {
		t.Error(g, e)
	}
	if h, e := check.Final(g, []int{1, 2, 0}, []int{2, 0, 1}); h != f || e != api.OK {
		t.Error(h, e)
	}
}

// P7.4 (R3): the lists stay as they are.
func TestFinalLists(t *testing.T) {
	threads, locs := guarded([]int{2, 0, 1}, 99), guarded([]int{1, 0}, 99)
	check.Final(numbered(), threads, locs)
	if !slices.Equal(threads[:4], []int{2, 0, 1, 99}) || !slices.Equal(locs[:3], []int{1, 0, 99}) {
		t.Error(threads, locs)
	}
}
