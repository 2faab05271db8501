package check_test

import (
	"slices"
	"testing"

	"seisin/api"
	"seisin/check"
)

// folded is what Fold makes of the instructions, as the first of two threads. All else must stay as it is, also if what is left is folded again.
func folded(t *testing.T, ins []api.Ins) []api.Ins {
	t.Helper()
	p := sample(t)
	p.Threads[0] = ins
	q, e := check.Fold(p)
	if e != api.OK || check.Right(q) != api.OK || len(q.Threads) != 2 {
		t.Fatalf("%v: %v, %d", ins, q, e)
	}
	p.Threads[0] = q.Threads[0]
	r, e := check.Fold(q)
	if !sameProg(q, p) || !sameProg(r, q) || e != api.OK {
		t.Fatalf("%v: %v, then %v, %d", ins, q, r, e)
	}
	return q.Threads[0]
}

// stepwise removes one instruction at a time, whichever x chooses, as long as one can be removed.
func stepwise(x *mixer, ins []api.Ins) []api.Ins {
	l := slices.Clone(ins)
	for {
		var able []int
		met := met(l)
		for i, y := range l {
			to := next(y, i)
			if !met[i] || y.Op == api.OpSkip && (y.Skip == 0 || len(to) == 1 && to[0] == i+1) {
				able = append(able, i)
			}
		}
		if len(able) == 0 {
			return l
		}
		gone := able[x.below(len(able))]
		for i := range gone {
			if i+int(l[i].Skip) >= gone {
				l[i].Skip--
			}
		}
		l = slices.Delete(l, gone, gone+1)
	}
}

// met says which places of a thread are reached.
func met(l []api.Ins) map[int]bool {
	met := map[int]bool{}
	var visit func(i int)
	visit = func(i int) {
		if met[i] || i == len(l) {
			return
		}
		met[i] = true
		for _, to := range next(l[i], i) {
			visit(to)
		}
	}
	visit(0)
	return met
}

// next are the places at which an instruction continues.
func next(x api.Ins, i int) []int {
	jump := i + 1 + int(x.Skip)
	if x.Op != api.OpSkip || x.A.Reg || x.B.Reg {
		return []int{i + 1, jump}
	}
	is := map[uint8]bool{api.FnEq: x.A.N == x.B.N, api.FnNe: x.A.N != x.B.N, api.FnLt: x.A.N < x.B.N}
	if is[x.Fn] {
		return []int{jump}
	}
	return []int{i + 1}
}

// run is what a thread executes but for skips. A skip by a register skips if the bit of its second argument is set in takes.
func run(l []api.Ins, takes int) (done []api.Ins) {
	for i := 0; i < len(l); {
		to := next(l[i], i)
		if l[i].Op != api.OpSkip {
			done = append(done, l[i])
		} else if l[i].A.Reg && takes>>l[i].B.N&1 == 1 {
			to = to[1:]
		}
		i = to[0]
	}
	return done
}

// smalls enumerates all threads of n instructions that are stores, and skips that skip always, never, or if a register says so. Each has its place as an argument.
func smalls(n int, use func([]api.Ins)) {
	if n == 0 {
		use(nil)
		return
	}
	smalls(n-1, func(rest []api.Ins) {
		place := uint8(6 - n)
		put := func(x api.Ins) { use(append([]api.Ins{x}, rest...)) }
		put(api.Ins{Op: api.OpStore, A: val(place)})
		for skip := 1; skip < n; skip++ {
			for _, a := range []api.Arg{val(place), val(place + 1), reg(0)} {
				put(api.Ins{Op: api.OpSkip, A: a, B: val(place), Fn: api.FnEq, Skip: uint8(skip)})
			}
		}
	})
}

// P7.3: the chapter's examples.
func TestFoldExamples(t *testing.T) {
	for _, l := range [][]string{
		{"skip 1 if 1 == 1", "x = 1", "x = 2"},
		{"skip 2 if r0 == 0", "skip 1 if 1 == 1", "x = 1", "x = 2"},
		{"skip 1 if 1 == 2", "x = 2"},
	} {
		p := read(t, append(append([]string{"test a", "init x = 0", "thread"}, l...), "all true")...)
		want := read(t, "test a", "init x = 0", "thread", "x = 2", "all true")
		if q, e := check.Fold(p); e != api.OK || !sameProg(q, want) {
			t.Error(l, q, e)
		}
	}
}

// P7.3: threads and what is left of them.
func TestFold(t *testing.T) {
	for _, v := range []struct{ before, after []string }{
		{nil, nil},
		{[]string{"x = 1", "r0 = x", "fence", "r1 = 1 + 1"}, []string{"x = 1", "r0 = x", "fence", "r1 = 1 + 1"}},
		// Nothing is left.
		{[]string{"skip 1 if 1 == 1", "x = 1"}, nil},
		{[]string{"skip 3 if 1 == 1", "x = 1", "skip 1 if r0 == 0", "x = 2"}, nil},
		// Each test, with constants as numbers without a sign.
		{[]string{"skip 1 if 1 != 2", "x = 1", "x = 2"}, []string{"x = 2"}},
		{[]string{"skip 1 if 1 != 1", "x = 1", "x = 2"}, []string{"x = 1", "x = 2"}},
		{[]string{"skip 1 if 100 < 200", "x = 1", "x = 2"}, []string{"x = 2"}},
		{[]string{"skip 1 if 200 < 100", "x = 1", "x = 2"}, []string{"x = 1", "x = 2"}},
		{[]string{"skip 1 if 100 < 100", "x = 1", "x = 2"}, []string{"x = 1", "x = 2"}},
		// A register is no constant, whatever stands beside it.
		{[]string{"skip 1 if r0 == r0", "x = 1"}, []string{"skip 1 if r0 == r0", "x = 1"}},
		{[]string{"skip 1 if r1 == 1", "x = 1"}, []string{"skip 1 if r1 == 1", "x = 1"}},
		{[]string{"skip 1 if 1 != r1", "x = 1"}, []string{"skip 1 if 1 != r1", "x = 1"}},
		// Skips over what was removed become shorter, or are removed too.
		{[]string{"skip 2 if r0 == 0", "skip 1 if 1 == 2", "x = 1"}, []string{"skip 1 if r0 == 0", "x = 1"}},
		{[]string{"skip 1 if r0 == 0", "skip 1 if 1 == 2", "x = 1"}, []string{"x = 1"}},
		{[]string{"skip 1 if r0 == 0", "skip 1 if r1 == 0", "skip 1 if 1 == 2", "x = 1"}, []string{"x = 1"}},
		{[]string{"skip 4 if r0 == 0", "skip 3 if r1 == 0", "skip 1 if 1 == 1", "x = 1", "x = 2", "x = 3"}, []string{"skip 2 if r0 == 0", "skip 1 if r1 == 0", "x = 2", "x = 3"}},
		// What is skipped always may be reached by another skip, and then the first one stays.
		{[]string{"skip 2 if r0 == 0", "skip 2 if 1 == 1", "x = 1", "x = 2", "x = 3"}, []string{"skip 1 if r0 == 0", "skip 1 if 1 == 1", "x = 2", "x = 3"}},
		{[]string{"skip 1 if r0 == 0", "skip 1 if 1 == 1", "x = 1"}, []string{"skip 1 if r0 == 0", "skip 1 if 1 == 1", "x = 1"}},
		// A skip that is unreachable reaches nothing.
		{[]string{"skip 2 if 1 == 1", "skip 1 if r0 == 0", "x = 1", "x = 2"}, []string{"x = 2"}},
		{[]string{"skip 3 if 1 == 1", "skip 1 if r0 == 0", "x = 1", "x = 2", "x = 3"}, []string{"x = 3"}},
		// Skips to the end.
		{[]string{"skip 1 if r0 == 0", "x = 1"}, []string{"skip 1 if r0 == 0", "x = 1"}},
		{[]string{"x = 1", "skip 2 if 1 == 1", "x = 2", "x = 3"}, []string{"x = 1"}},
	} {
		thread := func(l []string) api.Prog {
			return read(t, append(append([]string{"test a", "init x = 7", "thread", "thread"}, l...), "thread", "r0 = x", "none x = 1 | 1:r0 = 2")...)
		}
		if q, e := check.Fold(thread(v.before)); e != api.OK || !sameProg(q, thread(v.after)) {
			t.Errorf("%q: %v, %d", v.before, q, e)
		}
		if q, e := check.Fold(thread(v.after)); e != api.OK || !sameProg(q, thread(v.after)) {
			t.Errorf("%q: %v, %d", v.after, q, e)
		}
	}
}

// P7.3, P7.5: all small threads. What is left is what removing one instruction at a time leaves, it is valid, it is not folded further, and executes the same.
func TestFoldSmall(t *testing.T) {
	x, threads := mixer(0), 0
	for n := range 7 {
		smalls(n, func(l []api.Ins) {
			threads++
			got := folded(t, l)
			if want := stepwise(&x, l); !slices.Equal(got, want) {
				t.Fatalf("%v: %v, want %v", l, got, want)
			}
			for takes := range 1 << n {
				if !slices.Equal(run(got, takes<<(6-n)), run(l, takes<<(6-n))) {
					t.Fatalf("%v: %v", l, got)
				}
			}
		})
	}
	if want := 1 + 1 + 4 + 4*7 + 4*7*10 + 4*7*10*13 + 4*7*10*13*16; threads != want {
		t.Error(threads, want)
	}
}

// P7.3, P7.5: mixed threads of all lengths, half of whose skips have constants.
func TestFoldMixed(t *testing.T) {
	shorter := 0
	for n := range 20000 {
		x := mixer(n)
		var l []api.Ins
		for i := range n % 13 {
			y := x.ins(3, n%13-1-i)
			if i < n%13-1 && x.below(2) == 0 {
				y = api.Ins{Op: api.OpSkip, Fn: uint8(4 + x.below(3)), Skip: uint8(1 + x.below(n%13-1-i)), A: val(uint8(x.below(2))), B: val(uint8(x.below(2)))}
				y.A.Reg, y.B.Reg = x.below(3) == 0, x.below(3) == 0
			}
			l = append(l, y)
		}
		got := folded(t, l)
		for range 3 {
			if want := stepwise(&x, l); !slices.Equal(got, want) {
				t.Fatalf("%v: %v, want %v", l, got, want)
			}
		}
		if len(got) < len(l) {
			shorter++
		}
	}
	if shorter < 10000 {
		t.Error(shorter)
	}
}

// P7.3: an invalid program has Right's error, and nothing is left of it.
func TestFoldInvalid(t *testing.T) {
	for i, c := range harmful() {
		p := sample(t)
		c.turn(&p)
		if q, e := check.Fold(p); e != c.e || !isZero(q) {
			t.Error(i, q, e)
		}
	}
	for i, c := range harmless() {
		p := sample(t)
		c.turn(&p)
		if q, e := check.Fold(p); e != api.OK || !sameProg(q, p) {
			t.Error(i, q, e)
		}
	}
}
