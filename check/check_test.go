package check_test

import (
	"slices"
	"strings"
	"testing"

	"seisin/api"
	"seisin/check"
	"seisin/parse"
	"seisin/print"
)

// mixer gives numbers that look mixed up and are the same in every run.
type mixer uint64

func (x *mixer) below(n int) int {
	*x = *x*6364136223846793005 + 1442695040888963407
	return int(uint64(*x)>>33) % n
}

func (x *mixer) byte() uint8 { return uint8(x.below(256)) }

// order is a permutation of the numbers from 0 to n - 1.
func (x *mixer) order(n int) []int {
	var l []int
	for k := range n {
		l = slices.Insert(l, x.below(k+1), k)
	}
	return l
}

func (x *mixer) arg() api.Arg {
	if x.below(2) == 0 {
		return reg(uint8(x.below(8)))
	}
	return val(x.byte())
}

// ins is a valid instruction ahead of so many others.
func (x *mixer) ins(locs, after int) api.Ins {
	y := api.Ins{Op: uint8(1 + x.below(8)), Dst: uint8(x.below(8)), Loc: uint8(x.below(locs)), A: x.arg(), B: x.arg()}
	if y.Op == api.OpSkip && after == 0 {
		y.Op = api.OpFence
	}
	switch y.Op {
	case api.OpLoad:
		y.A, y.B, y.Mode = api.Arg{}, api.Arg{}, uint8(x.below(2))
	case api.OpStore:
		y.Dst, y.B, y.Mode = 0, api.Arg{}, uint8(2*x.below(2))
	case api.OpMove:
		y.Loc, y.Fn = 0, uint8(1+x.below(3))
	case api.OpSwap, api.OpFetch:
		y.B = api.Arg{}
	case api.OpFence:
		y = api.Ins{Op: api.OpFence, Mode: uint8(3 + x.below(3))}
	case api.OpSkip:
		y.Dst, y.Loc, y.Fn, y.Skip = 0, 0, uint8(4+x.below(3)), uint8(1+x.below(after))
	}
	return y
}

// cond is a valid condition of at most the given depth.
func (x *mixer) cond(deep, threads, locs int) (c api.Cond) {
	c.Kind = uint8(x.below(6))
	if deep == 1 {
		c.Kind = uint8(x.below(3))
	}
	kids := 0
	switch c.Kind {
	case api.CondReg:
		c.Thread, c.N, c.Val = uint8(x.below(threads)), uint8(x.below(8)), x.byte()
	case api.CondLoc:
		c.N, c.Val = uint8(x.below(locs)), x.byte()
	case api.CondAnd, api.CondOr:
		kids = 2 + x.below(3)
	case api.CondNot:
		kids = 1
	}
	for range kids {
		c.Kids = append(c.Kids, x.cond(deep-1, threads, locs))
	}
	return c
}

// names are as many as a program may have locations.
var names = []string{"x", "y", "Z", "r", "r1x", "abcdefghijklmno_"}

// prog is a valid program.
func (x *mixer) prog() api.Prog {
	p := api.Prog{Name: []string{"SB", "x", "test", "r1", "r99", "abcdefghijklmnop"}[x.below(6)], Ask: uint8(1 + x.below(3))}
	for _, i := range x.order(6)[:1+x.below(6)] {
		p.Locs = append(p.Locs, names[i])
		p.Init = append(p.Init, x.byte())
	}
	for range 1 + x.below(4) {
		var ins []api.Ins
		many := x.below(13)
		for i := range many {
			ins = append(ins, x.ins(len(p.Locs), many-1-i))
		}
		p.Threads = append(p.Threads, ins)
	}
	p.Cond = x.cond(1+x.below(5), len(p.Threads), len(p.Locs))
	return p
}

func val(n uint8) api.Arg { return api.Arg{N: n} }

func reg(n uint8) api.Arg { return api.Arg{Reg: true, N: n} }

func of(kind uint8, kids ...api.Cond) api.Cond { return api.Cond{Kind: kind, Kids: kids} }

// nots is a condition of the given depth.
func nots(deep int) api.Cond {
	c := api.Cond{}
	for range deep - 1 {
		c = of(api.CondNot, c)
	}
	return c
}

// sameProg compares programs; nil lists and empty ones are the same.
func sameProg(a, b api.Prog) bool {
	return a.Name == b.Name && slices.Equal(a.Locs, b.Locs) && slices.Equal(a.Init, b.Init) && a.Ask == b.Ask && sameCond(a.Cond, b.Cond) &&
		slices.EqualFunc(a.Threads, b.Threads, func(a, b []api.Ins) bool { return slices.Equal(a, b) })
}

func sameCond(a, b api.Cond) bool {
	return a.Kind == b.Kind && a.Thread == b.Thread && a.N == b.N && a.Val == b.Val && slices.EqualFunc(a.Kids, b.Kids, sameCond)
}

// isZero reports whether a program is the zero value.
func isZero(p api.Prog) bool { return sameProg(p, api.Prog{}) }

// read is the program of a source.
func read(t *testing.T, lines ...string) api.Prog {
	t.Helper()
	p, place, e := parse.Parse(strings.Join(lines, "\n"))
	if e != api.OK {
		t.Fatal(lines, place, e)
	}
	return p
}

// sample is a valid program of three locations and two threads.
func sample(t *testing.T) api.Prog {
	t.Helper()
	return read(t, "test SB", "init x = 1 y = 2 z = 3",
		"thread", "x = r1 rel", "r2 = y acq", "skip 1 if r2 < 7", "r3 = cas z 1 r2",
		"thread", "r7 = r1 ^ 9", "fence stores", "r0 = swap y 5",
		"all 0:r2 = 1 & ! z = 4 | true | 1:r0 = 2")
}

// change is a way to change a valid program, and the error of what comes of it.
type change struct {
	e    api.Errno
	turn func(p *api.Prog)
}

// named changes the name.
func named(e api.Errno, l ...string) (r []change) {
	for _, s := range l {
		r = append(r, change{e, func(p *api.Prog) { p.Name = s }})
	}
	return r
}

// located changes the second location's name.
func located(e api.Errno, l ...string) (r []change) {
	for _, s := range l {
		r = append(r, change{e, func(p *api.Prog) { p.Locs[1] = s }})
	}
	return r
}

// many changes the number of locations.
func many(e api.Errno, l ...int) (r []change) {
	for _, n := range l {
		r = append(r, change{e, func(p *api.Prog) {
			p.Locs, p.Init = []string{"x", "y", "z", "a", "b", "c", "d"}[:n], make([]uint8, n)
		}})
	}
	return r
}

// first changes the first instruction of a thread.
func first(thread int, l ...api.Ins) (r []change) {
	for _, x := range l {
		r = append(r, change{api.ErrIns, func(p *api.Prog) { p.Threads[thread][0] = x }})
	}
	return r
}

// asked changes the query.
func asked(e api.Errno, l ...uint8) (r []change) {
	for _, n := range l {
		r = append(r, change{e, func(p *api.Prog) { p.Ask = n }})
	}
	return r
}

// conds changes the condition.
func conds(e api.Errno, l ...api.Cond) (r []change) {
	for _, c := range l {
		r = append(r, change{e, func(p *api.Prog) { p.Cond = c }})
	}
	return r
}

// fences is a thread of n fences.
func fences(n int) []api.Ins {
	return slices.Repeat([]api.Ins{{Op: api.OpFence, Mode: api.ModeFull}}, n)
}

// harmless are changes that leave a program valid.
func harmless() []change {
	return slices.Concat(
		named(api.OK, "a", "test", "true", "r1", "r99", "x", "A_9", "abcdefghijklmnop"),
		located(api.OK, "a", "SB", "r", "r1x", "R1", "abcdefghijklmnop"),
		many(api.OK, 3, 4, 5, 6),
		[]change{
			{api.OK, func(p *api.Prog) {}},
			{api.OK, func(p *api.Prog) { p.Init = []uint8{255, 0, 255} }},
			{api.OK, func(p *api.Prog) { p.Threads = append(p.Threads, nil, []api.Ins{}) }},
			{api.OK, func(p *api.Prog) { p.Threads[0], p.Threads[1] = nil, nil }},
			{api.OK, func(p *api.Prog) { p.Threads[0] = fences(12) }},
			{api.OK, func(p *api.Prog) { p.Threads, p.Cond = p.Threads[:1], api.Cond{} }},
		},
		asked(api.OK, api.AskSome, api.AskNone, api.AskAll),
		conds(api.OK, nots(20), api.Cond{Kids: []api.Cond{}}, api.Cond{Kind: api.CondReg, Thread: 1, N: 7, Val: 255}, api.Cond{Kind: api.CondLoc, N: 2}),
	)
}

// harmful are changes that make a program invalid, in the order of their errors.
func harmful() []change {
	return slices.Concat(
		named(api.ErrName, "", " ", "a b", " a", "a ", "a\n", "\na", "a#", "a # b", "1a", "1", "_a", "a-b", "=", "a=", "\xe4", "a\x00", "abcdefghijklmnopq"),
		many(api.ErrLocs, 0, 7),
		located(api.ErrLocs, "", "x", "z", "r1", "r99", "true", "loads", "y ", " y", "y z", "_y", "1", "y\n", "abcdefghijklmnopq"),
		[]change{
			{api.ErrLocs, func(p *api.Prog) { p.Init = nil }},
			{api.ErrLocs, func(p *api.Prog) { p.Init = p.Init[:2] }},
			{api.ErrLocs, func(p *api.Prog) { p.Init = append(p.Init, 0) }},
			{api.ErrLocs, func(p *api.Prog) { p.Locs = p.Locs[:2] }},
			{api.ErrThread, func(p *api.Prog) { p.Threads = nil }},
			{api.ErrThread, func(p *api.Prog) { p.Threads = [][]api.Ins{} }},
			{api.ErrThread, func(p *api.Prog) { p.Threads = append(p.Threads, nil, nil, nil) }},
			{api.ErrThread, func(p *api.Prog) { p.Threads[0] = fences(13) }},
			{api.ErrThread, func(p *api.Prog) { p.Threads[1] = fences(13) }},
		},
		first(0, api.Ins{}, api.Ins{Op: 9}, api.Ins{Op: api.OpLoad, Loc: 3}, api.Ins{Op: api.OpSkip, Fn: api.FnEq, Skip: 4}),
		first(1, api.Ins{}, api.Ins{Op: 9}, api.Ins{Op: api.OpLoad, Loc: 3}, api.Ins{Op: api.OpSkip, Fn: api.FnEq, Skip: 3}),
		[]change{{api.ErrIns, func(p *api.Prog) { p.Threads = append(p.Threads, nil, make([]api.Ins, 1)) }}},
		asked(api.ErrAsk, 0, 4, 255),
		conds(api.ErrCond, nots(21), api.Cond{Val: 1}, api.Cond{Kind: 6}, of(api.CondAnd, api.Cond{}), api.Cond{Kind: api.CondReg, Thread: 2}, api.Cond{Kind: api.CondReg, N: 8}, api.Cond{Kind: api.CondLoc, N: 3}),
	)
}

// P7.1: what is valid and what is not.
func TestRight(t *testing.T) {
	for i, c := range append(harmless(), harmful()...) {
		p := sample(t)
		c.turn(&p)
		if e := check.Right(p); e != c.e {
			t.Errorf("%d: %v: %d, want %d", i, p, e, c.e)
		}
	}
	if e := check.Right(api.Prog{}); e != api.ErrName {
		t.Error(e)
	}
	p := sample(t)
	p.Threads = p.Threads[:1] // the condition speaks of another one
	if e := check.Right(p); e != api.ErrCond {
		t.Error(e)
	}
}

// P7.1: of two errors the one that is listed first is told, whichever change came first.
func TestRightOrder(t *testing.T) {
	rank := []api.Errno{api.ErrName, api.ErrLocs, api.ErrThread, api.ErrIns, api.ErrAsk, api.ErrCond}
	last := 0
	for _, c := range harmful() {
		if r := slices.Index(rank, c.e); r < last || r > last+1 {
			t.Fatal("not in order", c.e)
		} else {
			last = r
		}
		for _, d := range harmful() {
			if slices.Index(rank, d.e) <= last || c.e == api.ErrThread && d.e == api.ErrIns { // both change threads, which TestRightLong looks at
				continue
			}
			for _, l := range [][]change{{c, d}, {d, c}} {
				p := sample(t)
				l[0].turn(&p)
				l[1].turn(&p)
				if e := check.Right(p); e != c.e {
					t.Errorf("%v: %d, want %d", p, e, c.e)
				}
			}
		}
	}
	if last != len(rank)-1 {
		t.Error(last)
	}
}

// P7.1: the length of a thread is told before what its instructions are, and before a bad query.
func TestRightLong(t *testing.T) {
	p := sample(t)
	p.Threads[0][0] = api.Ins{}
	p.Threads[1] = make([]api.Ins, 13)
	p.Ask = 0
	if e := check.Right(p); e != api.ErrThread {
		t.Error(e)
	}
	p.Threads[1] = make([]api.Ins, 12)
	if e := check.Right(p); e != api.ErrIns {
		t.Error(e)
	}
}

// P7.1, P7.5: programs that are made of valid parts are valid and can be printed.
func TestRightPrinted(t *testing.T) {
	for n := range 4000 {
		x := mixer(n)
		p := x.prog()
		if e := check.Right(p); e != api.OK {
			t.Fatalf("%v: %d", p, e)
		}
		s, e := print.Print(p)
		if e == api.ErrLong {
			continue
		}
		if q, _, e2 := parse.Parse(s); e != api.OK || e2 != api.OK || !sameProg(p, q) {
			t.Fatalf("%v: %q, %d", p, s, e)
		}
	}
}

// P7.1 (R1): programs that are much too large, and conditions that no memory holds.
func TestRightHuge(t *testing.T) {
	name := strings.Repeat("a", 1<<24)
	wide := of(api.CondOr, make([]api.Cond, 1<<20)...)
	shared, deep := api.Cond{}, api.Cond{}
	for range 1 << 10 {
		shared = of(api.CondAnd, shared, shared)
	}
	for range 1<<16 - 1 {
		deep = of(api.CondNot, deep)
	}
	for i, c := range slices.Concat(
		named(api.ErrName, name, strings.Repeat(" ", 1<<24)),
		located(api.ErrLocs, name),
		[]change{
			{api.ErrLocs, func(p *api.Prog) { p.Locs, p.Init = make([]string, 1<<20), make([]uint8, 1<<20) }},
			{api.ErrLocs, func(p *api.Prog) { p.Init = make([]uint8, 1<<20) }},
			{api.ErrThread, func(p *api.Prog) { p.Threads = make([][]api.Ins, 1<<20) }},
			{api.ErrThread, func(p *api.Prog) { p.Threads[1] = make([]api.Ins, 1<<20) }},
		},
		conds(api.ErrCond, shared, deep),
		conds(api.OK, wide),
	) {
		p := sample(t)
		c.turn(&p)
		if e := check.Right(p); e != c.e {
			t.Error(i, e)
		}
	}
}

// guarded is a copy of a list that ends with the value in its spare capacity.
func guarded[V any](l []V, behind V) []V { return append(slices.Clone(l), behind)[:len(l)] }

// guardedCond guards the lists of a condition.
func guardedCond(c api.Cond) api.Cond {
	c.Kids = guarded(c.Kids, api.Cond{Kind: 99})
	for i, kid := range c.Kids {
		c.Kids[i] = guardedCond(kid)
	}
	return c
}

// guardedProg guards the lists of a program.
func guardedProg(p api.Prog) api.Prog {
	p.Locs, p.Init, p.Threads, p.Cond = guarded(p.Locs, "behind"), guarded(p.Init, 99), guarded(p.Threads, nil), guardedCond(p.Cond)
	for i, l := range p.Threads {
		p.Threads[i] = guarded(l, api.Ins{Op: 99})
	}
	return p
}

// places are the addresses of all elements of the lists of a program, spare capacity included, of each as often as there are lists that have it.
func places(p api.Prog) (l []any) {
	l = append(l, placesOf(p.Locs)...)
	l = append(l, placesOf(p.Init)...)
	l = append(l, placesOf(p.Threads)...)
	for _, ins := range p.Threads {
		l = append(l, placesOf(ins)...)
	}
	return append(l, placesOfKids(p.Cond)...)
}

func placesOf[V any](s []V) (l []any) {
	for i := range cap(s) {
		l = append(l, &s[:cap(s)][i])
	}
	return l
}

func placesOfKids(c api.Cond) (l []any) {
	l = placesOf(c.Kids)
	for _, kid := range c.Kids {
		l = append(l, placesOfKids(kid)...)
	}
	return l
}

// holdApart fails if the results share memory with the argument, with each other, or within themselves.
func holdApart(t *testing.T, p api.Prog, results ...api.Prog) {
	t.Helper()
	met := map[any]bool{}
	for _, a := range places(p) {
		met[a] = true
	}
	for _, q := range results {
		for _, a := range places(q) {
			if met[a] {
				t.Fatal("shared memory")
			}
			met[a] = true
		}
	}
}

// sharing is a valid program whose lists share their memory.
func sharing() api.Prog {
	ins := []api.Ins{{Op: api.OpLoad, Loc: 1}, {Op: api.OpStore}}
	and := of(api.CondAnd, api.Cond{Kind: api.CondLoc, N: 1}, api.Cond{Kind: api.CondReg, Thread: 1})
	return api.Prog{Name: "a", Locs: []string{"x", "y"}, Init: []uint8{1, 2}, Threads: [][]api.Ins{ins, ins}, Ask: api.AskSome, Cond: of(api.CondOr, and, and)}
}

// P7.1 to P7.4 (R3, R4): arguments stay as they are, the same ones give the same results, and these share no memory.
func TestArguments(t *testing.T) {
	for _, p := range []api.Prog{sample(t), sharing()} {
		g, want := guardedProg(p), guardedProg(p)
		threads, locs := guarded([]int{1, 0}, 99), guarded([]int{1, 0, 2}[:len(p.Locs)], 99)
		var results []api.Prog
		for range 2 {
			if e := check.Right(g); e != api.OK {
				t.Fatal(e)
			}
			f, e1 := check.Fold(g)
			q, e2 := check.Turn(g, threads, locs)
			if e1 != api.OK || e2 != api.OK {
				t.Fatal(e1, e2)
			}
			results = append(results, f, q)
		}
		holdApart(t, g, results...)
		holdApart(t, p, results...)
		if !sameProg(results[0], results[2]) || !sameProg(results[1], results[3]) {
			t.Error(results)
		}
		if !sameProg(g, want) || !sameProg(spread(g), spread(want)) || !slices.Equal(threads[:3], []int{1, 0, 99}) || locs[:len(locs)+1][len(locs)] != 99 {
			t.Error("changed", g, threads, locs)
		}
	}
	p := sharing() // as it is, with nothing guarded
	f, _ := check.Fold(p)
	q, _ := check.Turn(p, []int{0, 1}, []int{0, 1})
	holdApart(t, p, f, q)
	if !sameProg(f, p) || !sameProg(q, p) {
		t.Error(f, q)
	}
}

// spread shows the value in the spare capacity of each guarded list.
func spread(p api.Prog) api.Prog {
	p.Locs, p.Init, p.Threads, p.Cond = p.Locs[:len(p.Locs)+1], p.Init[:len(p.Init)+1], slices.Clone(p.Threads[:len(p.Threads)+1]), spreadCond(p.Cond)
	for i, l := range p.Threads[:len(p.Threads)-1] {
		p.Threads[i] = l[:len(l)+1]
	}
	return p
}

func spreadCond(c api.Cond) api.Cond {
	kids := slices.Clone(c.Kids[:len(c.Kids)+1])
	for i, kid := range c.Kids {
		kids[i] = spreadCond(kid)
	}
	c.Kids = kids
	return c
}

// FuzzCheck holds the promises against programs that were parsed.
func FuzzCheck(f *testing.F) {
	f.Add("test a\nthread\nskip 1 if 1 == 1\nx = 1\nall x = 1")
	f.Add("test a\ninit x = 1 y = 2\nthread\nskip 2 if r0 < 1\nr1 = cas y 1 r2\nskip 1 if 1 != 1\nthread\nx = 1\nsome 1:r1 = 2 & ! y = 1")
	f.Fuzz(func(t *testing.T, text string) {
		p, _, e := parse.Parse(text)
		if e != api.OK {
			return
		}
		q, foldE := check.Fold(p)
		if e := check.Right(p); e != foldE || e != api.OK {
			if e != foldE || !isZero(q) {
				t.Fatal(e, foldE, q)
			}
			return
		}
		if _, e := print.Print(p); e != api.OK && e != api.ErrLong {
			t.Fatal(e)
		}
		for i, ins := range p.Threads {
			if want := stepwise(new(mixer), ins); !slices.Equal(q.Threads[i], want) {
				t.Fatal(ins, q.Threads[i], want)
			}
		}
		threads, locs := new(mixer).order(len(p.Threads)), new(mixer).order(len(p.Locs))
		r, e := check.Turn(p, threads, locs)
		back, e2 := check.Turn(r, inverse(threads), inverse(locs))
		if e != api.OK || e2 != api.OK || !sameProg(back, p) {
			t.Fatal(r, back)
		}
	})
}
