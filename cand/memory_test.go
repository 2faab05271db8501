package cand_test

import (
	"reflect"
	"slices"
	"testing"

	"seisin/api"
	"seisin/cand"
	"seisin/check"
	"seisin/parse"
)

// guarded is a copy of a list with two values in its spare capacity.
func guarded[V any](l []V, behind V) []V {
	return append(slices.Clone(l), behind, behind)[:len(l)]
}

// spread is a list with its spare capacity.
func spread[V any](l []V) []V { return l[:cap(l)] }

// places are the addresses of all elements of a list, spare capacity included.
func places[V any](s []V) (l []any) {
	for i := range spread(s) {
		l = append(l, &spread(s)[i])
	}
	return l
}

// guardedProgram is a program, all of whose lists have spare capacity.
func guardedProgram(t *testing.T) api.Prog {
	p := program(t, "init x = 1 y = 0;thread;r0 = x;y = r0;thread;r0 = fetch y 0;skip 1 if r0 == 1;x = 1;thread;x = 0")
	p.Cond = api.Cond{Kind: api.CondOr, Kids: []api.Cond{{}, {Kind: api.CondLoc, Val: 1}}}
	p.Locs, p.Init, p.Cond.Kids, p.Threads = guarded(p.Locs, "?"), guarded(p.Init, 99), guarded(p.Cond.Kids, api.Cond{Kind: 99}), guarded(p.Threads, nil)
	for i, ins := range p.Threads {
		p.Threads[i] = guarded(ins, api.Ins{Op: 99})
	}
	return p
}

// everything are all lists of a program with their spare capacity.
func everything(p api.Prog) []any {
	l := []any{slices.Clone(spread(p.Locs)), slices.Clone(spread(p.Init)), slices.Clone(spread(p.Cond.Kids)), len(spread(p.Threads))}
	for _, ins := range p.Threads {
		l = append(l, slices.Clone(spread(ins)))
	}
	return l
}

// P9.1 (R3, R4): a program stays as it is, the same one gives the same candidates, and these share no memory.
func TestCandsMemory(t *testing.T) {
	p := guardedProgram(t)
	before := everything(p)
	met := map[any]bool{}
	var all [][]api.Exec
	for range 3 {
		l := cands(t, p)
		if len(l) < 20 {
			t.Fatal(len(l))
		}
		lists := [][]any{places(l)}
		for _, x := range l {
			lists = append(lists, places(x.Events))
		}
		for _, a := range slices.Concat(lists...) {
			if met[a] {
				t.Fatal("shared memory")
			}
			met[a] = true
		}
		all = append(all, l)
		if !reflect.DeepEqual(l, all[0]) {
			t.Error("another answer")
		}
	}
	for _, x := range all[1] {
		clear(spread(x.Events))
	}
	if !reflect.DeepEqual(all[0], all[2]) || !reflect.DeepEqual(everything(p), before) {
		t.Error("changed")
	}
}

// P9.2 (R3): executions stay as they are.
func TestRightMemory(t *testing.T) {
	for i, x := range cands(t, guardedProgram(t)) {
		x.Events = guarded(x.Events, api.Event{Kind: 99})
		if i%2 == 1 {
			x.Events[len(x.Events)-1].Pos++
		}
		events, y := slices.Clone(spread(x.Events)), x
		if cand.Right(x) != (i%2 == 0) || !cand.Same(x, y) || !slices.Equal(spread(x.Events), events) || !reflect.DeepEqual(x, y) {
			t.Error(i)
		}
	}
}

// FuzzCands holds the promises against programs that were parsed.
func FuzzCands(f *testing.F) {
	f.Add("test a\nthread\nr0 = x\nskip 1 if r0 == 1\ny = r0\nall x = 1")
	f.Add("test a\ninit x = 1\nthread\nr1 = cas x 1 2\nr1 = swap y r1\nthread\nx = 1\nfence\nsome true")
	f.Fuzz(func(t *testing.T, text string) {
		p, _, e := parse.Parse(text)
		if e != api.OK {
			return
		}
		if check.Right(p) != api.OK {
			holdError(t, p, 10, api.ErrArg)
			return
		}
		for _, x := range holdSearch(t, p, 60) {
			holdThreads(t, p, x)
		}
	})
}
