package model_test

import (
	"fmt"
	"math/rand"
	"slices"
	"strings"
	"testing"

	"seisin/api"
	"seisin/cand"
	"seisin/check"
	"seisin/model"
	"seisin/parse"
)

// relation is the relation of the pairs that are in it.
func relation(n int, in func(a, b int) bool) api.Rel {
	r := api.Rel{N: n}
	for a := range n {
		for b := range n {
			if in(a, b) {
				r.To[a] |= 1 << b
			}
		}
	}
	return r
}

// defined has the chapter's relations of an execution, pair by pair as their definitions say.
type defined struct {
	api.Exec
	fr     api.Rel
	fences [8]api.Rel
}

func define(x api.Exec) defined {
	d, n := defined{Exec: x}, len(x.Events)
	d.fr = relation(n, func(a, b int) bool {
		for w := range n {
			if has(x.Rf, w, a) && has(x.Co, w, b) {
				return true
			}
		}
		return false
	})
	for mode := range d.fences {
		d.fences[mode] = relation(n, func(a, b int) bool { return d.isBetween(uint8(mode), a, b) })
	}
	return d
}

func (x *defined) isBetween(mode uint8, a, b int) bool {
	for f, e := range x.Events {
		if e.Kind == 3 && e.Mode == mode && has(x.Po, a, f) && has(x.Po, f, b) {
			return mode >= 3 && mode <= 5
		}
	}
	return false
}

func (x *defined) fenced(mode uint8, a, b int) bool { return has(x.fences[mode], a, b) }

func (x *defined) access(a int) bool { return x.Events[a].Kind == 1 || x.Events[a].Kind == 2 }

func (x *defined) loc(a, b int) bool {
	return x.access(a) && x.access(b) && x.Events[a].Loc == x.Events[b].Loc
}

// kept is a row of the chapter's table for each model.
func (x *defined) kept(m uint8, a, b int) bool {
	if !x.access(a) || !x.access(b) || !has(x.Po, a, b) {
		return false
	}
	e, f := x.Events[a], x.Events[b]
	shape := string("?RW"[e.Kind]) + string("?RW"[f.Kind])
	full := e.Mode == 3 || f.Mode == 3 || x.fenced(3, a, b)
	switch m {
	case 2:
		return true
	case 3:
		return shape != "WR" || full
	case 4:
		return full || shape[0] == 'R' || shape == "WW" && (e.Loc == f.Loc || x.fenced(5, a, b))
	case 5:
		return shape[0] == 'R' && (e.Mode == 1 || e.Mode == 3) || shape[1] == 'W' && (f.Mode == 2 || f.Mode == 3) ||
			x.fenced(3, a, b) || x.fenced(4, a, b) && shape[0] == 'R' || x.fenced(5, a, b) && shape[1] == 'W'
	case 6:
		return has(x.Data, a, b) || has(x.Rmw, a, b) || has(x.Ctrl, a, b) && shape[1] == 'W' ||
			x.fenced(3, a, b) || x.fenced(4, a, b) && shape == "RR" || x.fenced(5, a, b) && shape == "WW"
	}
	return false
}

// cyclic reports whether a walk leads from an event back to it.
func (x *defined) cyclic(in func(a, b int) bool) bool {
	n := len(x.Events)
	reach := relation(n, in)
	for via := range n {
		for a := range n {
			if has(reach, a, via) {
				reach.To[a] |= reach.To[via]
			}
		}
	}
	return slices.ContainsFunc(x.everyPair(), func(p [2]int) bool { return p[0] == p[1] && has(reach, p[0], p[1]) })
}

func (x *defined) everyPair() (l [][2]int) {
	for a := range x.Events {
		for b := range x.Events {
			l = append(l, [2]int{a, b})
		}
	}
	return l
}

// broken is the first of the three axioms that does not hold.
func (x *defined) broken(m uint8) uint8 {
	other := func(a, b int) bool { return x.Events[a].Thread != x.Events[b].Thread }
	if x.cyclic(func(a, b int) bool {
		return has(x.Po, a, b) && x.loc(a, b) || has(x.Rf, a, b) || has(x.Co, a, b) || has(x.fr, a, b)
	}) {
		return 1
	}
	for _, p := range x.everyPair() {
		for v := range x.Events {
			if has(x.Rmw, p[0], p[1]) && has(x.fr, p[0], v) && has(x.Co, v, p[1]) {
				return 2
			}
		}
	}
	if m != 1 && x.cyclic(func(a, b int) bool {
		return x.kept(m, a, b) || has(x.Rf, a, b) && (m == 2 || other(a, b)) || has(x.Co, a, b) || has(x.fr, a, b)
	}) {
		return 3
	}
	return 0
}

// interleaved reports whether the threads' events that are left can follow each other one at a time, so that each read returns what was written last, each write comes next in Co, and nothing comes between the halves of an atomic instruction but what doesn't concern its location.
func interleaved(x api.Exec, left [][]int, last [api.MaxLocs]int) bool {
	done := true
	for thread, l := range left {
		if len(l) == 0 {
			continue
		}
		done = false
		now, e := l[0], x.Events[l[0]]
		then, before := last, last[e.Loc]
		if e.Kind == api.EvWrite {
			then[e.Loc] = now
		}
		fits := e.Kind == api.EvFence || e.Kind == api.EvRead && has(x.Rf, before, now) || e.Kind == api.EvWrite && has(x.Co, before, now)
		for r := range x.Events {
			fits = fits && (!has(x.Rmw, r, now) || has(x.Rf, before, r))
		}
		if !fits {
			continue
		}
		rest := slices.Clone(left)
		rest[thread] = l[1:]
		if interleaved(x, rest, then) {
			return true
		}
	}
	return done
}

// atOnce reports whether an execution is one of a machine with a single memory and without buffers.
func atOnce(x api.Exec) bool {
	left := make([][]int, api.MaxThreads)
	var last [api.MaxLocs]int
	for i, e := range x.Events {
		if e.Thread == api.Init {
			last[e.Loc] = i
		} else {
			left[e.Thread] = append(left[e.Thread], i)
		}
	}
	return interleaved(x, left, last)
}

// holdRelations holds the relations of a well-formed execution to their definitions; r is one for Ext and Int.
func holdRelations(t *testing.T, exec api.Exec, r api.Rel) {
	t.Helper()
	x, n := define(exec), len(exec.Events)
	hold := func(what string, got api.Rel, in func(a, b int) bool) {
		if want := relation(n, in); got != want {
			t.Fatalf("%s: %s, want %s\n%v", what, shown(n, got), shown(n, want), exec)
		}
	}
	thread := func(a int) int { return x.Events[a].Thread }
	hold("Fr", model.Fr(exec), func(a, b int) bool { return has(x.fr, a, b) })
	hold("Loc", model.Loc(exec), x.loc)
	hold("Ext", model.Ext(exec, r), func(a, b int) bool { return has(r, a, b) && thread(a) != thread(b) })
	hold("Int", model.Int(exec, r), func(a, b int) bool { return has(r, a, b) && thread(a) == thread(b) })
	for mode := range uint8(8) {
		hold(fmt.Sprint("Fenced ", mode), model.Fenced(exec, mode), func(a, b int) bool { return x.fenced(mode, a, b) })
	}
	for m := uint8(1); m <= 6; m++ {
		hold(fmt.Sprint("Kept ", m), model.Kept(m, exec), func(a, b int) bool { return x.kept(m, a, b) })
	}
}

// holdAxioms holds the axioms to their definitions, and those models that allow more to those that allow less. It returns the verdicts.
func holdAxioms(t *testing.T, x api.Exec) string {
	t.Helper()
	got, want, d := verdicts(t, x), "", define(x)
	for m := uint8(1); m <= 6; m++ {
		want += fmt.Sprint(d.broken(m))
	}
	if got != want {
		t.Fatalf("%v: %s, want %s", x, got, want)
	}
	allows := func(m uint8) bool { return got[m-1] == '0' }
	for _, pair := range [][2]uint8{
		{api.ModelSC, api.ModelTSO}, {api.ModelTSO, api.ModelPSO}, {api.ModelPSO, api.ModelWeak}, {api.ModelSC, api.ModelRA},
		{api.ModelSC, api.ModelCoh}, {api.ModelTSO, api.ModelCoh}, {api.ModelPSO, api.ModelCoh}, {api.ModelRA, api.ModelCoh}, {api.ModelWeak, api.ModelCoh},
	} {
		if allows(pair[0]) && !allows(pair[1]) {
			t.Fatalf("%v: model %d allows it, %d does not", x, pair[0], pair[1])
		}
	}
	return got
}

// mixedRelation has some of the pairs that may be in it.
func mixedRelation(r *rand.Rand, n, percent int, may func(a, b int) bool) api.Rel {
	return relation(n, func(a, b int) bool { return may(a, b) && r.Intn(100) < percent })
}

// mixedEvents are some events, of which each read has the value of the write whose index stands beside it.
func mixedEvents(r *rand.Rand) (events []api.Event, from []int) {
	locs, many := 1+r.Intn(api.MaxLocs), 0
	for loc := range locs {
		events = append(events, api.Event{Thread: api.Init, Kind: api.EvWrite, Loc: uint8(loc), Val: uint8(r.Intn(3))})
	}
	if r.Intn(10) == 0 {
		many = api.MaxItems - locs
	} else {
		many = r.Intn(14)
	}
	var threads []int
	for range many {
		threads = append(threads, r.Intn(api.MaxThreads))
	}
	slices.Sort(threads)
	for i, thread := range threads {
		e := api.Event{Thread: thread, Kind: uint8(1 + r.Intn(3)), Mode: uint8(r.Intn(7)), Ins: uint8(r.Intn(256))}
		if i > 0 && threads[i-1] == thread {
			e.Pos = events[locs+i-1].Pos + 1
		}
		if e.Kind != api.EvFence {
			e.Loc, e.Val = uint8(r.Intn(locs)), uint8(r.Intn(3))
		}
		events = append(events, e)
	}
	from = make([]int, len(events))
	for i, e := range events {
		if e.Kind != api.EvRead {
			continue
		}
		var may []int
		for w, f := range events {
			if f.Kind == api.EvWrite && f.Loc == e.Loc {
				may = append(may, w)
			}
		}
		from[i] = may[r.Intn(len(may))]
		events[i].Val = events[from[i]].Val
	}
	return events, from
}

// mixed is a well-formed execution, with modes and dependencies that no program has.
func mixed(r *rand.Rand) api.Exec {
	events, from := mixedEvents(r)
	x, n := api.Exec{Events: events}, len(events)
	is := func(a int, kind uint8) bool { return events[a].Kind == kind }
	po := func(a, b int) bool {
		return a < b && events[a].Thread == events[b].Thread && events[a].Thread != api.Init
	}
	x.Po = relation(n, po)
	x.Rf = relation(n, func(a, b int) bool { return is(b, api.EvRead) && from[b] == a })
	place := r.Perm(n)
	for i, e := range events {
		if e.Thread == api.Init {
			place[i] = -1
		}
	}
	x.Co = relation(n, func(a, b int) bool {
		return is(a, api.EvWrite) && is(b, api.EvWrite) && events[a].Loc == events[b].Loc && place[a] < place[b]
	})
	for i, e := range events {
		if is(i, api.EvWrite) && x.Co.To[i] == 0 {
			x.Final.Mem[e.Loc] = e.Val
		}
	}
	percent := 10 * r.Intn(10)
	x.Data = mixedRelation(r, n, percent, func(a, b int) bool { return po(a, b) && is(a, api.EvRead) && is(b, api.EvWrite) })
	x.Ctrl = mixedRelation(r, n, percent, func(a, b int) bool { return po(a, b) && is(a, api.EvRead) })
	met := map[int]bool{}
	x.Rmw = mixedRelation(r, n, percent, func(a, b int) bool {
		if !po(a, b) || !is(a, api.EvRead) || !is(b, api.EvWrite) || events[a].Loc != events[b].Loc || met[a] || met[b] {
			return false
		}
		met[a], met[b] = true, true
		return true
	})
	return x
}

// P10.1, P10.2, P10.3: mixed executions of up to as many events as there may be.
func TestMixed(t *testing.T) {
	r := rand.New(rand.NewSource(1))
	met := map[string]int{}
	for range 3000 {
		x := mixed(r)
		if !cand.Right(x) {
			t.Fatal(x)
		}
		holdRelations(t, x, mixedRelation(r, len(x.Events), r.Intn(101), func(a, b int) bool { return true }))
		met[holdAxioms(t, x)]++
	}
	if met["000000"] < 100 || met["111111"] < 100 || met["222222"] < 10 || len(met) < 6 {
		t.Error(met)
	}
}

// mixedLines are the lines of a thread.
func mixedLines(r *rand.Rand, many int) []string {
	var l []string
	for range many {
		to, arg := []string{"x", "y"}[r.Intn(2)], []string{"0", "1", "2", "r0", "r1"}[r.Intn(5)]
		reg := fmt.Sprint("r", r.Intn(2))
		l = append(l, []string{
			reg + " = " + to, reg + " = " + to, reg + " = " + to + " acq",
			to + " = " + arg, to + " = " + arg, to + " = " + arg + " rel",
			"fence", "fence loads", "fence stores",
			reg + " = swap " + to + " " + arg, reg + " = cas " + to + " " + arg + " 1",
			reg + " = " + reg + " ^ " + arg,
		}[r.Intn(12)])
	}
	return l
}

// mixedThreads are the candidates of a mixed program of so many threads, if there are not too many; between tells what stands between any two instructions.
func mixedThreads(t *testing.T, r *rand.Rand, threads int, between string) []api.Exec {
	t.Helper()
	lines := "init x = 0 y = 0"
	for range threads {
		lines += ";thread;" + strings.Join(mixedLines(r, 1+r.Intn(4)), ";"+between)
	}
	l, _ := cand.Cands(program(t, lines), 500)
	return l
}

// P10.2, P10.3: all candidates of mixed programs.
func TestMixedPrograms(t *testing.T) {
	r := rand.New(rand.NewSource(2))
	met := map[string]int{}
	for i := range 600 {
		for k, x := range mixedThreads(t, r, 2+i%2, "") {
			if k%10 == 0 { // most relations of one program's candidates are the same
				holdRelations(t, x, x.Co)
			}
			s := holdAxioms(t, x)
			if atOnce(x) != (s[1] == '0') {
				t.Error(x, s)
			}
			met[s]++
		}
	}
	for _, s := range []string{"000000", "111111", "222222", "030000", "033000", "033300", "033330", "033303", "033030"} {
		if met[s] == 0 {
			t.Error("none with", s, met)
		}
	}
}

// P10.3: the models agree on programs with one thread.
func TestOneThread(t *testing.T) {
	r := rand.New(rand.NewSource(3))
	met := map[string]int{}
	for range 1000 {
		for _, x := range mixedThreads(t, r, 1, "") {
			s := holdAxioms(t, x)
			if s != strings.Repeat(s[:1], 6) {
				t.Error(x, s)
			}
			met[s]++
		}
	}
	if met["000000"] == 0 || met["111111"] == 0 {
		t.Error(met)
	}
}

// P10.3: all models but Coh agree on programs with a full fence between any two instructions.
func TestAllFenced(t *testing.T) {
	r := rand.New(rand.NewSource(4))
	met := map[string]int{}
	for i := range 250 {
		for _, x := range mixedThreads(t, r, 2+i%2, "fence;") {
			s := holdAxioms(t, x)
			if s[1:] != strings.Repeat(s[1:2], 5) {
				t.Error(x, s)
			}
			met[s]++
		}
	}
	for _, s := range []string{"000000", "111111", "222222", "033333"} {
		if met[s] == 0 {
			t.Error("none with", s, met)
		}
	}
}

// FuzzModel holds the promises for the candidates of programs that were parsed.
func FuzzModel(f *testing.F) {
	f.Add("test a\nthread\nr0 = x\nskip 1 if r0 == 1\ny = r0\nall x = 1")
	f.Add("test a\ninit x = 1\nthread\nr1 = cas x 1 2\nr1 = swap y r1\nthread\nx = 1\nfence stores\ny = 2\nsome true")
	f.Fuzz(func(t *testing.T, text string) {
		p, _, e := parse.Parse(text)
		if e != api.OK || check.Right(p) != api.OK {
			return
		}
		l, _ := cand.Cands(p, 60)
		for _, x := range l {
			holdRelations(t, x, x.Po)
			holdAxioms(t, x)
		}
	})
}
