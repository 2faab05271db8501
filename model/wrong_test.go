package model_test

import (
	"math"
	"reflect"
	"slices"
	"testing"

	"seisin/api"
	"seisin/cand"
	"seisin/model"
)

// rich is an execution with events and pairs of all kinds, which all models allow.
func rich(t *testing.T) api.Exec {
	t.Helper()
	lines := "init x = 0 y = 0;thread;x = 1;fence;r0 = y;skip 1 if r0 == 9;x = r0;thread;r0 = swap y 1;fence loads;r1 = x;fence stores;r2 = y"
	return picked(t, lines, "1>4 1>6 2>9 7>11", "0>2 0>5 1>7 2>5")
}

// holdNothing holds that each function answers the zero value for an execution.
func holdNothing(t *testing.T, what any, x api.Exec) {
	t.Helper()
	all := []api.Rel{model.Fr(x), model.Loc(x)}
	for _, r := range []api.Rel{{}, x.Po, x.Rf, {N: len(x.Events)}} {
		all = append(all, model.Ext(x, r), model.Int(x, r))
	}
	for mode := range uint8(8) {
		all = append(all, model.Fenced(x, mode))
	}
	for m := range uint8(8) {
		all = append(all, model.Kept(m, x))
		if model.Holds(m, x) || model.Broken(m, x) != 0 {
			t.Errorf("%v: model %d tells %v, %d", what, m, model.Holds(m, x), model.Broken(m, x))
		}
	}
	if i := slices.IndexFunc(all, func(r api.Rel) bool { return r != api.Rel{} }); i >= 0 {
		t.Errorf("%v: a relation (%d): %v", what, i, all[i])
	}
}

// P10.1, P10.2: executions that are not well-formed.
func TestNotWellFormed(t *testing.T) {
	holdNothing(t, "no execution", api.Exec{})
	for i, change := range []func(*api.Exec){
		func(x *api.Exec) { x.Events = nil },
		func(x *api.Exec) { x.Events = x.Events[:len(x.Events)-1] },
		func(x *api.Exec) { x.Events = x.Events[2:] },
		func(x *api.Exec) { x.Events = append(x.Events, api.Event{Thread: 2, Kind: api.EvFence}) },
		func(x *api.Exec) { x.Events = make([]api.Event, 49) },
		func(x *api.Exec) { x.Events = make([]api.Event, 1000) },
		func(x *api.Exec) { x.Events[0].Mode = api.ModeFull },
		func(x *api.Exec) { x.Events[0].Thread = 0 },
		func(x *api.Exec) { x.Events[11].Thread = 4 },
		func(x *api.Exec) { x.Events[11].Thread = math.MinInt },
		func(x *api.Exec) { x.Events[11].Kind = 0 },
		func(x *api.Exec) { x.Events[11].Kind = 4 },
		func(x *api.Exec) { x.Events[11].Loc = 2 },
		func(x *api.Exec) { x.Events[11].Loc = 255 },
		func(x *api.Exec) { x.Events[11].Val++ },
		func(x *api.Exec) { x.Events[11].Pos++ },
		func(x *api.Exec) { x.Events[3].Loc = 1 },
		func(x *api.Exec) { x.Po = api.Rel{} },
		func(x *api.Exec) { x.Po.N = math.MaxInt },
		func(x *api.Exec) { x.Po.To[2] &^= 1 << 3 },
		func(x *api.Exec) { x.Po.To[0] |= 1 << 1 },
		func(x *api.Exec) { x.Rf.N-- },
		func(x *api.Exec) { x.Rf.To[7] = 0 },
		func(x *api.Exec) { x.Rf.To[1] |= 1 << 11 },
		func(x *api.Exec) { x.Rf.To[1] |= 1 << 48 },
		func(x *api.Exec) { x.Co.N = -1 },
		func(x *api.Exec) { x.Co.To[2] = 0 },
		func(x *api.Exec) { x.Co.To[5] |= 1 << 2 },
		func(x *api.Exec) { x.Co.To[47] = 1 },
		func(x *api.Exec) { x.Data.N = 48 },
		func(x *api.Exec) { x.Data.To[2] |= 1 << 5 },
		func(x *api.Exec) { x.Data.To[4] |= 1 << 3 },
		func(x *api.Exec) { x.Ctrl.N = math.MinInt },
		func(x *api.Exec) { x.Ctrl.To[4] |= 1 << 2 },
		func(x *api.Exec) { x.Ctrl.To[12] |= 1 << 12 },
		func(x *api.Exec) { x.Rmw.To[4] |= 1 << 5 },
		func(x *api.Exec) { x.Rmw.To[6] |= 1 << 63 },
		func(x *api.Exec) { x.Final.Mem[0]++ },
		func(x *api.Exec) { x.Final.Mem[5]++ },
	} {
		x := rich(t)
		if s := verdicts(t, x); s != "000000" {
			t.Fatal(s)
		}
		change(&x)
		if cand.Right(x) {
			t.Fatal(i, "is well-formed")
		}
		holdNothing(t, i, x)
	}
}

// P10.1, P10.2: numbers that are not models.
func TestNoModel(t *testing.T) {
	for _, x := range []api.Exec{rich(t), cands(t, program(t, "thread;r0 = x;x = 1"))[1]} { // the other one is allowed by no model
		for m := range 256 {
			is := 1 <= m && m <= 6
			r, holds, broken := model.Kept(uint8(m), x), model.Holds(uint8(m), x), model.Broken(uint8(m), x)
			if (r == api.Rel{}) == is || r.N == len(x.Events) != is || holds && !is || broken != 0 && !is || is && holds != (broken == 0) {
				t.Error(m, r, holds, broken)
			}
		}
	}
}

// P10.1: relations that are not valid, or not on the events.
func TestExtAndIntOfWrong(t *testing.T) {
	x := rich(t)
	n := len(x.Events)
	for i, r := range []api.Rel{
		{},
		{N: n - 1},
		{N: n + 1},
		{N: -n},
		{N: 49},
		{N: math.MaxInt},
		{N: math.MinInt},
		{N: 1<<32 + n},
		{N: n - 1, To: [api.MaxItems]api.Set{1 << 2, 1 << 2, 1 << 3}},
		{N: n, To: [api.MaxItems]api.Set{1 << n}},
		{N: n, To: [api.MaxItems]api.Set{1<<2 | 1<<63}},
		{N: n, To: [api.MaxItems]api.Set{0, 1 << 2, 47: 1}},
		{N: n, To: [api.MaxItems]api.Set{0, 1 << 2, 12: 1 << 1}},
	} {
		if between, with := model.Ext(x, r), model.Int(x, r); between != (api.Rel{}) || with != (api.Rel{}) {
			t.Error(i, between, with)
		}
	}
	if n != 12 || model.Ext(x, api.Rel{N: n}).N != n || model.Int(x, api.Rel{N: n}).N != n {
		t.Error("the empty relation on the events is valid")
	}
}

// P10.1, P10.2 (R3, R4): an execution stays as it is, and gives the same answers again.
func TestMemory(t *testing.T) {
	x, before := rich(t), rich(t)
	x.Events = append(slices.Clone(x.Events), api.Event{Kind: 99}, api.Event{Kind: 98})[:len(x.Events)]
	answers := func() []any {
		l := []any{model.Fr(x), model.Loc(x), model.Ext(x, x.Po), model.Int(x, x.Co)}
		for m := range uint8(8) {
			l = append(l, model.Fenced(x, m), model.Kept(m, x), model.Holds(m, x), model.Broken(m, x))
		}
		return l
	}
	if !reflect.DeepEqual(answers(), answers()) {
		t.Error("other answers")
	}
	behind := x.Events[len(x.Events) : len(x.Events)+2]
	if !cand.Same(x, before) || behind[0].Kind != 99 || behind[1].Kind != 98 {
		t.Error("changed")
	}
}
