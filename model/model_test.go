package model_test

import (
	"fmt"
	"slices"
	"strings"
	"testing"

	"seisin/api"
	"seisin/cand"
	"seisin/model"
	"seisin/parse"
)

// program is the program of the lines between its name and its query.
func program(t *testing.T, lines string) api.Prog {
	t.Helper()
	p, place, e := parse.Parse("test a\n" + strings.ReplaceAll(lines, ";", "\n") + "\nsome true")
	if e != api.OK {
		t.Fatal(lines, place, e)
	}
	return p
}

// cands are the candidates of a program.
func cands(t *testing.T, p api.Prog) []api.Exec {
	t.Helper()
	l, e := cand.Cands(p, api.MaxCands)
	if e != api.OK {
		t.Fatal(p, e)
	}
	return l
}

// has reports whether a relation has a pair, by its definition.
func has(r api.Rel, a, b int) bool { return r.To[a]>>b&1 == 1 }

// shown are the pairs of a relation on n items as a text.
func shown(n int, r api.Rel) string {
	var l []string
	if r.N != n {
		l = append(l, fmt.Sprint(r.N, " items:"))
	}
	for a := range r.To {
		for b := range 64 {
			if has(r, a, b) {
				l = append(l, fmt.Sprint(a, ">", b))
			}
		}
	}
	return strings.Join(l, " ")
}

// picked is the candidate of a program with the given Rf and Co.
func picked(t *testing.T, lines, rf, co string) api.Exec {
	t.Helper()
	l := cands(t, program(t, lines))
	i := slices.IndexFunc(l, func(x api.Exec) bool {
		n := len(x.Events)
		return shown(n, x.Rf) == rf && shown(n, x.Co) == co
	})
	if i < 0 {
		t.Fatal("no candidate of", lines)
	}
	return l[i]
}

// P10.1: from-reads and locations of small programs.
func TestFrAndLoc(t *testing.T) {
	for _, v := range []struct{ lines, rf, co, fr, loc string }{
		{"thread;x = 1", "", "0>1", "", "0>0 0>1 1>0 1>1"},
		{"thread;r0 = x", "0>1", "", "", "0>0 0>1 1>0 1>1"},
		{"thread;r0 = x;x = 1", "0>1", "0>2", "1>2", "0>0 0>1 0>2 1>0 1>1 1>2 2>0 2>1 2>2"},
		{"thread;r0 = x;x = 1", "2>1", "0>2", "", "0>0 0>1 0>2 1>0 1>1 1>2 2>0 2>1 2>2"},
		{"thread;x = 1;x = 2;r0 = x", "0>3", "0>1 0>2 1>2", "3>1 3>2", "0>0 0>1 0>2 0>3 1>0 1>1 1>2 1>3 2>0 2>1 2>2 2>3 3>0 3>1 3>2 3>3"},
		{"thread;x = 1;x = 2;r0 = x", "1>3", "0>1 0>2 1>2", "3>2", "0>0 0>1 0>2 0>3 1>0 1>1 1>2 1>3 2>0 2>1 2>2 2>3 3>0 3>1 3>2 3>3"},
		{"thread;x = 1;x = 2;r0 = x", "1>3", "0>1 0>2 2>1", "", "0>0 0>1 0>2 0>3 1>0 1>1 1>2 1>3 2>0 2>1 2>2 2>3 3>0 3>1 3>2 3>3"},
		// fences have no location, though theirs is 0 like that of x
		{"thread;x = 1;fence;y = 2;thread;fence loads;r0 = x", "0>6", "0>2 1>4", "6>2", "0>0 0>2 0>6 1>1 1>4 2>0 2>2 2>6 4>1 4>4 6>0 6>2 6>6"},
		{"init x = 9;thread;fence;thread;fence", "", "", "", "0>0"},
		// an atomic instruction reads from before what it writes
		{"thread;r0 = fetch x 0;thread;r0 = y", "0>2 1>4", "0>3", "2>3", "0>0 0>2 0>3 1>1 1>4 2>0 2>2 2>3 3>0 3>2 3>3 4>1 4>4"},
	} {
		x := picked(t, v.lines, v.rf, v.co)
		n := len(x.Events)
		if fr := shown(n, model.Fr(x)); fr != v.fr {
			t.Errorf("%s, rf %s, co %s: fr %s, want %s", v.lines, v.rf, v.co, fr, v.fr)
		}
		if loc := shown(n, model.Loc(x)); loc != v.loc {
			t.Errorf("%s: loc %s, want %s", v.lines, loc, v.loc)
		}
	}
}

// P10.1: the pairs of a relation between threads and within them. All initial writes have one thread.
func TestExtAndInt(t *testing.T) {
	x := picked(t, "init x = 0 y = 0;thread;x = 1;r0 = x;thread;y = 2;thread;r0 = y", "1>5 2>3", "0>2 1>4") // 2 and 3 are of thread 0, 4 of 1, 5 of 2
	every := api.Rel{N: 6, To: [api.MaxItems]api.Set{63, 63, 63, 63, 63, 63}}
	for _, v := range []struct {
		r             api.Rel
		between, with string
	}{
		{x.Rf, "1>5", "2>3"},
		{x.Co, "0>2 1>4", ""},
		{x.Po, "", "2>3"},
		{api.Rel{N: 6}, "", ""},
		{every, "0>2 0>3 0>4 0>5 1>2 1>3 1>4 1>5 2>0 2>1 2>4 2>5 3>0 3>1 3>4 3>5 4>0 4>1 4>2 4>3 4>5 5>0 5>1 5>2 5>3 5>4", "0>0 0>1 1>0 1>1 2>2 2>3 3>2 3>3 4>4 5>5"},
		{api.Rel{N: 6, To: [api.MaxItems]api.Set{0, 1 << 0, 1 << 1, 1<<3 | 1<<2}}, "2>1", "1>0 3>2 3>3"},
	} {
		if got := shown(6, model.Ext(x, v.r)); got != v.between {
			t.Errorf("Ext of %s: %s, want %s", shown(6, v.r), got, v.between)
		}
		if got := shown(6, model.Int(x, v.r)); got != v.with {
			t.Errorf("Int of %s: %s, want %s", shown(6, v.r), got, v.with)
		}
	}
}

// P10.1: events with a fence between them, by its mode; fences are such events, too.
func TestFenced(t *testing.T) {
	for _, v := range []struct{ lines, full, loads, stores string }{
		{"thread;x = 1;fence;x = 2", "1>3", "", ""},
		{"thread;x = 1;fence loads;x = 2", "", "1>3", ""},
		{"thread;x = 1;fence stores;x = 2", "", "", "1>3"},
		{"thread;fence;x = 1;x = 2;fence", "", "", ""},
		{"thread;fence;x = 1;thread;x = 2;fence", "", "", ""},
		{"thread;x = 1;x = 2;fence;x = 3;x = 4", "1>4 1>5 2>4 2>5", "", ""},
		{"thread;x = 1;fence;fence;x = 2", "1>3 1>4 2>4", "", ""},
		{"thread;x = 1;fence;fence stores;x = 2;fence loads;x = 3", "1>3 1>4 1>5 1>6", "1>6 2>6 3>6 4>6", "1>4 1>5 1>6 2>4 2>5 2>6"},
		{"thread;x = 1;fence;x = 2;thread;x = 3;fence stores;x = 4", "1>3", "", "4>6"},
		{"thread;r0 = fetch x 0;fence;r1 = x", "1>4 2>4", "", ""},
		{"thread;r0 = swap x 0;r1 = swap x 0;r2 = x acq;x = 0 rel", "", "", ""}, // full ones, but no fences
	} {
		for _, x := range cands(t, program(t, v.lines)) {
			for mode, want := range map[uint8]string{0: "", 1: "", 2: "", 3: v.full, 4: v.loads, 5: v.stores, 6: "", 7: "", 255: ""} {
				if got := shown(len(x.Events), model.Fenced(x, mode)); got != want {
					t.Errorf("%s: fenced by %d: %s, want %s", v.lines, mode, got, want)
				}
			}
		}
	}
}

// P10.1: there is no relation for a mode that fences don't have, even if one has it.
func TestFencedOddly(t *testing.T) {
	x := cands(t, program(t, "thread;x = 1;fence;x = 2"))[0]
	for mode := range 256 {
		x.Events[2].Mode = uint8(mode)
		for _, other := range []uint8{uint8(mode), 0, 1, 2, 3, 4, 5, 6, 255} {
			want := ""
			if mode == int(other) && 3 <= mode && mode <= 5 {
				want = "1>3"
			}
			if got := shown(4, model.Fenced(x, other)); got != want {
				t.Errorf("a fence of mode %d: fenced by %d: %s, want %s", mode, other, got, want)
			}
		}
	}
}

// P10.1: what each model preserves of short threads. The events before 2 are the initial writes.
func TestKept(t *testing.T) {
	for _, v := range []struct{ thread, sc, tso, pso, ra, weak string }{
		{"x = 1;y = 1;r0 = x;r1 = y", // Wx Wy Rx Ry
			"2>3 2>4 2>5 3>4 3>5 4>5", "2>3 4>5", "4>5", "", ""},
		{"x = 1;x = 2;r0 = y;y = r0", // Wx Wx Ry Wy
			"2>3 2>4 2>5 3>4 3>5 4>5", "2>3 2>5 3>5 4>5", "2>3 4>5", "", "4>5"},
		{"x = 1;fence;y = 1;r0 = x", // Wx F Wy Rx
			"2>4 2>5 4>5", "2>4 2>5", "2>4 2>5", "2>4 2>5", "2>4 2>5"},
		{"x = 1;fence stores;y = 1;r0 = x",
			"2>4 2>5 4>5", "2>4", "2>4", "2>4", "2>4"},
		{"x = 1;fence loads;y = 1;r0 = x",
			"2>4 2>5 4>5", "2>4", "", "", ""},
		{"r0 = x;fence;y = 1;r1 = y", // Rx F Wy Ry
			"2>4 2>5 4>5", "2>4 2>5", "2>4 2>5", "2>4 2>5", "2>4 2>5"},
		{"r0 = x;fence stores;y = 1;r1 = y",
			"2>4 2>5 4>5", "2>4 2>5", "2>4 2>5", "2>4", ""},
		{"r0 = x;fence loads;y = 1;r1 = y",
			"2>4 2>5 4>5", "2>4 2>5", "2>4 2>5", "2>4 2>5", "2>5"},
		{"x = 1;fence loads;r0 = y;y = 1", // Wx F Ry Wy
			"2>4 2>5 4>5", "2>5 4>5", "4>5", "", ""},
		{"x = 1;fence stores;r0 = y;y = 1",
			"2>4 2>5 4>5", "2>5 4>5", "2>5 4>5", "2>5", "2>5"},
		{"r0 = x acq;r1 = y;y = 1 rel;x = 2", // Rx Ry Wy Wx
			"2>3 2>4 2>5 3>4 3>5 4>5", "2>3 2>4 2>5 3>4 3>5 4>5", "2>3 2>4 2>5 3>4 3>5", "2>3 2>4 2>5 3>4", ""},
		{"x = 2;r1 = y;r0 = x acq;y = 1 rel", // Wx Ry Rx Wy
			"2>3 2>4 2>5 3>4 3>5 4>5", "2>5 3>4 3>5 4>5", "3>4 3>5 4>5", "2>5 3>5 4>5", ""},
		{"x = 1;r0 = swap y 2;r1 = x;x = 3", // Wx Ry Wy Rx Wx
			"2>3 2>4 2>5 2>6 3>4 3>5 3>6 4>5 4>6 5>6", "2>3 2>4 2>6 3>4 3>5 3>6 4>5 4>6 5>6", "2>3 2>4 2>6 3>4 3>5 3>6 4>5 4>6 5>6", "2>4 3>4 3>5 3>6", "3>4"},
		{"r0 = cas y 9 1;x = 1;r1 = y;r0 = cas y 9 1", // Ry Wx Ry Ry: neither writes
			"2>3 2>4 2>5 3>4 3>5 4>5", "2>3 2>4 2>5 3>5 4>5", "2>3 2>4 2>5 3>5 4>5", "2>3 2>4 2>5", ""},
		{"r0 = x;skip 1 if r0 == 9;y = 1;r1 = y;x = r1", // Rx Wy Ry Wx
			"2>3 2>4 2>5 3>4 3>5 4>5", "2>3 2>4 2>5 3>5 4>5", "2>3 2>4 2>5 4>5", "", "2>3 2>5 4>5"},
		{"r0 = x;skip 1 if r0 == 9;fence;r1 = y", // Rx F Ry
			"2>4", "2>4", "2>4", "2>4", "2>4"},
		{"r0 = x;skip 1 if r0 == 9;fence stores;r1 = y",
			"2>4", "2>4", "2>4", "", ""},
		{"fence;x = 1;fence;thread;fence;r0 = y;fence", // F Wx F, F Ry F
			"", "", "", "", ""},
		{"x = 1;thread;r0 = y;x = 2;thread;y = 2;r0 = x;thread;x = 3;y = 3", // Wx, Ry Wx, Wy Rx, Wx Wy
			"3>4 5>6 7>8", "3>4 7>8", "3>4", "", ""},
		{"", "", "", "", "", ""},
	} {
		x := cands(t, program(t, "init x = 0 y = 0;thread;"+v.thread))[0]
		for m, want := range []string{1: "", 2: v.sc, 3: v.tso, 4: v.pso, 5: v.ra, 6: v.weak} {
			if m == 0 {
				continue
			}
			if got := shown(len(x.Events), model.Kept(uint8(m), x)); got != want {
				t.Errorf("%s: model %d keeps %s, want %s", v.thread, m, got, want)
			}
		}
	}
}
