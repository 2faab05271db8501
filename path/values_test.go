package path_test

import (
	"math"
	"slices"
	"strings"
	"testing"

	"seisin/api"
	"seisin/parse"
	"seisin/path"
)

// program is the program of the lines between its name and its query.
func program(t *testing.T, lines string) api.Prog {
	t.Helper()
	p, place, e := parse.Parse("test a\n" + strings.ReplaceAll(lines, ";", "\n") + "\nsome true")
	if e != api.OK {
		t.Fatal(lines, place, e)
	}
	return p
}

// P8.3: the possible values of programs.
func TestValues(t *testing.T) {
	for _, v := range []struct {
		lines string
		want  []uint8 // nil if there are too many
	}{
		{"init x = 0;thread", []uint8{0}},
		{"init x = 7;thread", []uint8{7}},
		{"init x = 7 y = 255 z = 0 a = 7;thread", []uint8{0, 7, 255}},
		{"thread;r1 = x;y = r1;thread;x = 3", []uint8{0, 3}},
		{"thread;x = 9;thread;x = 3;thread;y = 200;thread;x = 3", []uint8{0, 3, 9, 200}},
		{"init x = 5;thread;r0 = x;r1 = 77 + 0;fence", []uint8{5}},
		// what no path writes is not possible
		{"thread;skip 1 if 0 == 0;x = 3;x = 4", []uint8{0, 4}},
		{"thread;r0 = x;skip 1 if r0 != 8;x = 3", []uint8{0}},
		{"thread;r0 = x;skip 1 if r0 != 8;x = 3;thread;y = 8", []uint8{0, 3, 8}},
		{"thread;r0 = cas x 1 2;r0 = cas x 3 4;thread;x = 3", []uint8{0, 3, 4}},
		// one value leads to the next, in the same thread or in others
		{"init x = 4 y = 1;thread;r0 = y;r0 = r0 ^ 1;y = r0", []uint8{0, 1, 4, 5}},
		{"thread;r0 = cas x 0 1;thread;r0 = cas x 1 2;thread;r0 = cas x 2 3;thread;r0 = cas x 3 4", []uint8{0, 1, 2, 3, 4}},
		{"thread;r0 = cas x 3 4;thread;r0 = cas x 2 3;thread;r0 = cas x 1 2;thread;r0 = cas x 0 1", []uint8{0, 1, 2, 3, 4}},
		{"thread;r0 = x;skip 2 if 14 < r0;r0 = r0 + 1;x = r0", []uint8{0, 1, 2, 3, 4, 5, 6, 7, 8, 9, 10, 11, 12, 13, 14, 15}},
		{"thread;r0 = x;skip 2 if 15 < r0;r0 = r0 + 1;x = r0", nil},
		// each read may return each value, wherever it was written
		{"init x = 1 y = 2;thread;r0 = x;r1 = y;r2 = r0 ^ r1;z = r2", []uint8{0, 1, 2, 3}},
		{"thread;r0 = y;x = r0", []uint8{0}},
		{"init x = 1;thread;r0 = swap y 5;z = r0", []uint8{0, 1, 5}},
		// sums, which wrap around
		{"thread;r0 = fetch x 0", []uint8{0}},
		{"thread;r0 = fetch x 1", nil},
		{"thread;r0 = fetch x 1;thread;r0 = fetch x 1", nil},
		{"thread;r0 = fetch x 128", []uint8{0, 128}},
		{"init x = 3;thread;r0 = fetch x 64", []uint8{3, 67, 131, 195}},
		{"init x = 3;thread;r0 = fetch x 16", []uint8{3, 19, 35, 51, 67, 83, 99, 115, 131, 147, 163, 179, 195, 211, 227, 243}},
		{"thread;r0 = fetch x 240", []uint8{0, 16, 32, 48, 64, 80, 96, 112, 128, 144, 160, 176, 192, 208, 224, 240}},
		{"init y = 1;thread;r0 = fetch x 16", nil},
		{"thread;r0 = x;r1 = y;r0 = r0 + r1;x = r0", []uint8{0}},
		{"init x = 1;thread;r0 = x;r1 = y;r0 = r0 + r1;x = r0", nil},
		{"init x = 5;thread;r0 = x;r0 = 0 - r0;x = r0", []uint8{5, 251}},
	} {
		p := program(t, v.lines)
		for most := range api.MaxValues + 1 {
			l, e := path.Values(p, most)
			if v.want != nil && len(v.want) <= most {
				if !slices.Equal(l, v.want) || e != api.OK {
					t.Errorf("%s, at most %d: %v, %d", v.lines, most, l, e)
				}
			} else if len(l) != 0 || e != api.ErrMany {
				t.Errorf("%s, at most %d: %v, %d", v.lines, most, l, e)
			}
		}
	}
}

// P8.3: programs that are not valid, and limits that there are not.
func TestValuesInvalid(t *testing.T) {
	many := program(t, "thread;r0 = fetch x 1")
	for _, most := range []int{-1, 17, math.MinInt, math.MaxInt, 4096, -1 << 32, 1 << 32} {
		for _, p := range []api.Prog{{}, many, program(t, "init x = 1;thread")} {
			if l, e := path.Values(p, most); len(l) != 0 || e != api.ErrArg {
				t.Error(most, l, e)
			}
		}
	}
	for i, change := range []func(*api.Prog){
		func(p *api.Prog) { *p = api.Prog{} },
		func(p *api.Prog) { p.Name = "" },
		func(p *api.Prog) { p.Locs = []string{"r1"} },
		func(p *api.Prog) { p.Init = nil },
		func(p *api.Prog) { p.Init = []uint8{0, 0} },
		func(p *api.Prog) { p.Threads = nil },
		func(p *api.Prog) { p.Threads = make([][]api.Ins, 5) },
		func(p *api.Prog) { p.Threads[0][0].Loc = 1 }, // a valid thread, but there is no such location here
		func(p *api.Prog) { p.Ask = 0 },
		func(p *api.Prog) { p.Cond = api.Cond{Kind: api.CondNot} },
	} {
		p := program(t, "thread;r0 = fetch x 1")
		change(&p)
		for most := range api.MaxValues + 1 {
			if l, e := path.Values(p, most); len(l) != 0 || e != api.ErrArg {
				t.Error(i, most, l, e)
			}
		}
	}
	for _, ins := range bad() {
		p := many
		p.Threads = [][]api.Ins{nil, ins}
		if l, e := path.Values(p, 16); len(l) != 0 || e != api.ErrArg {
			t.Error(ins, l, e)
		}
	}
}

// P8.3: a thread may have as many paths as there may be, but not more.
func TestValuesManyPaths(t *testing.T) {
	two := "init x = 1;thread;y = 1" + strings.Repeat(";r0 = x", 11) + ";thread" + strings.Repeat(";r0 = x", 12)
	sixteen := "thread;x = 1;x = 2;x = 3;x = 4;x = 5;x = 6;x = 7;x = 8;thread;x = 9;x = 10;x = 11;x = 12;x = 13;x = 14;x = 15;thread;r0 = x;r1 = x;r2 = x"
	for _, v := range []struct {
		lines string
		many  int // no values if there are too many paths
	}{
		{two, 2},
		{two + ";thread;x = 1", 2},
		{two + ";thread;x = 2", 0},
		{two + ";thread;r0 = cas x 1 7", 0}, // in the second round only
		{sixteen, 16},
		{sixteen + ";y = r0;y = r1;y = r2", 16},
		{sixteen + ";skip 3 if 0 < r0;skip 2 if 0 < r1;skip 1 if 0 < r2;r3 = x", 0}, // 4111 paths
		{sixteen + ";r3 = x", 0},
	} {
		l, e := path.Values(program(t, v.lines), 16)
		if len(l) != v.many || v.many > 0 && e != api.OK || v.many == 0 && e != api.ErrMany {
			t.Errorf("%s: %v, %d", v.lines, l, e)
		}
	}
}

// program is a valid program.
func (x *mixer) program(w ways) api.Prog {
	p := api.Prog{Name: "a", Locs: slices.Clone(locs[:w.locs]), Init: x.bytes(w, w.locs), Ask: api.AskAll}
	for range 1 + x.below(4) {
		p.Threads = append(p.Threads, x.thread(w, x.below(5)))
	}
	return p
}

// written are the values of the writes of a program whose reads return the values, and whether no thread has too many paths.
func written(p api.Prog, values []uint8) (map[uint8]bool, bool) {
	met := map[uint8]bool{}
	for _, ins := range p.Threads {
		many := 0
		var look func(reads []uint8)
		look = func(reads []uint8) {
			q, more, _ := traced(ins, reads)
			if !more {
				many++
			}
			for _, v := range values {
				if more && many <= api.MaxPaths {
					look(append(slices.Clone(reads), v))
				}
			}
			for _, e := range q.Events {
				if e.Kind == api.EvWrite {
					met[e.Val] = true
				}
			}
		}
		look(nil)
		if many > api.MaxPaths {
			return nil, false
		}
	}
	return met, true
}

// possible are the possible values of a program, found one at a time, and whether there are not too many of them or of paths.
func possible(p api.Prog, most int) ([]uint8, bool) {
	l := slices.Compact(slices.Sorted(slices.Values(p.Init)))
	for len(l) <= most {
		met, fits := written(p, l)
		if !fits {
			return nil, false
		}
		for _, v := range l {
			delete(met, v)
		}
		if len(met) == 0 {
			return l, true
		}
		for v := range met {
			l = append(l, v)
			break
		}
		slices.Sort(l)
	}
	return nil, false
}

// P8.3, P8.4: mixed programs. Reads of possible values lead to writes of possible values, and with fewer values that is not so.
func TestValuesMixed(t *testing.T) {
	counts := map[int]int{}
	for n := range 500 {
		x := mixer(n)
		p := x.program([]ways{{3, 2, 2}, {2, 1, 3}, {2, 2, 256}, {2, 6, 64}}[n%4])
		l, e := path.Values(p, 16)
		want, fits := possible(p, 16)
		if !slices.Equal(l, want) || fits != (e == api.OK) || !fits && e != api.ErrMany {
			t.Fatal(p, l, e, want)
		}
		counts[len(l)]++
		for most := range 17 {
			few, e2 := path.Values(p, most)
			if e == api.OK && len(l) <= most && (!slices.Equal(few, l) || e2 != api.OK) || (e != api.OK || len(l) > most) && (len(few) != 0 || e2 != api.ErrMany) {
				t.Fatal(p, most, few, e2)
			}
		}
		if e != api.OK || len(l) > 6 {
			continue
		}
		for part := range 1 << len(l) {
			var some []uint8
			for i, v := range l {
				if part>>i&1 == 1 {
					some = append(some, v)
				}
			}
			if closed := isClosed(p, some); closed != (len(some) == len(l)) {
				t.Fatal(p, l, some)
			}
		}
	}
	for _, n := range []int{0, 1, 2, 3, 4, 5, 6} {
		if counts[n] == 0 {
			t.Error(counts)
		}
	}
}

// isClosed reports whether the initial values are among those given, and what is written when these are read.
func isClosed(p api.Prog, values []uint8) bool {
	met, _ := written(p, values)
	for _, v := range p.Init {
		met[v] = true
	}
	for v := range met {
		if !slices.Contains(values, v) {
			return false
		}
	}
	return true
}
