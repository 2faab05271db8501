package cand_test

import (
	"fmt"
	"math"
	"slices"
	"strings"
	"testing"

	"seisin/api"
	"seisin/cand"
	"seisin/check"
	"seisin/parse"
)

// names are as many locations as a program may have, in the order in which the tests name them.
var names = []string{"x", "y", "z", "a", "b", "c"}

// program is the program of the lines between its name and its query.
func program(t *testing.T, lines string) api.Prog {
	t.Helper()
	p, place, e := parse.Parse("test a\n" + strings.ReplaceAll(lines, ";", "\n") + "\nsome true")
	if e != api.OK || check.Right(p) != api.OK {
		t.Fatal(lines, place, e)
	}
	return p
}

// cands are the candidates of a program, as many as are allowed.
func cands(t *testing.T, p api.Prog) []api.Exec {
	t.Helper()
	l, e := cand.Cands(p, api.MaxCands)
	if e != api.OK {
		t.Fatal(p, e)
	}
	return l
}

// relations are the relations of an execution, and their names.
func relations(x *api.Exec) ([]*api.Rel, []string) {
	return []*api.Rel{&x.Po, &x.Rf, &x.Co, &x.Data, &x.Ctrl, &x.Rmw}, []string{"po", "rf", "co", "data", "ctrl", "rmw"}
}

// has reports whether a relation has a pair, by its definition.
func has(r *api.Rel, a, b int) bool { return r.To[a]>>b&1 == 1 }

// shown is an execution as a text: its events, its relations but for the empty ones, the registers of its threads up to the last one that is not 0, and its memory.
func shown(x api.Exec) string {
	var l []string
	for _, e := range x.Events {
		thread := fmt.Sprint(e.Thread, ".", e.Ins, ".", e.Pos)
		if e.Thread == api.Init && e.Ins == 0 && e.Pos == 0 {
			thread = ""
		}
		s := thread + string("?rwf?"[min(e.Kind, 4)])
		if e.Kind != api.EvFence || e.Loc != 0 || e.Val != 0 {
			s += fmt.Sprint(names[e.Loc], e.Val)
		}
		l = append(l, s+[]string{"", ":acq", ":rel", ":full", ":loads", ":stores", ":?"}[min(e.Mode, 6)])
	}
	rels, called := relations(&x)
	for i, r := range rels {
		if r.N != len(x.Events) {
			called[i] += fmt.Sprint("(", r.N, ")")
		}
		if *r != (api.Rel{N: len(x.Events)}) {
			l = append(l, called[i])
		}
		for a := range r.To {
			for b := range 64 {
				if has(r, a, b) {
					l = append(l, fmt.Sprint(a, ">", b))
				}
			}
		}
	}
	for t, regs := range x.Final.Regs {
		many := len(regs)
		for many > 0 && regs[many-1] == 0 {
			many--
		}
		if many > 0 {
			l = append(l, fmt.Sprint("regs ", t, " ", regs[:many]))
		}
	}
	return strings.Join(append(l, fmt.Sprint("mem ", x.Final.Mem)), " ")
}

// P9.1: the candidates of small programs, in order and with everything in them.
func TestCandsShown(t *testing.T) {
	for _, v := range []struct {
		lines string
		want  []string
	}{
		// the chapter's examples
		{"thread;x = 1;thread;r0 = x", []string{
			"wx0 0.0.0wx1 1.0.0rx0 rf 0>2 co 0>1 mem [1 0 0 0 0 0]",
			"wx0 0.0.0wx1 1.0.0rx1 rf 1>2 co 0>1 regs 1 [1] mem [1 0 0 0 0 0]",
		}},
		{"thread;x = 1;thread;x = 1;thread;r0 = x", []string{
			"wx0 0.0.0wx1 1.0.0wx1 2.0.0rx0 rf 0>3 co 0>1 0>2 1>2 mem [1 0 0 0 0 0]",
			"wx0 0.0.0wx1 1.0.0wx1 2.0.0rx0 rf 0>3 co 0>1 0>2 2>1 mem [1 0 0 0 0 0]",
			"wx0 0.0.0wx1 1.0.0wx1 2.0.0rx1 rf 1>3 co 0>1 0>2 1>2 regs 2 [1] mem [1 0 0 0 0 0]",
			"wx0 0.0.0wx1 1.0.0wx1 2.0.0rx1 rf 1>3 co 0>1 0>2 2>1 regs 2 [1] mem [1 0 0 0 0 0]",
			"wx0 0.0.0wx1 1.0.0wx1 2.0.0rx1 rf 2>3 co 0>1 0>2 1>2 regs 2 [1] mem [1 0 0 0 0 0]",
			"wx0 0.0.0wx1 1.0.0wx1 2.0.0rx1 rf 2>3 co 0>1 0>2 2>1 regs 2 [1] mem [1 0 0 0 0 0]",
		}},
		{"thread;r0 = x;x = 1", []string{
			"wx0 0.0.0rx0 0.1.1wx1 po 1>2 rf 0>1 co 0>2 mem [1 0 0 0 0 0]",
			"wx0 0.0.0rx1 0.1.1wx1 po 1>2 rf 2>1 co 0>2 regs 0 [1] mem [1 0 0 0 0 0]",
		}},
		{"init x = 9;thread;fence", []string{"wx9 0.0.0f:full mem [9 0 0 0 0 0]"}},
		// no events, but of the locations; registers without reads
		{"init x = 255 y = 0 z = 7;thread", []string{"wx255 wy0 wz7 mem [255 0 7 0 0 0]"}},
		{"init x = 3;thread;thread;r7 = 8 - 9;thread;r1 = 2 + 2;thread", []string{"wx3 regs 1 [0 0 0 0 0 0 0 255] regs 2 [0 4] mem [3 0 0 0 0 0]"}},
		// modes, instructions that are skipped, and dependencies
		{"init x = 2 y = 2;thread;r0 = x acq;skip 1 if r0 == 2;fence loads;y = r0 rel;fence stores;r1 = y", []string{
			"wx2 wy2 0.0.0rx2:acq 0.3.1wy2:rel 0.4.2f:stores 0.5.3ry2 po 2>3 2>4 2>5 3>4 3>5 4>5 rf 0>2 1>5 co 1>3 data 2>3 ctrl 2>3 2>4 2>5 regs 0 [2 2] mem [2 2 0 0 0 0]",
			"wx2 wy2 0.0.0rx2:acq 0.3.1wy2:rel 0.4.2f:stores 0.5.3ry2 po 2>3 2>4 2>5 3>4 3>5 4>5 rf 0>2 3>5 co 1>3 data 2>3 ctrl 2>3 2>4 2>5 regs 0 [2 2] mem [2 2 0 0 0 0]",
		}},
		// an atomic instruction that reads what it writes itself; dependencies of a second thread
		{"init x = 1;thread;thread;r0 = swap x 1", []string{
			"wx1 1.0.0rx1:full 1.0.1wx1:full po 1>2 rf 0>1 co 0>2 rmw 1>2 regs 1 [1] mem [1 0 0 0 0 0]",
			"wx1 1.0.0rx1:full 1.0.1wx1:full po 1>2 rf 2>1 co 0>2 rmw 1>2 regs 1 [1] mem [1 0 0 0 0 0]",
		}},
		{"init x = 1 y = 1;thread;fence;thread;r2 = y;r0 = cas x r2 0", []string{
			"wx1 wy1 0.0.0f:full 1.0.0ry1 1.1.1rx1:full 1.1.2wx0:full po 3>4 3>5 4>5 rf 0>4 1>3 co 0>5 ctrl 3>5 4>5 rmw 4>5 regs 1 [1 0 1] mem [0 1 0 0 0 0]",
		}},
	} {
		l := cands(t, program(t, v.lines))
		var got []string
		for _, x := range l {
			got = append(got, shown(x))
		}
		if !slices.Equal(got, v.want) {
			t.Errorf("%s: %d\n%s\nwant\n%s", v.lines, len(l), strings.Join(got, "\n"), strings.Join(v.want, "\n"))
		}
	}
}

// choice is what a candidate of a program has chosen: what is read, the source of each read, and the order of each location's writes.
func choice(x api.Exec) string {
	var reads, from, orders []string
	for i, e := range x.Events {
		for w := range x.Events {
			if has(&x.Rf, w, i) {
				reads, from = append(reads, fmt.Sprint(e.Val)), append(from, fmt.Sprint(w))
			}
		}
		if e.Thread == api.Init {
			orders = append(orders, strings.Trim(fmt.Sprint(orderOf(&x.Co, i)), "[]"))
		}
	}
	return strings.Join(reads, " ") + " from " + strings.Join(from, " ") + " in " + strings.Join(orders, ", ")
}

// orderOf are the events behind the initial write of a location, in coherence order.
func orderOf(co *api.Rel, initial int) []int {
	l := []int{}
	for a := range co.N {
		if has(co, initial, a) {
			l = append(l, a)
		}
	}
	slices.SortFunc(l, func(a, b int) int {
		if has(co, a, b) {
			return -1
		}
		return 1
	})
	return l
}

// P9.1: the first thread counts most, then the first read, then the first location.
func TestCandsOrder(t *testing.T) {
	for _, v := range []struct {
		lines string
		want  []string
	}{
		{"init x = 0;thread;r0 = y;thread;r0 = x;thread;x = 1;thread;y = 1", []string{ // events: 2 ry, 3 rx, 4 wx, 5 wy
			"0 0 from 1 0 in 4, 5", "0 1 from 1 4 in 4, 5", "1 0 from 5 0 in 4, 5", "1 1 from 5 4 in 4, 5",
		}},
		{"thread;x = 0;y = 0;thread;r0 = y;r1 = x", []string{ // 2 wx, 3 wy, 4 ry, 5 rx
			"0 0 from 1 0 in 2, 3", "0 0 from 1 2 in 2, 3", "0 0 from 3 0 in 2, 3", "0 0 from 3 2 in 2, 3",
		}},
		{"init x = 0;thread;y = 0;x = 1;thread;x = 2;y = 3", []string{ // 2 wy, 3 wx, 4 wx, 5 wy
			" from  in 3 4, 2 5", " from  in 3 4, 5 2", " from  in 4 3, 2 5", " from  in 4 3, 5 2",
		}},
		{"thread;x = 0;thread;x = 0;thread;y = r1;r0 = x", []string{ // 2 wx, 3 wx, 4 wy, 5 rx
			"0 from 0 in 2 3, 4", "0 from 0 in 3 2, 4", "0 from 2 in 2 3, 4", "0 from 2 in 3 2, 4", "0 from 3 in 2 3, 4", "0 from 3 in 3 2, 4",
		}},
		{"thread;r0 = x;skip 1 if r0 == 0;x = 1;thread;x = 1", []string{ // 1 rx, (2 wx,) then wx
			"0 from 0 in 2", "1 from 2 in 2 3", "1 from 2 in 3 2", "1 from 3 in 2 3", "1 from 3 in 3 2",
		}},
		{"thread;x = 1;x = 2;x = 3", []string{
			" from  in 1 2 3", " from  in 1 3 2", " from  in 2 1 3", " from  in 2 3 1", " from  in 3 1 2", " from  in 3 2 1",
		}},
		{"init x = 2 y = 1;thread;r0 = x;thread;r0 = y", []string{"2 1 from 0 1 in , "}},
	} {
		var got []string
		for _, x := range cands(t, program(t, v.lines)) {
			got = append(got, choice(x))
		}
		if !slices.Equal(got, v.want) {
			t.Errorf("%s:\n%s\nwant\n%s", v.lines, strings.Join(got, "\n"), strings.Join(v.want, "\n"))
		}
	}
}

// holdError holds the error of Cands, and that there are no candidates then.
func holdError(t *testing.T, p api.Prog, most int, want api.Errno) {
	t.Helper()
	if l, e := cand.Cands(p, most); len(l) != 0 || e != want {
		t.Errorf("%v, at most %d: %d, error %d, want %d", p, most, len(l), e, want)
	}
}

// P9.1: programs that are not valid, and limits that there are not, whatever else would be told.
func TestCandsInvalid(t *testing.T) {
	fine, many := program(t, "thread;x = 1"), program(t, "thread;r0 = fetch x 1;thread;r0 = fetch x 1")
	for _, most := range []int{-1, 20001, math.MinInt, math.MaxInt, 1 << 16, -1 << 32, 1 << 32} {
		for _, p := range []api.Prog{{}, fine, many} {
			holdError(t, p, most, api.ErrArg)
		}
	}
	for _, change := range []func(*api.Prog){
		func(p *api.Prog) { *p = api.Prog{} },
		func(p *api.Prog) { p.Name = "" },
		func(p *api.Prog) { p.Locs = nil },
		func(p *api.Prog) { p.Locs = []string{"r1"} },
		func(p *api.Prog) { p.Init = nil },
		func(p *api.Prog) { p.Init = []uint8{0, 0} },
		func(p *api.Prog) { p.Threads = nil },
		func(p *api.Prog) { p.Threads = make([][]api.Ins, 5) },
		func(p *api.Prog) { p.Threads = [][]api.Ins{make([]api.Ins, 13)} },
		func(p *api.Prog) { p.Threads = [][]api.Ins{nil, {{Op: api.OpLoad, Loc: 1}}} }, // there is no such location here
		func(p *api.Prog) { p.Threads = [][]api.Ins{nil, {{}}} },
		func(p *api.Prog) { p.Ask = 0 },
		func(p *api.Prog) { p.Cond = api.Cond{Kind: api.CondNot} },
	} {
		for _, p := range []api.Prog{fine, many} {
			change(&p)
			for _, most := range []int{0, 1, api.MaxCands} {
				holdError(t, p, most, api.ErrArg)
			}
		}
	}
}

// Lines that read y, in a program of two values of which y has but one: so many lists of values there are for them, and one that has its sources.
const (
	two   = ";r0 = y"
	three = ";r0 = y;skip 1 if r0 != 0;r1 = y"
	five  = ";r0 = y;skip 2 if r0 != 0;r1 = y;r2 = y"
	seven = ";r0 = y;r1 = y;skip 1 if r0 < r1;r2 = y"
)

// P9.1: as many choices of a path for each thread as there may be, and more, though but one of them has sources.
func TestCandsMixed(t *testing.T) {
	twos := func(n int) string { return ";thread" + strings.Repeat(two, n) }
	fives := func(n int) string { return ";thread" + strings.Repeat(five, n) }
	more := ";thread;r3 = y;skip %d if r3 != 0" // one more than what follows has
	plus41 := fmt.Sprintf(more, 7) + five + strings.Repeat(two, 3)
	plus65 := fmt.Sprintf(more, 6) + strings.Repeat(two, 6)
	sum := ";thread;r0 = y;r1 = y;r2 = y;r3 = y;r0 = r0 + r1;r2 = r2 + r3;r0 = r0 + r2" // 4 for one list of 16
	of17 := sum + ";skip 1 if r0 != 4" + two
	of241 := sum + ";skip 4 if r0 == 4" + strings.Repeat(two, 4)
	for _, v := range []struct {
		lines string
		fits  bool
	}{
		{twos(12), true},
		{twos(12) + twos(0) + twos(0) + twos(0), true},
		{twos(5) + twos(3) + twos(4), true},
		{twos(3) + twos(3) + twos(3) + twos(3), true},
		{twos(6) + twos(6), true},
		{twos(6) + plus65, false},                          // 64 * 65
		{";thread" + seven + three + three + plus65, true}, // 63 * 65
		{of17 + of241, false},                              // 4097
		{of241 + twos(4), true},
		{of17 + twos(7), true},
		{twos(6) + twos(7), false},
		{twos(12) + twos(1), false},
		{twos(1) + twos(0) + twos(12), false},
		{fives(2) + three + fives(2) + two, true},    // 75 * 50
		{fives(2) + twos(2) + plus41, false},         // 25 * 4 * 41
		{fives(2) + plus41, true},                    // 25 * 41
		{plus41 + twos(2) + twos(2) + twos(2), true}, // 41 * 64
		{plus41 + twos(2) + twos(2) + twos(3), false},
		{plus41 + fives(3), false},
		{twos(12) + twos(12) + twos(12) + twos(12), false},
	} {
		p := program(t, "init x = 1"+v.lines)
		if !v.fits {
			holdError(t, p, api.MaxCands, api.ErrMany)
			continue
		}
		if l := cands(t, p); len(l) != 1 || !cand.Right(l[0]) {
			t.Error(v.lines, len(l))
		}
		holdError(t, p, 0, api.ErrMany)
	}
}

// P9.1: as many events as there may be, those of the locations counted, and more. A choice counts even if its reads have no sources.
func TestCandsEvents(t *testing.T) {
	all := "init x = 1 y = 0 z = 0 a = 0 b = 0 c = 0"
	fences := func(n int) string { return ";thread" + strings.Repeat(";fence loads", n) }
	tries := ";thread" + strings.Repeat(";r0 = cas y 1 0", 12) // they read no 1, but would write as often as they read it
	for _, v := range []struct {
		lines string
		fits  bool
	}{
		{all + fences(12) + fences(12) + fences(12) + fences(6), true},
		{all + fences(12) + fences(12) + fences(12) + fences(7), false},
		{all + fences(12) + fences(12) + fences(12) + fences(12), false},
		{"init x = 1" + fences(12) + fences(12) + fences(12) + fences(11), true},
		{"init x = 1" + fences(12) + fences(12) + fences(12) + fences(12), false},
		{all + ";thread;skip 2 if 0 == 0" + strings.Repeat(";fence", 2+6) + fences(12) + fences(12) + fences(12), true},
		{all + ";thread;skip 2 if 0 == 0" + strings.Repeat(";fence", 2+7) + fences(12) + fences(12) + fences(12), false},
		// the read of y returns 0 only; if it returned 1, there would be one event more
		{all + ";thread;r0 = y;skip 1 if r0 == 0;fence" + fences(12) + fences(12) + fences(12), true},
		{all + ";thread;r0 = y;skip 5 if r0 == 0" + strings.Repeat(";fence", 5) + fences(12) + fences(12) + fences(12), true},
		{all + ";thread;r0 = y;skip 6 if r0 == 0" + strings.Repeat(";fence", 6) + fences(12) + fences(12) + fences(12), false},
		// the path that has most is neither the first nor the last
		{all + fences(12) + fences(12) + fences(12) + ";thread;r0 = y;skip 6 if r0 != 1" + strings.Repeat(";fence", 5) + ";r1 = y", false},
		{all + fences(12) + fences(12) + fences(12) + ";thread;r0 = y;skip 6 if r0 != 0" + strings.Repeat(";fence", 5) + ";r1 = y", false},
		{all + fences(12) + fences(12) + fences(12) + ";thread;r0 = y;skip 5 if r0 != 0" + strings.Repeat(";fence", 5), true},
		{all + fences(12) + fences(12) + fences(12) + ";thread;r0 = y;r1 = y;skip 5 if r0 == r1" + strings.Repeat(";fence", 5), false},
		{all + fences(12) + fences(12) + fences(12) + ";thread;r0 = y;r1 = y;skip 4 if r0 == r1" + strings.Repeat(";fence", 4), true},
		// one of the choices has too many, but only if two threads have their longest paths
		{all + ";thread;r0 = y;skip 4 if r0 == 0" + strings.Repeat(";fence", 4) + ";thread;r0 = y;skip 2 if r0 != 1;fence;fence" + fences(12) + fences(12), true},
		{all + fences(12) + fences(12) + ";thread;r0 = y;skip 8 if r0 == 0" + strings.Repeat(";fence", 8) + ";thread;r0 = y;skip 8 if r0 != 1" + strings.Repeat(";fence", 8), true},
		{all + fences(12) + fences(12) + ";thread;r0 = y;skip 8 if r0 == 0" + strings.Repeat(";fence", 8) + ";thread;r0 = y;skip 9 if r0 != 1" + strings.Repeat(";fence", 9), false},
		// atomic instructions have two events
		{"init x = 1 y = 0" + fences(12) + fences(10) + tries, true},
		{"init x = 1 y = 0" + fences(12) + fences(11) + tries, false},
	} {
		p := program(t, v.lines)
		if !v.fits {
			holdError(t, p, api.MaxCands, api.ErrMany)
			continue
		}
		if l := cands(t, p); len(l) != 1 || !cand.Right(l[0]) {
			t.Error(v.lines, len(l))
		}
	}
}

// P9.1: as many candidates as there may be, and more.
func TestCandsMany(t *testing.T) {
	stores := func(n int) string { return strings.Repeat(";x = 0", n) }
	loads := func(n int) string { return strings.Repeat(";r0 = x", n) }
	later := func(n int) string { return strings.Repeat(";z = 0", n) }
	for _, v := range []struct {
		lines string
		many  int // no number if there are too many for any limit
	}{
		{"thread" + stores(7), 5040},
		{"thread" + stores(3) + ";thread" + stores(4), 5040},
		{"thread" + stores(8), 0},
		{"thread" + stores(12) + ";thread" + stores(12) + ";thread" + stores(12) + ";thread" + stores(11), 0},
		{"thread" + stores(6) + loads(1), 5040},
		{"thread" + stores(1) + ";thread" + loads(12) + ";thread" + loads(2), 16384},
		{"thread" + stores(1) + ";thread" + loads(12) + ";thread" + loads(3), 0},
		{"thread" + stores(4) + loads(1) + strings.Repeat(";y = 0", 2) + strings.Repeat(";r1 = y", 4), 19440},
		{"thread" + stores(6) + loads(1) + strings.Repeat(";y = 0", 1) + strings.Repeat(";r1 = y", 2), 0}, // 20160
		{"thread" + stores(3) + ";y = 0;y = 0;y = 0;z = 0;z = 0;z = 0", 216},
		{"thread" + stores(3) + ";y = 0;y = 0;y = 0;z = 0;z = 0;z = 0;thread" + later(2), 4320},
		{"thread" + stores(3) + ";y = 0;y = 0;y = 0;z = 0;z = 0;z = 0;thread" + later(3), 0}, // 25920
		// the products of these are far beyond any integer; the last one is a multiple of 2 to the power 64
		{"thread" + stores(7) + ";thread" + loads(12) + ";thread" + loads(12), 0},
		{"thread" + stores(9) + ";thread" + loads(12) + ";thread" + loads(12) + ";thread" + loads(12), 0},
		{"thread" + stores(3) + ";thread" + loads(12) + ";thread" + loads(12) + ";thread" + loads(8), 0},
		{"thread" + stores(1) + ";r0 = x;r0 = x;r0 = x;r0 = x;thread" + loads(12) + ";thread" + loads(12) + ";thread" + loads(12), 0},
		// a choice of so many writes counts only if all reads have sources, though these come later
		{"init x = 1 y = 0;thread;r0 = y;skip 9 if r0 == 0" + strings.Repeat(";z = 0", 9), 1},
		{"init x = 1 y = 0;thread;r0 = y;skip 9 if r0 == 0" + strings.Repeat(";z = 0", 9) + ";thread;r1 = y", 1},
		{"init x = 1 y = 0;thread;r0 = x;skip 9 if r0 == 0" + strings.Repeat(";z = 0", 9) + ";thread;r1 = y", 0},
		// too many values
		{"thread;r0 = fetch x 1", 0},
		{"thread;r0 = x;skip 2 if 15 < r0;r0 = r0 + 1;x = r0", 0},
		{"thread;r0 = x;skip 2 if 14 < r0;r0 = r0 + 1;x = r0", 1}, // what it reads is never what it writes
	} {
		p := program(t, v.lines)
		if v.many == 0 {
			for _, most := range []int{0, 1, 19999, 20000} {
				holdError(t, p, most, api.ErrMany)
			}
			continue
		}
		for _, most := range []int{v.many, v.many + 1, 19999, 20000} {
			if l, e := cand.Cands(p, most); len(l) != v.many || e != api.OK {
				t.Error(v.lines, most, len(l), e)
			}
		}
		for _, most := range []int{0, v.many / 2, v.many - 1} {
			holdError(t, p, most, api.ErrMany)
		}
	}
}

// P9.1: very many choices with very many writes, but all without sources save one, are passed over in time.
func TestCandsSourceless(t *testing.T) {
	p := program(t, "init x = 1;thread"+strings.Repeat(";z = 1", 8)+";thread;r1 = x;r2 = y;r0 = z"+";thread"+strings.Repeat(";r0 = y", 9))
	holdError(t, p, api.MaxCands, api.ErrMany)
	p = program(t, "init x = 1;thread"+strings.Repeat(";z = 1", 5)+";thread"+strings.Repeat(";r0 = y", 12))
	if l := cands(t, p); len(l) != 120 {
		t.Error(len(l))
	}
}
