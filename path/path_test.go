package path_test

import (
	"fmt"
	"slices"
	"strings"
	"testing"

	"seisin/api"
	"seisin/parse"
	"seisin/path"
)

// locs are as many locations as a program may have.
var locs = []string{"x", "y", "z", "a", "b", "c"}

// thread is the thread of the sources of its instructions.
func thread(t *testing.T, lines ...string) []api.Ins {
	t.Helper()
	var ins []api.Ins
	for _, s := range lines {
		x, place, e := parse.Line(s, locs...)
		if e != api.OK {
			t.Fatal(s, place, e)
		}
		ins = append(ins, x)
	}
	return ins
}

// shown is a path as a text: its events, its dependencies, and its registers up to the last one that is not 0.
func shown(p api.Path) string {
	var l []string
	for i, e := range p.Events {
		kind, mode := string("?rwf?"[min(e.Kind, 4)]), []string{"", ":acq", ":rel", ":full", ":loads", ":stores", ":?"}[min(e.Mode, 6)]
		if e.Thread != 0 || int(e.Pos) != i {
			kind += "?"
		}
		if e.Kind != api.EvFence || e.Loc != 0 || e.Val != 0 {
			kind += fmt.Sprint(locs[e.Loc], e.Val)
		}
		l = append(l, fmt.Sprint(e.Ins, kind, mode))
	}
	for _, v := range []struct {
		name  string
		pairs [][2]uint8
	}{{"data", p.Data}, {"ctrl", p.Ctrl}, {"rmw", p.Rmw}} {
		if len(v.pairs) > 0 {
			l = append(l, v.name)
		}
		for _, pair := range v.pairs {
			l = append(l, fmt.Sprintf("%d>%d", pair[0], pair[1]))
		}
	}
	many := len(p.Regs)
	for many > 0 && p.Regs[many-1] == 0 {
		many--
	}
	if many > 0 {
		l = append(l, "regs")
	}
	for _, n := range p.Regs[:many] {
		l = append(l, fmt.Sprint(n))
	}
	return strings.Join(l, " ")
}

// samePath compares paths; nil lists and empty ones are the same.
func samePath(a, b api.Path) bool {
	return slices.Equal(a.Events, b.Events) && slices.Equal(a.Data, b.Data) && slices.Equal(a.Ctrl, b.Ctrl) && slices.Equal(a.Rmw, b.Rmw) && a.Regs == b.Regs
}

// isZero reports whether a path is the zero value.
func isZero(p api.Path) bool { return samePath(p, api.Path{}) }

// follows holds what Follow answers for a thread against a text.
func follows(t *testing.T, ins []api.Ins, reads []uint8, want string) {
	t.Helper()
	p, more, e := path.Follow(ins, reads)
	if s := shown(p); s != want || more || e != api.OK {
		t.Errorf("%v with %v: %q, want %q; %v, %d", ins, reads, s, want, more, e)
	}
}

// sample is a thread and the path that it has if its reads return certain values.
type sample struct {
	lines string
	reads []uint8
	want  string
}

func (s sample) hold(t *testing.T) {
	t.Helper()
	ins := thread(t, strings.FieldsFunc(s.lines, func(r rune) bool { return r == ';' })...)
	follows(t, ins, s.reads, s.want)
	for k := range s.reads {
		if p, more, e := path.Follow(ins, s.reads[:k]); !isZero(p) || !more || e != api.OK {
			t.Errorf("%s with %v: %v, %v, %d", s.lines, s.reads[:k], p, more, e)
		}
	}
	for many := 1; many < 4; many++ {
		if p, more, e := path.Follow(ins, append(slices.Clone(s.reads), make([]uint8, many)...)); !isZero(p) || more || e != api.ErrMany {
			t.Errorf("%s with %v and %d more: %v, %v, %d", s.lines, s.reads, many, p, more, e)
		}
	}
}

// P8.1: the effect of each instruction, with too few and too many reads as well.
func TestFollowEffects(t *testing.T) {
	for _, s := range []sample{
		{"", nil, ""},
		{"r1 = x", []uint8{9}, "0rx9 regs 0 9"},
		{"r7 = c acq", []uint8{255}, "0rc255:acq regs 0 0 0 0 0 0 0 255"},
		{"y = 3", nil, "0wy3"},
		{"y = 3 rel", nil, "0wy3:rel"},
		{"y = r2", nil, "0wy0"},
		{"r1 = y;y = r1 rel", []uint8{4}, "0ry4 1wy4:rel data 0>1 regs 0 4"},
		{"fence", nil, "0f:full"},
		{"fence loads", nil, "0f:loads"},
		{"fence stores;fence", nil, "0f:stores 1f:full"},
		{"r0 = 3 + 4", nil, "regs 7"},
		{"r0 = 3 - 4", nil, "regs 255"},
		{"r0 = 12 ^ 10", nil, "regs 6"},
		{"r0 = 200 + 100;r1 = 0 - 255;r2 = 255 ^ 1", nil, "regs 44 1 254"},
		{"r0 = 5 + 0;r1 = r0 - 3;r2 = 3 - r0;r3 = r1 + r2;r4 = r0 ^ r1", nil, "regs 5 2 254 0 7"},
		{"r1 = swap x 5", []uint8{3}, "0rx3:full 0wx5:full rmw 0>1 regs 0 3"},
		{"r1 = fetch y 5", []uint8{3}, "0ry3:full 0wy8:full data 0>1 rmw 0>1 regs 0 3"},
		{"r1 = fetch y 5", []uint8{252}, "0ry252:full 0wy1:full data 0>1 rmw 0>1 regs 0 252"},
		{"r1 = cas x 3 5", []uint8{3}, "0rx3:full 0wx5:full ctrl 0>1 rmw 0>1 regs 0 3"},
		{"r1 = cas x 3 5", []uint8{5}, "0rx5:full regs 0 5"},
		{"r1 = cas x 0 0", []uint8{0}, "0rx0:full 0wx0:full ctrl 0>1 rmw 0>1"},
		// the same location and register again
		{"r1 = x;r1 = x;x = r1;r1 = x", []uint8{1, 2, 3}, "0rx1 1rx2 2wx2 3rx3 data 1>2 regs 0 3"},
		// arguments are taken before Dst changes
		{"r0 = 7 + 0;r0 = swap x r0", []uint8{3}, "1rx3:full 1wx7:full rmw 0>1 regs 3"},
		{"r0 = 7 + 0;r0 = fetch x r0", []uint8{3}, "1rx3:full 1wx10:full data 0>1 rmw 0>1 regs 3"},
		{"r0 = 7 + 0;r0 = cas x r0 r0", []uint8{7}, "1rx7:full 1wx7:full ctrl 0>1 rmw 0>1 regs 7"},
		{"r0 = 7 + 0;r0 = cas x 3 r0", []uint8{3}, "1rx3:full 1wx7:full ctrl 0>1 rmw 0>1 regs 3"},
		{"r0 = 7 + 0;r0 = cas x r0 1", []uint8{0}, "1rx0:full"},
		{"r0 = 1 + 0;r0 = r0 + r0;r0 = r0 + r0", nil, "regs 4"},
	} {
		s.hold(t)
	}
}

// P8.1: what a skip skips, and for which arguments.
func TestFollowSkips(t *testing.T) {
	for _, s := range []sample{
		{"skip 1 if 1 == 1;x = 1;x = 2", nil, "2wx2"},
		{"skip 1 if 1 == 2;x = 1;x = 2", nil, "1wx1 2wx2"},
		{"skip 2 if 1 == 1;x = 1;x = 2", nil, ""},
		{"skip 2 if 1 != 2;x = 1;x = 2;x = 3", nil, "3wx3"},
		{"skip 1 if 1 != 1;x = 1", nil, "1wx1"},
		{"skip 1 if 1 < 2;x = 1", nil, ""},
		{"skip 1 if 2 < 2;x = 1", nil, "1wx1"},
		{"skip 1 if 3 < 2;x = 1", nil, "1wx1"},
		{"skip 1 if 127 < 128;x = 1", nil, ""},
		{"skip 1 if 255 < 0;x = 1", nil, "1wx1"},
		{"skip 1 if r3 == r4;x = 1", nil, ""},
		// what is skipped needs no value and does nothing
		{"skip 4 if 0 < 1;r0 = x;r1 = fetch x 1;r2 = 1 + 1;fence", nil, ""},
		{"skip 1 if 0 < 1;skip 2 if 0 < 1;x = 1;x = 2", nil, "2wx1 3wx2"},
		{"skip 1 if 1 < 0;skip 2 if 0 < 1;x = 1;x = 2", nil, ""},
		{"skip 2 if 0 < 1;x = 1;skip 1 if 0 < 1;skip 1 if 0 < 1;x = 2;x = 3", nil, "5wx3"},
		// what is read decides
		{"r0 = x;skip 1 if r0 == 2;y = 1;z = 1", []uint8{2}, "0rx2 3wz1 ctrl 0>1 regs 2"},
		{"r0 = x;skip 1 if r0 == 2;y = 1;z = 1", []uint8{3}, "0rx3 2wy1 3wz1 ctrl 0>1 0>2 regs 3"},
		{"r0 = x;skip 1 if r0 < 9;r1 = y", []uint8{8}, "0rx8 regs 8"},
		{"r0 = x;skip 1 if 9 < r0;r1 = y", []uint8{9, 1}, "0rx9 2ry1 ctrl 0>1 regs 9 1"},
		{"r0 = x;r1 = y;skip 1 if r0 != r1;r2 = z", []uint8{1, 1, 1}, "0rx1 1ry1 3rz1 ctrl 0>2 1>2 regs 1 1 1"},
	} {
		s.hold(t)
	}
}

// P8.1: on which reads events depend.
func TestFollowDependencies(t *testing.T) {
	for _, s := range []sample{
		// a move depends on both arguments, whatever it makes of them, and forgets what the register held
		{"r1 = x;r2 = y;r3 = r1 + r2;z = r3", []uint8{1, 2}, "0rx1 1ry2 3wz3 data 0>2 1>2 regs 0 1 2 3"},
		{"r1 = x;r2 = r1 ^ r1;z = r2", []uint8{6}, "0rx6 2wz0 data 0>1 regs 0 6"},
		{"r1 = x;r1 = r1 - r1;r1 = 1 + r1;z = r1", []uint8{6}, "0rx6 3wz1 data 0>1 regs 0 1"},
		{"r1 = x;r1 = 1 + 1;z = r1", []uint8{6}, "0rx6 2wz2 regs 0 2"},
		{"r1 = x;r1 = r2 + 1;z = r1", []uint8{6}, "0rx6 2wz1 regs 0 1"},
		{"r1 = x;r1 = y;z = r1", []uint8{6, 5}, "0rx6 1ry5 2wz5 data 1>2 regs 0 5"},
		{"r1 = x;r2 = r1 + 0;r1 = y;z = r2;z = r1", []uint8{6, 5}, "0rx6 2ry5 3wz6 4wz5 data 0>2 1>3 regs 0 5 6"},
		// a write depends on what it writes, not on where it writes
		{"r1 = x;x = 1", []uint8{6}, "0rx6 1wx1 regs 0 6"},
		{"r1 = x;r2 = swap y r1;z = r2", []uint8{6, 3}, "0rx6 1ry3:full 1wy6:full 2wz3 data 0>2 1>3 rmw 1>2 regs 0 6 3"},
		{"r1 = x;r1 = swap y r1;z = r1", []uint8{6, 3}, "0rx6 1ry3:full 1wy6:full 2wz3 data 0>2 1>3 rmw 1>2 regs 0 3"},
		{"r1 = x;r1 = fetch y r1;z = r1", []uint8{6, 3}, "0rx6 1ry3:full 1wy9:full 2wz3 data 0>2 1>2 1>3 rmw 1>2 regs 0 3"},
		{"r1 = x;r2 = fetch y 1", []uint8{6, 3}, "0rx6 1ry3:full 1wy4:full data 1>2 rmw 1>2 regs 0 6 3"},
		// of a cas A decides and B is written
		{"r1 = x;r2 = y;r3 = cas z r1 r2;a = r3", []uint8{6, 5, 6}, "0rx6 1ry5 2rz6:full 2wz5:full 3wa6 data 1>3 2>4 ctrl 0>3 2>3 rmw 2>3 regs 0 6 5 6"},
		{"r1 = x;r2 = y;r3 = cas z r1 r2;a = r3", []uint8{6, 5, 4}, "0rx6 1ry5 2rz4:full 3wa4 data 2>3 regs 0 6 5 4"},
		{"r1 = x;r1 = cas z r1 r1;a = r1", []uint8{6, 6}, "0rx6 1rz6:full 1wz6:full 2wa6 data 0>2 1>3 ctrl 0>2 1>2 rmw 1>2 regs 0 6"},
		{"r1 = x;skip 1 if r1 == 0;r2 = cas z r1 1", []uint8{6, 6}, "0rx6 2rz6:full 2wz1:full ctrl 0>1 0>2 1>2 rmw 1>2 regs 0 6 6"},
		// a skip concerns all events behind it, also those behind what it skips, and fences
		{"r1 = x;skip 1 if 1 == r1;fence loads;r2 = y;z = 1;r3 = fetch z 1", []uint8{0, 8, 9}, "0rx0 2f:loads 3ry8 4wz1 5rz9:full 5wz10:full data 4>5 ctrl 0>1 0>2 0>3 0>4 0>5 rmw 4>5 regs 0 0 8 9"},
		{"r1 = x;skip 2 if r1 < r1;y = 1;r1 = 0 + 0;y = 2", []uint8{7}, "0rx7 2wy1 4wy2 ctrl 0>1 0>2"},
		{"r1 = x;r1 = r1 - r1;skip 1 if r1 != 0;y = r1", []uint8{7}, "0rx7 3wy0 data 0>1 ctrl 0>1"},
		{"r1 = x;r2 = y;skip 1 if r2 == 0;z = 1;skip 1 if r1 == 0;z = 2;z = 3", []uint8{0, 0}, "0rx0 1ry0 6wz3 ctrl 0>2 1>2"},
		{"r1 = x;r2 = y;skip 1 if r2 == 0;z = 1;skip 1 if r1 == 0;z = 2;z = 3", []uint8{1, 1}, "0rx1 1ry1 3wz1 5wz2 6wz3 ctrl 1>2 0>3 1>3 0>4 1>4 regs 0 1 1"},
		// but not those ahead of it, and one that was skipped concerns none
		{"y = 1;r1 = x;y = 2;skip 1 if r1 == 0;y = 3", []uint8{1}, "0wy1 1rx1 2wy2 4wy3 ctrl 1>3 regs 0 1"},
		{"r1 = x;skip 1 if 0 == 0;skip 1 if r1 == 0;y = 1;y = 2", []uint8{1}, "0rx1 3wy1 4wy2 regs 0 1"},
		{"skip 1 if r1 == 0;r2 = y;r1 = x;y = 1", []uint8{4}, "2rx4 3wy1 regs 0 4"},
	} {
		s.hold(t)
	}
}

// P8.1: the chapter's examples.
func TestFollowExamples(t *testing.T) {
	sample{"r1 = x;y = r1", []uint8{7}, "0rx7 1wy7 data 0>1 regs 0 7"}.hold(t)
	sample{"r0 = cas x 0 1", []uint8{0}, "0rx0:full 0wx1:full ctrl 0>1 rmw 0>1"}.hold(t)
	sample{"r0 = cas x 0 1", []uint8{5}, "0rx5:full regs 5"}.hold(t)
}

// P8.1: the greatest number of events, each of which depends on all reads ahead of it.
func TestFollowLong(t *testing.T) {
	ins := slices.Repeat(thread(t, "r1 = fetch x r2"), 12)
	var reads []uint8
	for i := range ins {
		reads = append(reads, uint8(i))
		if i%3 == 2 {
			ins[i] = thread(t, "r2 = r1 + r2")[0]
		}
	}
	follows(t, ins, reads[:8], "0rx0:full 0wx0:full 1rx1:full 1wx1:full 3rx2:full 3wx3:full 4rx3:full 4wx4:full 6rx4:full 6wx8:full 7rx5:full 7wx9:full 9rx6:full 9wx15:full 10rx7:full 10wx16:full"+
		" data 0>1 2>3 2>5 4>5 2>7 6>7 2>9 6>9 8>9 2>11 6>11 10>11 2>13 6>13 10>13 12>13 2>15 6>15 10>15 14>15 rmw 0>1 2>3 4>5 6>7 8>9 10>11 12>13 14>15 regs 0 7 16")
	for _, text := range []string{"r1 = fetch c r1", "r1 = swap c r1"} {
		ins = slices.Repeat(thread(t, text), 12)
		p, more, e := path.Follow(ins, reads)
		if len(p.Events) != 24 || len(p.Rmw) != 12 || p.Events[23].Pos != 23 || p.Events[23].Ins != 11 || more || e != api.OK {
			t.Error(p, more, e)
		}
	}
	p, more, e := path.Follow(thread(t, "r0 = x", "r1 = x", "r2 = x", "r3 = x", "r4 = x", "r5 = x", "skip 1 if r0 == r1", "fence", "skip 1 if r2 == r3", "fence", "skip 1 if r4 == r5", "x = r5"), make([]uint8, 6))
	if len(p.Events) != 6 || len(p.Ctrl) != 0 || more || e != api.OK {
		t.Error(p, more, e)
	}
	if p, more, e := path.Follow(slices.Repeat(ins[:1], 12), make([]uint8, 1<<24)); !isZero(p) || more || e != api.ErrMany {
		t.Error(p, more, e)
	}
}

// bad are threads that are not valid, each for one reason.
func bad() [][]api.Ins {
	fence := api.Ins{Op: api.OpFence, Mode: api.ModeFull}
	return [][]api.Ins{
		make([]api.Ins, 1),
		{{Op: 9}},
		{{Op: 255}},
		{{Op: api.OpLoad, Dst: 8}},
		{{Op: api.OpLoad, Loc: 6}},
		{{Op: api.OpLoad, Mode: api.ModeRelease}},
		{{Op: api.OpLoad, Skip: 1}},
		{{Op: api.OpStore, A: api.Arg{Reg: true, N: 8}}},
		{{Op: api.OpStore, Dst: 1}},
		{{Op: api.OpMove}},
		{{Op: api.OpMove, Fn: api.FnEq}},
		{{Op: api.OpSwap, Mode: api.ModeFull}},
		{{Op: api.OpFetch, B: api.Arg{N: 1}}},
		{{Op: api.OpCas, Loc: 255}},
		{{Op: api.OpFence}},
		{{Op: api.OpSkip, Fn: api.FnEq}, fence},
		{{Op: api.OpSkip, Fn: api.FnEq, Skip: 2}, fence},
		{{Op: api.OpSkip, Fn: api.FnEq, Skip: 1}},
		{{Op: api.OpSkip, Fn: api.FnAdd, Skip: 1}, fence},
		{{Op: api.OpSkip, Fn: api.FnEq, Skip: 1}, {Op: 9}}, // although it is skipped
		slices.Repeat([]api.Ins{fence}, 13),
		make([]api.Ins, 1<<20),
	}
}

// P8.1, P8.2: threads that are not valid, whatever else is wrong.
func TestInvalid(t *testing.T) {
	for i, ins := range bad() {
		for n := range 3 {
			if p, more, e := path.Follow(ins, make([]uint8, n)); !isZero(p) || more || e != api.ErrArg {
				t.Error(i, p, more, e)
			}
			for _, most := range []int{-1, 0, 1, 4096, 4097} {
				if l, e := path.Paths(ins, make([]uint8, n), most); len(l) != 0 || e != api.ErrArg {
					t.Error(i, l, e)
				}
			}
		}
	}
}

// P8.1: a thread may use every location that a program may have, and no other.
func TestLocations(t *testing.T) {
	for n := range 256 {
		p, more, e := path.Follow([]api.Ins{{Op: api.OpLoad, Loc: uint8(n)}}, []uint8{1})
		if n < 6 && (e != api.OK || more || p.Events[0].Loc != uint8(n)) || n >= 6 && (e != api.ErrArg || more || !isZero(p)) {
			t.Error(n, p, more, e)
		}
	}
}

// P8.3: the reads of a path, which may be none that Follow gives.
func TestReads(t *testing.T) {
	for _, v := range []struct {
		events []api.Event
		want   []uint8
	}{
		{nil, nil},
		{[]api.Event{{}, {Kind: api.EvWrite, Val: 1}, {Kind: api.EvFence, Val: 2}, {Kind: 4, Val: 3}, {Kind: 255, Val: 4}}, nil},
		{[]api.Event{{Kind: api.EvRead, Val: 9}, {Kind: api.EvWrite, Val: 1}, {Kind: api.EvRead, Val: 3}}, []uint8{9, 3}},
		{[]api.Event{{Kind: api.EvRead, Val: 3, Thread: -5, Loc: 77, Mode: 88, Ins: 99, Pos: 9}, {Kind: api.EvRead, Val: 3}, {Kind: api.EvRead}}, []uint8{3, 3, 0}},
	} {
		if l := path.Reads(api.Path{Events: v.events, Data: [][2]uint8{{7, 7}}}); !slices.Equal(l, v.want) {
			t.Error(v, l)
		}
	}
	if l := path.Reads(api.Path{Events: slices.Repeat([]api.Event{{Kind: api.EvRead, Val: 5}}, 1<<20)}); len(l) != 1<<20 || l[1<<20-1] != 5 {
		t.Error(len(l))
	}
}
