package check_test

import (
	"slices"
	"testing"

	"seisin/api"
	"seisin/check"
	"seisin/print"
)

// P7.2: every instruction of a grid, ahead of up to two others. It is valid if it has a source, and if a skip stays within the thread.
func TestThreadGrid(t *testing.T) {
	locs := []string{"x", "y"}
	args := []api.Arg{{}, {N: 8}, {Reg: true}, {Reg: true, N: 7}, {Reg: true, N: 8}}
	valid := 0
	for n := range 10 * 3 * 3 * 5 * 5 * 8 * 7 * 4 {
		pick := func(many int) int {
			i := n % many
			n /= many
			return i
		}
		x := api.Ins{Op: uint8(pick(10)), Dst: uint8([]int{0, 7, 8}[pick(3)]), Loc: uint8(pick(3)), A: args[pick(5)], B: args[pick(5)], Fn: uint8(pick(8)), Mode: uint8(pick(7)), Skip: uint8(pick(4))}
		_, e := print.Line(x, locs...)
		for after := range 3 {
			skip := x.Op != api.OpSkip || 1 <= x.Skip && int(x.Skip) <= after
			is := check.Thread(append([]api.Ins{x}, fences(after)...), len(locs))
			if is != (e == api.OK && skip) {
				t.Fatalf("%v ahead of %d: %v", x, after, is)
			}
			if is {
				valid++
			}
		}
	}
	// 2 loads, 2 stores, 3 moves, swap and fetch, cas, 3 fences, each at three places, with 2 valid registers, 2 locations, 4 arguments; 3 skips, of 1 in two places, of 2 in one.
	if want := 3*(2*2*2+2*2*4+3*2*4*4+2*2*2*4+2*2*4*4+3) + 3*3*4*4; valid != want {
		t.Error(valid, want)
	}
}

// P7.2: the fields of an instruction at their bounds, and far beyond.
func TestThreadBounds(t *testing.T) {
	load := func(n uint8) api.Ins { return api.Ins{Op: api.OpLoad, Loc: n} }
	for _, locs := range []int{-1 << 63, -300, -256, -1, 0, 1, 2, 6, 100, 255, 256, 257, 1<<63 - 1} {
		for n := range 256 {
			if is := check.Thread([]api.Ins{load(uint8(n))}, locs); is != (n < locs) {
				t.Errorf("location %d of %d: %v", n, locs, is)
			}
		}
		if !check.Thread(nil, locs) || !check.Thread([]api.Ins{}, locs) || !check.Thread(fences(1), locs) {
			t.Error("no location used, of", locs)
		}
	}
	for n := range 256 {
		b := uint8(n)
		for name, v := range map[string]struct {
			x  api.Ins
			is bool
		}{
			"Op":          {api.Ins{Op: b}, slices.Contains([]uint8{api.OpLoad, api.OpStore, api.OpSwap, api.OpFetch, api.OpCas}, b)},
			"Dst":         {api.Ins{Op: api.OpLoad, Dst: b}, n < 8},
			"constant A":  {api.Ins{Op: api.OpStore, A: val(b)}, true},
			"register A":  {api.Ins{Op: api.OpStore, A: reg(b)}, n < 8},
			"constant B":  {api.Ins{Op: api.OpCas, B: val(b)}, true},
			"register B":  {api.Ins{Op: api.OpCas, B: reg(b)}, n < 8},
			"unused A":    {api.Ins{Op: api.OpLoad, A: val(b)}, n == 0},
			"unused B":    {api.Ins{Op: api.OpStore, B: val(b)}, n == 0},
			"unused Dst":  {api.Ins{Op: api.OpStore, Dst: b}, n == 0},
			"unused Loc":  {api.Ins{Op: api.OpMove, Fn: api.FnAdd, Loc: b}, n == 0},
			"unused Fn":   {api.Ins{Op: api.OpLoad, Fn: b}, n == 0},
			"unused Skip": {api.Ins{Op: api.OpLoad, Skip: b}, n == 0},
			"unused Mode": {api.Ins{Op: api.OpSwap, Mode: b}, n == 0},
			"load Mode":   {api.Ins{Op: api.OpLoad, Mode: b}, b == api.ModePlain || b == api.ModeAcquire},
			"store Mode":  {api.Ins{Op: api.OpStore, Mode: b}, b == api.ModePlain || b == api.ModeRelease},
			"fence Mode":  {api.Ins{Op: api.OpFence, Mode: b}, b == api.ModeFull || b == api.ModeLoads || b == api.ModeStores},
			"move Fn":     {api.Ins{Op: api.OpMove, Fn: b}, b == api.FnAdd || b == api.FnSub || b == api.FnXor},
			"skip Fn":     {api.Ins{Op: api.OpSkip, Skip: 1, Fn: b}, b == api.FnEq || b == api.FnNe || b == api.FnLt},
			"Skip":        {api.Ins{Op: api.OpSkip, Skip: b, Fn: api.FnEq}, n == 1},
		} {
			if is := check.Thread([]api.Ins{v.x, load(0)}, 1); is != v.is {
				t.Errorf("%s %d: %v", name, n, is)
			}
		}
	}
}

// P7.2: an unused argument that is register 0 is not zero.
func TestThreadUnusedRegister(t *testing.T) {
	for _, x := range []api.Ins{
		{Op: api.OpLoad, A: reg(0)}, {Op: api.OpLoad, B: reg(0)}, {Op: api.OpStore, B: reg(0)}, {Op: api.OpSwap, B: reg(0)}, {Op: api.OpFetch, B: reg(0)},
		{Op: api.OpFence, Mode: api.ModeFull, A: reg(0)}, {Op: api.OpFence, Mode: api.ModeFull, B: reg(0)},
	} {
		if check.Thread([]api.Ins{x}, 1) {
			t.Error(x)
		}
		x.A, x.B = api.Arg{}, api.Arg{}
		if !check.Thread([]api.Ins{x}, 1) {
			t.Error(x)
		}
	}
}

// P7.2: a thread has at most 12 instructions, and each of them must be valid where it stands.
func TestThreadPlaces(t *testing.T) {
	for n := range 20 {
		if is := check.Thread(fences(n), 0); is != (n <= 12) {
			t.Error(n, is)
		}
	}
	for n := 1; n <= 12; n++ {
		for i := range n {
			l := fences(n)
			l[i] = api.Ins{}
			if check.Thread(l, 6) {
				t.Errorf("%d of %d", i, n)
			}
			for skip := range 256 {
				l[i] = api.Ins{Op: api.OpSkip, Fn: api.FnNe, Skip: uint8(skip)}
				if is := check.Thread(l, 0); is != (1 <= skip && skip < n-i) {
					t.Errorf("%d of %d skips %d: %v", i, n, skip, is)
				}
			}
		}
	}
	if check.Thread(make([]api.Ins, 1<<20), 6) {
		t.Error("long")
	}
}
