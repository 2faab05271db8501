package path_test

import (
	"bytes"
	"math"
	"slices"
	"testing"

	"seisin/api"
	"seisin/path"
)

// pathsOf are the paths of a thread for the reads, as many as are allowed.
func pathsOf(t *testing.T, ins []api.Ins, dom []uint8) []api.Path {
	t.Helper()
	l, e := path.Paths(ins, dom, api.MaxPaths)
	if e != api.OK {
		t.Fatal(ins, dom, e)
	}
	return l
}

// readsOf are the reads of paths.
func readsOf(l []api.Path) (r [][]uint8) {
	for _, p := range l {
		r = append(r, path.Reads(p))
	}
	return r
}

func sameReads(a, b [][]uint8) bool {
	return slices.EqualFunc(a, b, func(a, b []uint8) bool { return slices.Equal(a, b) })
}

// P8.2: the reads of the paths, and their order.
func TestPaths(t *testing.T) {
	cas := thread(t, "r0 = cas x 0 1")
	jump := thread(t, "r0 = x", "skip 2 if r0 == 2", "r1 = y", "x = r1", "fence")
	for _, v := range []struct {
		ins  []api.Ins
		dom  []uint8
		want [][]uint8
	}{
		{nil, nil, [][]uint8{nil}},
		{nil, []uint8{1, 2}, [][]uint8{nil}},
		{thread(t, "x = 1", "fence"), []uint8{1, 2}, [][]uint8{nil}},
		{thread(t, "skip 1 if 1 == 1", "r0 = x"), []uint8{1, 2}, [][]uint8{nil}},
		{thread(t, "skip 1 if 1 == 1", "r0 = x"), nil, [][]uint8{nil}},
		{cas, nil, nil},
		{cas, []uint8{5}, [][]uint8{{5}}},
		{cas, []uint8{5, 0}, [][]uint8{{0}, {5}}},
		{cas, []uint8{0, 5}, [][]uint8{{0}, {5}}},
		{cas, []uint8{255, 0, 255, 128, 0, 127}, [][]uint8{{0}, {127}, {128}, {255}}},
		{jump, []uint8{2}, [][]uint8{{2}}},
		{jump, []uint8{3, 2, 1, 2}, [][]uint8{{1, 1}, {1, 2}, {1, 3}, {2}, {3, 1}, {3, 2}, {3, 3}}},
		{jump, nil, nil},
	} {
		l := pathsOf(t, v.ins, v.dom)
		if !sameReads(readsOf(l), v.want) {
			t.Errorf("%v for %v: %v", v.ins, v.dom, readsOf(l))
		}
		for i, p := range l {
			if q, _, _ := path.Follow(v.ins, v.want[i]); !samePath(p, q) {
				t.Error(shown(p), shown(q))
			}
		}
	}
	if l := pathsOf(t, cas, []uint8{5, 0}); shown(l[0]) != "0rx0:full 0wx1:full ctrl 0>1 rmw 0>1" || shown(l[1]) != "0rx5:full regs 5" {
		t.Error(l)
	}
}

// holdMost holds the answers for all limits around the number of paths.
func holdMost(t *testing.T, ins []api.Ins, dom []uint8, want []api.Path) {
	t.Helper()
	n := len(want)
	for _, most := range []int{0, 1, n - 1, n, n + 1, 4095, 4096} {
		if most < 0 || most > api.MaxPaths {
			continue
		}
		l, e := path.Paths(ins, dom, most)
		if n > most && (len(l) != 0 || e != api.ErrMany) || n <= most && (!slices.EqualFunc(l, want, samePath) || e != api.OK) {
			t.Errorf("%v for %v, at most %d: %v, %d, want %d paths", ins, dom, most, readsOf(l), e, n)
		}
	}
}

// P8.2: mixed threads. Their paths are those of the lists of reads that are neither too short nor too long.
func TestPathsMixed(t *testing.T) {
	counts := map[int]bool{}
	for n := range 2500 {
		x := mixer(n)
		w := []ways{{8, 6, 256}, {3, 2, 2}, {2, 1, 3}}[n%3]
		ins := x.thread(w, x.below(13))
		dom := x.bytes(w, x.below(4))
		values := slices.Compact(slices.Sorted(slices.Values(dom)))
		var want []api.Path
		var look func(reads []uint8)
		look = func(reads []uint8) {
			p, more, _ := traced(ins, reads)
			if !more {
				want = append(want, p)
				return
			}
			for _, v := range slices.Backward(values) { // in another order
				look(append(slices.Clone(reads), v))
			}
		}
		look(nil)
		slices.SortFunc(want, func(a, b api.Path) int { return bytes.Compare(path.Reads(a), path.Reads(b)) })
		counts[len(want)] = true
		if len(want) <= api.MaxPaths {
			holdMost(t, ins, dom, want)
		} else if l, e := path.Paths(ins, dom, api.MaxPaths); len(l) != 0 || e != api.ErrMany {
			t.Error(ins, dom, readsOf(l), e)
		}
	}
	if len(counts) < 20 {
		t.Error(counts)
	}
}

// P8.2: as many paths as there may be, and more.
func TestPathsMany(t *testing.T) {
	every := make([]uint8, 1<<8)
	for i := range every {
		every[i] = uint8(255 - i)
	}
	twelve, three := slices.Repeat(thread(t, "r0 = x"), 12), slices.Repeat(thread(t, "r0 = x"), 3)
	for _, v := range []struct {
		ins []api.Ins
		dom []uint8
	}{{twelve, []uint8{7, 4}}, {three, every[3:19]}, {three[:2], every[:64]}} {
		l := pathsOf(t, v.ins, v.dom)
		if len(l) != 4096 || !slices.IsSortedFunc(l, func(a, b api.Path) int { return bytes.Compare(path.Reads(a), path.Reads(b)) }) {
			t.Error(len(l))
		}
		holdMost(t, v.ins, v.dom, l)
	}
	for _, v := range []struct {
		ins []api.Ins
		dom []uint8
	}{{twelve, []uint8{7, 4, 9}}, {three, every[3:20]}, {three[:2], every[:65]}, {twelve, every}, {slices.Repeat(thread(t, "r0 = fetch x r0"), 12), slices.Repeat(every, 1<<12)}} {
		for _, most := range []int{0, 1, 256, 4095, 4096} {
			if l, e := path.Paths(v.ins, v.dom, most); len(l) != 0 || e != api.ErrMany {
				t.Error(len(l), e)
			}
		}
	}
	one := thread(t, "y = 1", "r0 = x", "y = r0")
	dom := slices.Repeat([]uint8{3, 255, 3}, 1<<22)
	if l, e := path.Paths(one, dom, 2); !sameReads(readsOf(l), [][]uint8{{3}, {255}}) || e != api.OK {
		t.Error(readsOf(l), e)
	}
	if l, e := path.Paths(one, every, 256); len(l) != 256 || e != api.OK {
		t.Error(len(l), e)
	}
}

// P8.2: limits that there are not, whatever else would be told.
func TestPathsLimits(t *testing.T) {
	for _, most := range []int{-1, 4097, math.MinInt, math.MaxInt, 1 << 16, -1 << 32, 1 << 32} {
		for _, ins := range [][]api.Ins{nil, thread(t, "r0 = x"), thread(t, "x = 1")} {
			for n := range 3 {
				if l, e := path.Paths(ins, make([]uint8, n), most); len(l) != 0 || e != api.ErrArg {
					t.Error(most, l, e)
				}
			}
		}
	}
}
