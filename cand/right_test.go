package cand_test

import (
	"math"
	"reflect"
	"slices"
	"testing"

	"seisin/api"
	"seisin/cand"
)

// wellFormed reports whether an execution is well-formed, sentence by sentence as the chapter has it.
func wellFormed(x api.Exec) bool {
	if len(x.Events) > 48 || !fineEvents(x.Events) {
		return false
	}
	rels, _ := relations(&x)
	for _, r := range rels {
		if r.N != len(x.Events) {
			return false
		}
		for a := range r.To {
			for b := 0; r.To[a]>>b != 0; b++ {
				if has(r, a, b) && (a >= r.N || b >= r.N) {
					return false
				}
			}
		}
	}
	return finePo(x) && fineRf(x) && fineCo(x) && fineMem(x) && fineDependencies(x)
}

func fineEvents(events []api.Event) bool {
	locs, before := 0, map[int]int{}
	for i, e := range events {
		if e.Thread == api.Init {
			if i != locs || e.Kind != api.EvWrite || int(e.Loc) != locs || e.Mode != 0 || e.Ins != 0 || e.Pos != 0 {
				return false
			}
			locs++
			continue
		}
		switch {
		case e.Thread < 0 || e.Thread > 3 || i > 0 && events[i-1].Thread > e.Thread:
			return false
		case int(e.Pos) != before[e.Thread]:
			return false
		case e.Kind == api.EvFence && (e.Loc != 0 || e.Val != 0):
			return false
		case e.Kind != api.EvFence && e.Kind != api.EvRead && e.Kind != api.EvWrite:
			return false
		}
		before[e.Thread]++
	}
	return 1 <= locs && locs <= 6 && !slices.ContainsFunc(events, func(e api.Event) bool { return e.Kind != api.EvFence && int(e.Loc) >= locs })
}

// every reports whether something is so for all pairs of events.
func every(x api.Exec, is func(a, b int) bool) bool {
	for a := range x.Events {
		for b := range x.Events {
			if !is(a, b) {
				return false
			}
		}
	}
	return true
}

// along reports whether two events are of a thread and the first one comes first.
func along(x api.Exec, a, b int) bool {
	return a < b && x.Events[a].Thread == x.Events[b].Thread && x.Events[a].Thread != api.Init
}

func finePo(x api.Exec) bool {
	return every(x, func(a, b int) bool { return has(&x.Po, a, b) == along(x, a, b) })
}

func fineRf(x api.Exec) bool {
	sources := map[int]int{}
	fits := every(x, func(a, b int) bool {
		if !has(&x.Rf, a, b) {
			return true
		}
		sources[b]++
		w, r := x.Events[a], x.Events[b]
		return w.Kind == api.EvWrite && r.Kind == api.EvRead && w.Loc == r.Loc && w.Val == r.Val
	})
	for i, e := range x.Events {
		fits = fits && (e.Kind != api.EvRead || sources[i] == 1)
	}
	return fits
}

func fineCo(x api.Exec) bool {
	return every(x, func(a, b int) bool {
		v, w := x.Events[a], x.Events[b]
		if a == b || v.Kind != api.EvWrite || w.Kind != api.EvWrite || v.Loc != w.Loc {
			return !has(&x.Co, a, b)
		}
		if has(&x.Co, a, b) == has(&x.Co, b, a) || w.Thread == api.Init && has(&x.Co, a, b) {
			return false
		}
		for c := range x.Events {
			if has(&x.Co, a, b) && has(&x.Co, b, c) && !has(&x.Co, a, c) {
				return false
			}
		}
		return true
	})
}

func fineMem(x api.Exec) bool {
	var mem [api.MaxLocs]uint8
	for i, e := range x.Events {
		if e.Kind == api.EvWrite && x.Co.To[i] == 0 {
			mem[e.Loc] = e.Val
		}
	}
	return mem == x.Final.Mem
}

func fineDependencies(x api.Exec) bool {
	halves := map[int]int{}
	return every(x, func(a, b int) bool {
		read, write := x.Events[a].Kind == api.EvRead, x.Events[b].Kind == api.EvWrite
		if has(&x.Rmw, a, b) {
			halves[a]++
			halves[b]++
			if x.Events[a].Loc != x.Events[b].Loc || halves[a] > 1 || halves[b] > 1 {
				return false
			}
		}
		return !has(&x.Ctrl, a, b) && !has(&x.Data, a, b) && !has(&x.Rmw, a, b) || along(x, a, b) && read && (write || !has(&x.Data, a, b) && !has(&x.Rmw, a, b))
	})
}

// holdRight holds Right against the sentences, and returns what they say.
func holdRight(t *testing.T, x api.Exec) bool {
	t.Helper()
	want := wellFormed(x)
	if cand.Right(x) != want {
		t.Fatalf("%+v: %v", x, !want)
	}
	return want
}

// mended is an execution of the events whose relations are fine if the events are: each read reads from the first source that there is, and the writes are ordered as they stand.
func mended(events []api.Event) api.Exec {
	x := api.Exec{Events: events}
	n := min(len(events), api.MaxItems)
	for _, r := range []*api.Rel{&x.Rf, &x.Data, &x.Ctrl, &x.Rmw} {
		r.N = n
	}
	x.Po = relation(n, func(a, b int) bool { return along(x, a, b) })
	x.Co = relation(n, func(a, b int) bool {
		v, w := events[a], events[b]
		return a < b && v.Kind == api.EvWrite && w.Kind == api.EvWrite && v.Loc == w.Loc
	})
	for i, e := range events[:n] {
		if e.Kind == api.EvWrite && e.Loc < api.MaxLocs {
			x.Final.Mem[e.Loc] = e.Val
		}
		for k, w := range events[:n] {
			if e.Kind == api.EvRead && w.Kind == api.EvWrite && w.Loc == e.Loc && w.Val == e.Val {
				x.Rf.To[k] |= 1 << i
				break
			}
		}
	}
	return x
}

// initials are the initial writes of so many locations.
func initials(n int) (l []api.Event) {
	for loc := range n {
		l = append(l, api.Event{Thread: api.Init, Kind: api.EvWrite, Loc: uint8(loc), Val: uint8(loc % 2)})
	}
	return l
}

// P9.2: all short lists of events behind initial writes.
func TestRightEvents(t *testing.T) {
	var wide, few []api.Event
	product([][]int{{api.Init, 0, 1, 3, 4, -2}, {0, 1, 2, 3, 4, 255}, {0, 1, 2}, {0, 1}, {0, 1, 2}}, func(v []int) {
		wide = append(wide, api.Event{Thread: v[0], Kind: uint8(v[1]), Loc: uint8(v[2]), Val: uint8(v[3]), Pos: uint8(v[4])})
	})
	product([][]int{{0, 1, 2}, {1, 2, 3}, {0}, {0, 1}, {0, 1, 2}}, func(v []int) {
		few = append(few, api.Event{Thread: v[0], Kind: uint8(v[1]), Loc: uint8(v[2]), Val: uint8(v[3]), Pos: uint8(v[4])})
	})
	right := map[int]int{}
	for _, locs := range []int{0, 1, 2, 6, 7} {
		for _, lists := range [][][]api.Event{{}, {wide}, {few, few}, {wide, few[:9]}, {few, few, few[len(few)/2:]}} {
			product(lists, func(l []api.Event) {
				if holdRight(t, mended(slices.Concat(initials(locs), l))) {
					right[locs*10+len(l)]++
				}
			})
		}
	}
	for _, locs := range []int{1, 2, 6} {
		if right[locs*10] != 1 || right[locs*10+1] < 3 || right[locs*10+2] < 20 || right[locs*10+3] < 20 {
			t.Error(locs, right)
		}
	}
	if right[0] != 0 || right[70] != 0 {
		t.Error(right)
	}
}

// P9.2: as many events as there may be, and more.
func TestRightMany(t *testing.T) {
	for locs := range 8 {
		l := initials(locs)
		for len(l) < 70 {
			thread := max(0, min(3, (len(l)-locs)/12))
			l = append(l, api.Event{Thread: thread, Kind: api.EvFence, Pos: uint8(len(l) - locs - 12*thread)})
		}
		for n := range l {
			x := mended(l[:n])
			if want := 1 <= locs && locs <= 6 && locs <= n && n <= 48; holdRight(t, x) != want && n >= locs {
				t.Error(locs, n)
			}
			for _, r := range []*api.Rel{&x.Po, &x.Rf, &x.Co, &x.Data, &x.Ctrl, &x.Rmw} {
				r.N = n // no relation can have so many items
			}
			holdRight(t, x)
		}
	}
	if cand.Right(api.Exec{}) || cand.Right(api.Exec{Events: make([]api.Event, 1<<20)}) || cand.Right(api.Exec{Events: initials(1 << 16)}) {
		t.Error("no execution")
	}
}

// samples are candidates of mixed programs.
func samples(many int) (l []api.Exec) {
	for n := 0; len(l) < many; n++ {
		x := mixer(n)
		some, e := cand.Cands(x.program([]int{4, 6, 8}[n%3]), 300)
		if e == api.OK {
			l = append(l, some[x.below(len(some))])
		}
	}
	return l
}

// eventChanges are other values of an event's fields.
func eventChanges() (l []func(*api.Event)) {
	for _, d := range []uint8{1, 2, 3, 7, 254, 255} {
		l = append(l, func(e *api.Event) { e.Kind += d }, func(e *api.Event) { e.Loc += d }, func(e *api.Event) { e.Val += d }, func(e *api.Event) { e.Mode += d }, func(e *api.Event) { e.Ins += d }, func(e *api.Event) { e.Pos += d })
	}
	for _, d := range []int{1, 2, -1, -2, 4, -5, 1 << 32, math.MinInt, math.MaxInt} {
		l = append(l, func(e *api.Event) { e.Thread += d })
	}
	return l
}

// changed are executions that differ from x in one thing: a pair or the size of a relation, a field of an event, an event, or a number of the outcome.
func changed(x api.Exec) (l []api.Exec) {
	with := func(change func(*api.Exec)) {
		y := x
		y.Events = slices.Clone(x.Events)
		change(&y)
		l = append(l, y)
	}
	for i := range 6 {
		rel := func(y *api.Exec) *api.Rel {
			rels, _ := relations(y)
			return rels[i]
		}
		for _, n := range []int{0, -1, len(x.Events) - 1, len(x.Events) + 1, 48, 49, 64, math.MinInt, math.MaxInt, len(x.Events) + 1<<32} {
			with(func(y *api.Exec) { rel(y).N = n })
		}
		n := len(x.Events)
		for _, a := range append(indices(n), n, n+1, 46, 47) {
			for b := range 64 {
				if b < n+2 || b > 45 {
					with(func(y *api.Exec) { rel(y).To[min(a, 47)] ^= 1 << b })
				}
			}
		}
	}
	for i := range x.Events {
		for _, change := range eventChanges() {
			with(func(y *api.Exec) { change(&y.Events[i]) })
		}
		with(func(y *api.Exec) { y.Events = slices.Delete(y.Events, i, i+1) })
		with(func(y *api.Exec) { y.Events = slices.Insert(y.Events, i, y.Events[i]) })
		with(func(y *api.Exec) { y.Events = append(y.Events, y.Events[i]) })
	}
	for i := range x.Final.Mem {
		with(func(y *api.Exec) { y.Final.Mem[i]++ })
		with(func(y *api.Exec) { y.Final.Mem[i] ^= 1 })
	}
	for i := range 32 {
		with(func(y *api.Exec) { y.Final.Regs[i/8][i%8]-- })
	}
	return l
}

func indices(n int) (l []int) {
	for i := range n {
		l = append(l, i)
	}
	return l
}

// P9.2: candidates in which one thing is another are well-formed or not, but never the same.
func TestChanged(t *testing.T) {
	t.Parallel()
	right := map[bool]int{}
	for _, x := range samples(60) {
		if !holdRight(t, x) || !cand.Same(x, x) {
			t.Fatal(shown(x))
		}
		for _, y := range changed(x) {
			right[holdRight(t, y)]++
			same := reflect.DeepEqual(x, y)
			if cand.Same(x, y) != same || cand.Same(y, x) != same || !cand.Same(y, y) {
				t.Fatal(x, y)
			}
		}
	}
	if right[true] < 1000 || right[false] < 10000 {
		t.Error(right)
	}
}

// P9.2: candidates with several changes, most of which are small and some of which undo one another.
func TestRightMixed(t *testing.T) {
	t.Parallel()
	right := 0
	for k, x := range samples(300) {
		mix := mixer(k)
		n := len(x.Events)
		for range 300 {
			y := x
			y.Events = slices.Clone(x.Events)
			for range 1 + mix.below(4) {
				rels, _ := relations(&y)
				a, b := mix.below(n), mix.below(n)
				switch mix.below(6) {
				case 0: // another source
					for w := range y.Rf.To {
						y.Rf.To[w] &^= 1 << b
					}
					y.Rf.To[a] |= 1 << b
				case 1: // a pair turned round
					if has(&y.Co, a, b) || has(&y.Co, b, a) {
						y.Co.To[a] ^= 1 << b
						y.Co.To[b] ^= 1 << a
					}
				case 2:
					y.Final.Mem[mix.below(3)] = y.Events[a].Val
				case 3:
					y.Events[a].Val = y.Events[b].Val
				case 4:
					rels[3+mix.below(3)].To[min(a, b)] ^= 1 << max(a, b)
				case 5:
					rels[mix.below(6)].To[a] ^= 1 << b
				}
			}
			if holdRight(t, y) {
				right++
			}
		}
	}
	if right < 1000 {
		t.Error(right)
	}
}

// P9.2: all relations on four events in the place of each relation of an execution.
func TestRightRelations(t *testing.T) {
	t.Parallel()
	ev := func(thread int, kind, loc, val, pos uint8) api.Event {
		return api.Event{Thread: thread, Kind: kind, Loc: loc, Val: val, Pos: pos}
	}
	const r, w, f = api.EvRead, api.EvWrite, api.EvFence
	right := map[int]int{}
	for i, l := range [][]api.Event{
		{ev(0, w, 0, 5, 0), ev(0, w, 0, 6, 1), ev(1, w, 0, 7, 0)},
		{ev(0, r, 0, 0, 0), ev(0, w, 0, 0, 1), ev(0, w, 0, 0, 2)},
		{ev(0, r, 0, 0, 0), ev(0, r, 0, 0, 1), ev(0, w, 0, 0, 2)},
		{ev(0, r, 0, 0, 0), ev(0, f, 0, 0, 1), ev(1, w, 0, 0, 0)},
		{ev(-1, w, 1, 0, 0), ev(2, r, 1, 0, 0), ev(2, w, 0, 0, 1)},
		{ev(-1, w, 1, 8, 0), ev(0, w, 1, 7, 0), ev(0, w, 0, 6, 1)},
	} {
		x := mended(slices.Concat(initials(1), l))
		if !holdRight(t, x) {
			t.Fatal(i)
		}
		for k := range 6 {
			for bits := range 1 << 16 {
				y := x
				rels, _ := relations(&y)
				for a := range 4 {
					rels[k].To[a] = api.Set(bits >> (4 * a) & 15)
				}
				if k == 2 { // a memory that fits most orders
					for loc := range 2 {
						for e, v := range x.Events {
							if int(v.Loc) == loc && v.Kind == w && y.Co.To[e] == 0 {
								y.Final.Mem[loc] = v.Val
							}
						}
					}
				}
				if holdRight(t, y) {
					right[10*i+k]++
				}
			}
		}
	}
	for place, want := range map[int]int{0: 1, 1: 1, 2: 6, 3: 1, 4: 1, 5: 1, 10: 1, 11: 3, 12: 2, 13: 4, 14: 4, 15: 3, 21: 4, 23: 4, 24: 8, 25: 3, 31: 2, 33: 1, 34: 2, 35: 1, 41: 1, 42: 1, 43: 2, 44: 2, 45: 1, 52: 1} {
		if right[place] != want {
			t.Error(place, right[place], want)
		}
	}
}

// P9.2: lists of events without elements are the same, whatever else there is.
func TestSameEmpty(t *testing.T) {
	x := api.Exec{Po: api.Rel{N: -5}, Final: api.Final{Mem: [6]uint8{5: 9}}}
	y := x
	y.Events = make([]api.Event, 0, 3)
	if !cand.Same(x, y) || !cand.Same(y, x) || !cand.Same(api.Exec{}, api.Exec{Events: []api.Event{}}) {
		t.Error("not the same")
	}
	y.Events = y.Events[:1]
	if cand.Same(x, y) || cand.Same(y, x) {
		t.Error("the same")
	}
	y = x
	y.Po.To[47] = 1 << 63
	if cand.Same(x, y) || !cand.Same(y, y) {
		t.Error("the same")
	}
}
