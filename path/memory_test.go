package path_test

import (
	"slices"
	"testing"

	"seisin/api"
	"seisin/parse"
	"seisin/path"
)

// guarded is a copy of a list with two values in its spare capacity.
func guarded[V any](l []V, behind V) []V {
	return append(slices.Clone(l), behind, behind)[:len(l)]
}

// spread is a list with its spare capacity.
func spread[V any](l []V) []V { return l[:cap(l)] }

// places are the addresses of all elements of a list, spare capacity included.
func places[V any](s []V) (l []any) {
	for i := range spread(s) {
		l = append(l, &spread(s)[i])
	}
	return l
}

func placesOfPath(p api.Path) []any {
	return slices.Concat(places(p.Events), places(p.Data), places(p.Ctrl), places(p.Rmw))
}

// holdApart fails if an address occurs twice.
func holdApart(t *testing.T, lists ...[]any) {
	t.Helper()
	met := map[any]bool{}
	for _, a := range slices.Concat(lists...) {
		if met[a] {
			t.Fatal("shared memory")
		}
		met[a] = true
	}
}

// P8.1 to P8.3 (R3, R4): arguments stay as they are, the same ones give the same results, and these share no memory.
func TestMemory(t *testing.T) {
	ins := guarded(thread(t, "r0 = x", "r1 = fetch y r0", "skip 1 if r1 == r0", "r2 = cas x r0 r1", "z = r2"), api.Ins{Op: 99})
	reads, dom := guarded([]uint8{2, 2, 2}, 99), guarded([]uint8{2, 1, 2, 3}, 99)
	prog := api.Prog{Name: "a", Locs: []string{"x", "y", "z"}, Init: guarded([]uint8{2, 1, 2}, 99), Threads: [][]api.Ins{guarded(ins[:1], api.Ins{Op: 99}), guarded(thread(t, "x = 5"), api.Ins{Op: 99})}, Ask: api.AskSome}
	wantIns, wantReads, wantDom, wantInit := slices.Clone(spread(ins)), slices.Clone(spread(reads)), slices.Clone(spread(dom)), slices.Clone(spread(prog.Init))
	met := [][]any{places(ins), places(reads), places(dom), places(prog.Init), places(prog.Threads[0]), places(prog.Threads[1])}
	var shows []string
	for range 2 {
		p, more, e := path.Follow(ins, reads[:2])
		l, e2 := path.Paths(ins, dom, 100)
		v, e3 := path.Values(prog, 16)
		if more || e != api.OK || len(l) != 21 || e2 != api.OK || !slices.Equal(v, []uint8{1, 2, 5}) || e3 != api.OK {
			t.Fatal(shown(p), more, e, len(l), e2, v, e3)
		}
		text := shown(p)
		for _, q := range l {
			text += "\n" + shown(q)
			met = append(met, placesOfPath(q))
		}
		r := path.Reads(p)
		met = append(met, placesOfPath(p), places(l), places(v), places(r))
		shows = append(shows, text)
		clear(spread(r))
		clear(spread(v))
	}
	holdApart(t, met...)
	if shows[0] != shows[1] {
		t.Error(shows)
	}
	if !slices.Equal(spread(ins), wantIns) || !slices.Equal(spread(reads), wantReads) || !slices.Equal(spread(dom), wantDom) || !slices.Equal(spread(prog.Init), wantInit) || prog.Threads[0][:2][1].Op != 99 {
		t.Error("changed")
	}
}

// FuzzPath holds the promises against threads that were parsed.
func FuzzPath(f *testing.F) {
	f.Add("test a\nthread\nr0 = x\nskip 1 if r0 == 1\ny = r0\nall x = 1", "\x01\x00")
	f.Add("test a\ninit x = 1\nthread\nr1 = cas x 1 2\nr1 = fetch x r1\nthread\nx = 1\nsome true", "\x01\x02")
	f.Fuzz(func(t *testing.T, text, reads string) {
		p, _, e := parse.Parse(text)
		if e != api.OK {
			return
		}
		for _, ins := range p.Threads {
			q, more, e := path.Follow(ins, []uint8(reads))
			if e == api.ErrArg { // a skip that leads too far
				return
			}
			want, more2, e2 := traced(ins, []uint8(reads))
			if !samePath(q, want) || more != more2 || e != e2 {
				t.Fatal(shown(q), more, e, shown(want), more2, e2)
			}
		}
		l, e := path.Values(p, 6)
		if want, fits := possible(p, 6); !slices.Equal(l, want) || fits != (e == api.OK) {
			t.Fatal(p, l, want)
		}
	})
}
