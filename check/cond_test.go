package check_test

import (
	"testing"

	"seisin/api"
	"seisin/check"
	"seisin/parse"
	"seisin/print"
)

// threadsFit reports whether a condition speaks of threads below the number only.
func threadsFit(c api.Cond, threads int) bool {
	for _, kid := range c.Kids {
		if !threadsFit(kid, threads) {
			return false
		}
	}
	return c.Kind != api.CondReg || int(c.Thread) < threads
}

// kidsOf enumerates all lists of up to n of the conditions.
func kidsOf(l []api.Cond, n int, use func([]api.Cond)) {
	use(nil)
	if n == 0 {
		return
	}
	for _, c := range l {
		kidsOf(l, n-1, func(rest []api.Cond) { use(append([]api.Cond{c}, rest...)) })
	}
}

// P7.2: all small conditions. They are valid if they have a source and speak of the threads that there are.
func TestCondSmall(t *testing.T) {
	locs := []string{"x", "y"}
	valid := 0
	hold := func(c api.Cond) {
		t.Helper()
		_, e := print.Cond(c, locs...)
		is := check.Cond(c, 2, len(locs))
		if is != (e == api.OK && threadsFit(c, 2)) {
			t.Fatalf("%v: %v", c, is)
		}
		if is {
			valid++
		}
	}
	kids := []api.Cond{{}, {Kind: api.CondLoc, N: 1}, {Kind: api.CondLoc, N: 2}, {Kind: api.CondReg, Thread: 1}, {Kind: api.CondReg, Thread: 2}, nots(2), of(api.CondAnd, api.Cond{}), of(api.CondOr)}
	numbers := []uint8{0, 1, 2, 7, 8, 255}
	for kind := range uint8(8) {
		for n := range 6 * 6 * 2 {
			hold(api.Cond{Kind: kind, Thread: numbers[n%6], N: numbers[n/6%6], Val: 255 * uint8(n/36)})
		}
		kidsOf(kids, 3, func(l []api.Cond) {
			hold(of(kind, l...))
			hold(api.Cond{Kind: kind, N: 1, Kids: l})
			hold(api.Cond{Kind: kind, Val: 1, Kids: l})
			hold(api.Cond{Kind: kind, Thread: 1, Kids: l})
			hold(of(api.CondNot, of(kind, l...)))
			hold(of(api.CondOr, api.Cond{}, of(kind, l...)))
			hold(of(api.CondAnd, of(kind, l...), api.Cond{}))
		})
	}
	if valid < 500 {
		t.Error(valid)
	}
}

// P7.2: the numbers of threads, locations and registers, and kinds that there are not.
func TestCondBounds(t *testing.T) {
	for _, many := range []int{-1 << 63, -256, -1, 0, 1, 4, 100, 255, 256, 257, 1<<63 - 1} {
		for n := range 256 {
			if is := check.Cond(api.Cond{Kind: api.CondReg, Thread: uint8(n), N: 7, Val: 255}, many, 0); is != (n < many) {
				t.Errorf("thread %d of %d: %v", n, many, is)
			}
			if is := check.Cond(api.Cond{Kind: api.CondLoc, N: uint8(n), Val: 255}, 0, many); is != (n < many) {
				t.Errorf("location %d of %d: %v", n, many, is)
			}
		}
		if !check.Cond(of(api.CondAnd, api.Cond{}, nots(2)), many, many) {
			t.Error("neither thread nor location, of", many)
		}
	}
	for n := range 256 {
		if is := check.Cond(api.Cond{Kind: api.CondReg, N: uint8(n)}, 1, 0); is != (n < 8) {
			t.Error("register", n, is)
		}
		if is := check.Cond(api.Cond{Kind: uint8(n)}, 1, 1); is != (n <= int(api.CondLoc)) {
			t.Error("kind", n, is)
		}
		if is := check.Cond(api.Cond{Kind: uint8(n), Kids: make([]api.Cond, 2)}, 1, 1); is != (n == int(api.CondAnd) || n == int(api.CondOr)) {
			t.Error("kind of two", n, is)
		}
		if is := check.Cond(api.Cond{Kind: uint8(n), Kids: make([]api.Cond, 1)}, 1, 1); is != (n == int(api.CondNot)) {
			t.Error("kind of one", n, is)
		}
	}
}

// P7.2: a condition has a depth of at most 20, wherever it is deepest.
func TestCondDepth(t *testing.T) {
	for deep := 1; deep < 40; deep++ {
		for _, c := range []api.Cond{nots(deep), of(api.CondAnd, api.Cond{}, nots(deep), api.Cond{}), of(api.CondOr, nots(deep), of(api.CondOr, nots(deep-1), nots(deep)))} {
			if is := check.Cond(c, 0, 0); is != (parse.Deep(c) <= 20) {
				t.Error(parse.Deep(c), is)
			}
		}
	}
	for n := range 3000 {
		x := mixer(n)
		c := x.cond(1+n%7, 4, 6)
		if !check.Cond(c, 4, 6) {
			t.Fatal(c)
		}
		if is := check.Cond(c, 2, 6); is != threadsFit(c, 2) {
			t.Fatal(c, is)
		}
	}
}
