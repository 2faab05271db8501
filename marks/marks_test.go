package marks_test

import (
	"math"
	"slices"
	"testing"

	"seisin/api"
	"seisin/marks"
)

const full = ^api.Set(0)

// found is a result that may report that there is none.
type found struct {
	n  int
	ok bool
}

func pair(n int, ok bool) found { return found{n, ok} }

// sets are those on which the functions are held against slow ones: the empty and the full set, every single element, every set of elements 0 to 5 and its mirror image, and some mixed ones.
func sets() []api.Set {
	l := []api.Set{0, full, full - 1, full >> 1, 0x5555555555555555, 0xaaaaaaaaaaaaaaaa, 0x8000000100000001, 0x0123456789abcdef}
	for i := range 64 {
		l = append(l, 1<<i, ^(api.Set(1) << i))
	}
	for low := range api.Set(64) {
		l = append(l, low, low<<58, low<<29|low)
	}
	return l
}

// integers are those that the functions accept beside elements: all near the elements, and those farthest away.
func integers() []int {
	l := []int{math.MinInt, math.MinInt + 1, math.MinInt32, -1000, 1000, math.MaxInt32, 1 << 32, 1<<32 + 3, math.MaxInt - 1, math.MaxInt}
	for i := -70; i <= 140; i++ {
		l = append(l, i)
	}
	return l
}

// bitsOf lists the elements of s by the definition of a set.
func bitsOf(s api.Set) []int {
	var l []int
	for i := range 64 {
		if s>>i&1 == 1 {
			l = append(l, i)
		}
	}
	return l
}

// P1.1: All(n) is the set of the integers from 0 to n-1.
func TestAll(t *testing.T) {
	for n, want := range map[int]api.Set{math.MinInt: 0, -64: 0, -1: 0, 0: 0, 1: 1, 2: 3, 3: 7, 32: 1<<32 - 1, 62: 1<<62 - 1, 63: 1<<63 - 1, 64: full, 65: full, 128: full, 1 << 32: full, math.MaxInt: full} {
		if s := marks.All(n); s != want {
			t.Errorf("All(%d) = %x, want %x", n, s, want)
		}
	}
	for n := range 65 {
		l := bitsOf(marks.All(n))
		if len(l) != n || n > 0 && l[n-1] != n-1 {
			t.Errorf("All(%d) contains %v", n, l)
		}
	}
}

// P1.1: Of(l) is the set of the elements of l.
func TestOf(t *testing.T) {
	for _, c := range []struct {
		l    []int
		want api.Set
		e    api.Errno
	}{
		{nil, 0, api.OK},
		{[]int{}, 0, api.OK},
		{[]int{5, 1, 5}, 34, api.OK},
		{[]int{0}, 1, api.OK},
		{[]int{63}, 1 << 63, api.OK},
		{[]int{63, 0, 31, 32, 63, 63}, 1<<63 | 1<<32 | 1<<31 | 1, api.OK},
		{[]int{64}, 0, api.ErrArg},
		{[]int{-1}, 0, api.ErrArg},
		{[]int{3, -1}, 0, api.ErrArg},
		{[]int{64, 1}, 0, api.ErrArg},
		{[]int{1, 64, 2}, 0, api.ErrArg},
		{[]int{math.MinInt}, 0, api.ErrArg},
		{[]int{math.MaxInt, 0}, 0, api.ErrArg},
		{[]int{1 << 32}, 0, api.ErrArg},
		{[]int{256}, 0, api.ErrArg},
	} {
		before := slices.Clone(c.l)
		if s, e := marks.Of(c.l); s != c.want || e != c.e {
			t.Errorf("Of(%v) = %x, %d", c.l, s, e)
		}
		if !slices.Equal(c.l, before) {
			t.Errorf("Of changed its argument %v to %v", before, c.l)
		}
	}
	for i := range 64 {
		if s, e := marks.Of([]int{i, i}); s != 1<<i || e != api.OK {
			t.Errorf("Of([%d %d]) = %x, %d", i, i, s, e)
		}
	}
}

// P1.1: List(s) has the elements of s in increasing order, and Len(s) is their number.
func TestListAndLen(t *testing.T) {
	for _, c := range []struct {
		s    api.Set
		want []int
	}{{0, nil}, {34, []int{1, 5}}, {1, []int{0}}, {1 << 63, []int{63}}, {1<<63 | 1<<40 | 1<<7, []int{7, 40, 63}}} {
		if l := marks.List(c.s); !slices.Equal(l, c.want) || marks.Len(c.s) != len(c.want) {
			t.Errorf("List(%x) = %v, Len %d", c.s, l, marks.Len(c.s))
		}
	}
	for _, s := range sets() {
		if want := bitsOf(s); !slices.Equal(marks.List(s), want) || marks.Len(s) != len(want) {
			t.Errorf("List(%x) = %v, Len %d", s, marks.List(s), marks.Len(s))
		}
	}
	if marks.Len(full) != 64 || len(marks.List(full)) != 64 {
		t.Error(marks.Len(full), marks.List(full))
	}
}

// P1.1: results of separate calls share no memory.
func TestListIsNew(t *testing.T) {
	a, b := marks.List(34), marks.List(34)
	a[0] = 99
	if b[0] != 1 || marks.List(34)[0] != 1 {
		t.Error("two lists share memory")
	}
}

// P1.2: First(s) is the minimum element.
func TestFirst(t *testing.T) {
	for s, want := range map[api.Set]found{0: {0, false}, 1: {0, true}, 34: {1, true}, full: {0, true}, 1 << 63: {63, true}, full - 1: {1, true}} {
		if got := pair(marks.First(s)); got != want {
			t.Errorf("First(%x) = %v", s, got)
		}
	}
	for _, s := range sets() {
		want := found{}
		if l := bitsOf(s); len(l) > 0 {
			want = found{l[0], true}
		}
		if got := pair(marks.First(s)); got != want {
			t.Errorf("First(%x) = %v, want %v", s, got, want)
		}
	}
}

// P1.2: Next(s, i) is the minimum element greater than any integer i.
func TestNext(t *testing.T) {
	for _, c := range []struct {
		s    api.Set
		i    int
		want found
	}{
		{34, 1, found{5, true}},
		{34, 0, found{1, true}},
		{34, -1, found{1, true}},
		{34, -9, found{1, true}},
		{34, math.MinInt, found{1, true}},
		{34, 5, found{}},
		{34, 64, found{}},
		{34, math.MaxInt, found{}},
		{1, -1, found{0, true}},
		{1, 0, found{}},
		{1 << 63, 62, found{63, true}},
		{1 << 63, 63, found{}},
		{full, 62, found{63, true}},
		{full, 63, found{}},
		{0, 0, found{}},
		{0, -1, found{}},
	} {
		if got := pair(marks.Next(c.s, c.i)); got != c.want {
			t.Errorf("Next(%x, %d) = %v, want %v", c.s, c.i, got, c.want)
		}
	}
	for _, s := range sets() {
		for _, i := range integers() {
			want := found{}
			if k := slices.IndexFunc(bitsOf(s), func(e int) bool { return e > i }); k >= 0 {
				want = found{bitsOf(s)[k], true}
			}
			if got := pair(marks.Next(s, i)); got != want {
				t.Errorf("Next(%x, %d) = %v, want %v", s, i, got, want)
			}
		}
	}
}

// P1.2: Pick(s, k) is the element with exactly k smaller elements.
func TestPick(t *testing.T) {
	for _, c := range []struct {
		s    api.Set
		k    int
		want found
	}{
		{34, 0, found{1, true}},
		{34, 1, found{5, true}},
		{34, 2, found{}},
		{34, -1, found{}},
		{34, math.MinInt, found{}},
		{34, math.MaxInt, found{}},
		{1 << 63, 0, found{63, true}},
		{1 << 63, 1, found{}},
		{full, 63, found{63, true}},
		{full, 64, found{}},
		{0, 0, found{}},
		{0, -1, found{}},
	} {
		if got := pair(marks.Pick(c.s, c.k)); got != c.want {
			t.Errorf("Pick(%x, %d) = %v, want %v", c.s, c.k, got, c.want)
		}
	}
	for _, s := range sets() {
		l := bitsOf(s)
		for _, k := range integers() {
			want := found{}
			if k >= 0 && k < len(l) {
				want = found{l[k], true}
			}
			if got := pair(marks.Pick(s, k)); got != want {
				t.Errorf("Pick(%x, %d) = %v, want %v", s, k, got, want)
			}
		}
	}
}

// P1.2: Rank(s, i) is the number of elements less than any integer i.
func TestRank(t *testing.T) {
	for _, c := range []struct {
		s       api.Set
		i, want int
	}{
		{34, 5, 1}, {34, 6, 2}, {34, 1, 0}, {34, 2, 1}, {34, 99, 2}, {34, -1, 0},
		{34, math.MinInt, 0}, {34, math.MaxInt, 2},
		{full, 63, 63}, {full, 64, 64}, {full, 65, 64}, {full, 0, 0}, {full, math.MaxInt, 64},
		{0, 64, 0}, {1 << 63, 63, 0}, {1 << 63, 64, 1},
	} {
		if got := marks.Rank(c.s, c.i); got != c.want {
			t.Errorf("Rank(%x, %d) = %d, want %d", c.s, c.i, got, c.want)
		}
	}
	for _, s := range sets() {
		for _, i := range integers() {
			want := 0
			for _, e := range bitsOf(s) {
				if e < i {
					want++
				}
			}
			if got := marks.Rank(s, i); got != want {
				t.Errorf("Rank(%x, %d) = %d, want %d", s, i, got, want)
			}
		}
	}
}

// P1.3: Subsets lists all subsets in increasing order of their values.
func TestSubsets(t *testing.T) {
	for _, c := range []struct {
		s    api.Set
		most int
		want []api.Set
	}{
		{34, 4, []api.Set{0, 2, 32, 34}},
		{34, 5, []api.Set{0, 2, 32, 34}},
		{34, api.MaxSubsets, []api.Set{0, 2, 32, 34}},
		{0, 1, []api.Set{0}},
		{0, api.MaxSubsets, []api.Set{0}},
		{1, 2, []api.Set{0, 1}},
		{1 << 63, 2, []api.Set{0, 1 << 63}},
		{1<<63 | 5, 8, []api.Set{0, 1, 4, 5, 1 << 63, 1<<63 | 1, 1<<63 | 4, 1<<63 | 5}},
	} {
		if l, e := marks.Subsets(c.s, c.most); e != api.OK || !slices.Equal(l, c.want) {
			t.Errorf("Subsets(%x, %d) = %v, %d", c.s, c.most, l, e)
		}
	}
}

// P1.3: a limit that is just met, and one that is just missed, for every number of elements that has an answer.
func TestSubsetsAtTheLimit(t *testing.T) {
	for n := range 17 {
		s := marks.All(n) << (64 - n)
		if l, e := marks.Subsets(s, 1<<n); e != api.OK || len(l) != 1<<n || l[0] != 0 || l[1<<n-1] != s {
			t.Errorf("%d elements: %d subsets, error %d", n, len(l), e)
		}
		if l, e := marks.Subsets(s, 1<<n-1); e != api.ErrMany || len(l) != 0 {
			t.Errorf("%d elements, one subset too few: %d subsets, error %d", n, len(l), e)
		}
	}
}

// P1.3: the errors, the invalid limit before the one that is exceeded.
func TestSubsetsErrors(t *testing.T) {
	for _, c := range []struct {
		s    api.Set
		most int
		want api.Errno
	}{
		{0, 65537, api.ErrArg},
		{34, 65537, api.ErrArg},
		{full, 65537, api.ErrArg},
		{full, math.MaxInt, api.ErrArg},
		{0, math.MaxInt, api.ErrArg},
		{0, 0, api.ErrMany},
		{0, -1, api.ErrMany},
		{3, -1, api.ErrMany},
		{0, math.MinInt, api.ErrMany},
		{full, math.MinInt, api.ErrMany},
		{34, 3, api.ErrMany},
		{7, 7, api.ErrMany},
		{1<<17 - 1, 65536, api.ErrMany},
		{1<<32 - 1, 65536, api.ErrMany},
		{1<<63 - 1, 65536, api.ErrMany},
		{full, 65536, api.ErrMany},
		{full, 0, api.ErrMany},
	} {
		if l, e := marks.Subsets(c.s, c.most); e != c.want || len(l) != 0 {
			t.Errorf("Subsets(%x, %d) = %d subsets, error %d, want %d", c.s, c.most, len(l), e, c.want)
		}
	}
}

// P1.3: results of separate calls share no memory.
func TestSubsetsIsNew(t *testing.T) {
	a, _ := marks.Subsets(34, 4)
	b, _ := marks.Subsets(34, 4)
	a[0] = 99
	if c, _ := marks.Subsets(34, 4); b[0] != 0 || c[0] != 0 {
		t.Error("two lists share memory")
	}
}

// P1.4: Of and List are inverse to each other.
func TestOfList(t *testing.T) {
	for _, s := range sets() {
		if got, e := marks.Of(marks.List(s)); got != s || e != api.OK {
			t.Errorf("Of(List(%x)) = %x, %d", s, got, e)
		}
	}
}

// P1.4: First, followed by Next again and again, enumerates all elements in order.
func TestFirstNext(t *testing.T) {
	for _, s := range sets() {
		var l []int
		for i, ok := marks.First(s); ok && len(l) <= 64; i, ok = marks.Next(s, i) {
			l = append(l, i)
		}
		if !slices.Equal(l, bitsOf(s)) {
			t.Errorf("First and Next of %x enumerate %v", s, l)
		}
	}
}

// P1.4: Pick and Rank are inverse to each other.
func TestPickRank(t *testing.T) {
	for _, s := range sets() {
		for _, i := range bitsOf(s) {
			if got := pair(marks.Pick(s, marks.Rank(s, i))); got != (found{i, true}) {
				t.Errorf("Pick(%x, Rank(%d)) = %v", s, i, got)
			}
		}
		for k := range len(bitsOf(s)) {
			i, ok := marks.Pick(s, k)
			if !ok || marks.Rank(s, i) != k {
				t.Errorf("Rank(%x, Pick(%d)) = %d, %v", s, k, marks.Rank(s, i), ok)
			}
		}
	}
}

// P1.4: every subset occurs exactly once.
func TestSubsetsAreAll(t *testing.T) {
	for _, s := range sets() {
		n := len(bitsOf(s))
		if n > 12 {
			continue
		}
		l, e := marks.Subsets(s, 1<<n)
		if e != api.OK || len(l) != 1<<n {
			t.Fatalf("Subsets(%x) has %d, error %d", s, len(l), e)
		}
		for i, sub := range l {
			if sub&^s != 0 || i > 0 && l[i-1] >= sub {
				t.Errorf("Subsets(%x)[%d] = %x", s, i, sub)
			}
		}
	}
}
