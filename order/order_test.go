package order_test

import (
	"math"
	"slices"
	"testing"

	"seisin/api"
	"seisin/order"
	"seisin/rel"
)

// permutations lists all orders of n items, lexicographically.
func permutations(n int) [][]int {
	if n == 0 {
		return [][]int{{}}
	}
	var all [][]int
	for first := range n {
		for _, rest := range permutations(n - 1) {
			l := []int{first}
			for _, a := range rest {
				if a >= first {
					a++
				}
				l = append(l, a)
			}
			all = append(all, l)
		}
	}
	return all
}

// respects holds an order against the definition: of each pair, the first item stands before the second one.
func respects(r api.Rel, l []int) bool {
	for a := range r.N {
		for b := range r.N {
			if r.To[a]>>b&1 == 1 && slices.Index(l, a) >= slices.Index(l, b) {
				return false
			}
		}
	}
	return true
}

// relationOf is the relation of an order by its definition.
func relationOf(l []int) api.Rel {
	r := api.Rel{N: len(l)}
	for i, a := range l {
		for _, b := range l[i+1:] {
			r.To[a] |= 1 << b
		}
	}
	return r
}

// expected lists the orders of the permutations that respect r.
func expected(r api.Rel, perms [][]int) [][]int {
	var all [][]int
	for _, l := range perms {
		if respects(r, l) {
			all = append(all, l)
		}
	}
	return all
}

// every lists all relations on n items.
func every(n int) []api.Rel {
	l := make([]api.Rel, 1<<(n*n))
	for bits := range l {
		l[bits].N = n
		for a := range n {
			l[bits].To[a] = api.Set(bits>>(n*a)) & (1<<n - 1)
		}
	}
	return l
}

// mixer gives numbers that look mixed up and are the same in every run.
type mixer uint64

func (x *mixer) below(n int) int {
	*x = *x*6364136223846793005 + 1442695040888963407
	return int(uint64(*x)>>33) % n
}

// mixed lists relations on n items: empty, sparse and dense ones, those of the first half of each kind acyclic.
func mixed(n int) []api.Rel {
	x := mixer(n)
	l := []api.Rel{{N: n}}
	for _, part := range []int{2, 3, 5, 9} {
		for k := range 20 {
			r := api.Rel{N: n}
			names := shuffled(&x, n)
			for a := range n {
				for b := range n {
					if x.below(part) == 0 && (a < b || k >= 10) {
						r.To[names[a]] |= 1 << names[b]
					}
				}
			}
			l = append(l, r)
		}
	}
	return l
}

// shuffled is an order of n items that looks mixed up.
func shuffled(x *mixer, n int) []int {
	l := make([]int, n)
	for i := range l {
		j := x.below(i + 1)
		l[i], l[j] = l[j], i
	}
	return l
}

// many lists relations whose orders can be found among all permutations: every relation on up to 3 items, and several on up to 6.
func many() []api.Rel {
	l := slices.Concat(every(0), every(1), every(2), every(3))
	for n := 4; n <= 6; n++ {
		l = append(l, mixed(n)...)
	}
	return l
}

// row is a relation on n items whose row a is given, valid or not.
func row(n, a int, s api.Set) api.Rel {
	r := api.Rel{N: n}
	r.To[a] = s
	return r
}

// wrong lists relations that are not valid.
func wrong() []api.Rel {
	return []api.Rel{
		{N: -1}, {N: 49}, {N: 64}, {N: 1 << 32}, {N: math.MinInt}, {N: math.MaxInt},
		row(-1, 0, 1), row(49, 0, 2), row(math.MinInt, 0, 1),
		row(0, 0, 1), row(0, 47, 1), row(1, 0, 2), row(1, 1, 1), row(2, 2, 1),
		row(3, 0, 1<<3), row(3, 3, 1), row(3, 2, 1<<63), row(48, 0, 1<<48), row(48, 47, 1<<63),
	}
}

// of is the relation on n items with the pairs that are written as two digits each.
func of(n int, words ...string) api.Rel {
	r := api.Rel{N: n}
	for _, w := range words {
		r.To[w[0]-'0'] |= 1 << (w[1] - '0')
	}
	return r
}

// chains is a relation whose items follow each other in rows of the given lengths, with no pair between two rows.
func chains(lengths ...int) api.Rel {
	var r api.Rel
	for _, k := range lengths {
		for i := range k {
			if i > 0 {
				r.To[r.N-1] = 1 << r.N
			}
			r.N++
		}
	}
	return r
}

// after is the relation of a and then that of b, each item of a before each of b.
func after(a, b api.Rel) api.Rel {
	r := a
	r.N += b.N
	later := api.Set(1)<<r.N - api.Set(1)<<a.N
	for i := range a.N {
		r.To[i] |= later
	}
	for i := range b.N {
		r.To[a.N+i] = b.To[i] << a.N
	}
	return r
}

// reversed is the relation with its items named from the last to the first.
func reversed(r api.Rel) api.Rel {
	m := api.Rel{N: r.N}
	for a := range r.N {
		for b := range r.N {
			if r.To[a]>>b&1 == 1 {
				m.To[r.N-1-a] |= 1 << (r.N - 1 - b)
			}
		}
	}
	return m
}

// countdown is the order of n items from the last to the first.
func countdown(n int) []int {
	l := make([]int, n)
	for i := range l {
		l[i] = n - 1 - i
	}
	return l
}

func sameOrders(a, b [][]int) bool {
	return slices.EqualFunc(a, b, slices.Equal[[]int])
}

func checkOrders(t *testing.T, r api.Rel, most int, want [][]int) {
	t.Helper()
	if got, e := order.Orders(r, most); e != api.OK || !sameOrders(got, want) {
		t.Errorf("Orders(%v, %d) = %v, %d, want %v", rel.Pairs(r), most, got, e, want)
	}
	checkCount(t, r, most, len(want))
}

func checkCount(t *testing.T, r api.Rel, most, want int) {
	t.Helper()
	if n, e := order.Count(r, most); n != want || e != api.OK {
		t.Errorf("Count(%v, %d) = %d, %d, want %d", rel.Pairs(r), most, n, e, want)
	}
}

func checkRefused(t *testing.T, r api.Rel, most int, want api.Errno) {
	t.Helper()
	if got, e := order.Orders(r, most); e != want || len(got) != 0 {
		t.Errorf("Orders(%v, %d) = %v, %d, want error %d", r, most, got, e, want)
	}
	if n, e := order.Count(r, most); e != want || n != 0 {
		t.Errorf("Count(%v, %d) = %d, %d, want error %d", r, most, n, e, want)
	}
}

// P3.1: all orders that respect the relation, in lexicographic order, unless they are more than most.
func TestOrders(t *testing.T) {
	perms := map[int][][]int{}
	for n := range 7 {
		perms[n] = permutations(n)
	}
	for _, r := range many() {
		want := expected(r, perms[r.N])
		checkOrders(t, r, len(want), want)
		checkOrders(t, r, api.MaxOrders, want)
		if len(want) > 0 {
			checkRefused(t, r, len(want)-1, api.ErrMany)
			checkRefused(t, r, 0, api.ErrMany)
		}
	}
}

// P3.1: the empty order, no orders of a cyclic relation, and relations that are ordered already.
func TestOrdersEdges(t *testing.T) {
	checkOrders(t, api.Rel{}, 1, [][]int{{}})
	checkRefused(t, api.Rel{}, 0, api.ErrMany)
	checkOrders(t, of(1, "00"), 0, nil)
	checkOrders(t, of(2, "01", "10"), 0, nil)
	checkOrders(t, of(2, "01", "10"), api.MaxOrders, nil)
	checkOrders(t, chains(48), 1, [][]int{permuted(48, func(i int) int { return i })})
	checkOrders(t, reversed(chains(48)), 1, [][]int{countdown(48)})
	checkRefused(t, chains(48), 0, api.ErrMany)
	checkRefused(t, chains(47, 1), 47, api.ErrMany)
	checkCount(t, chains(47, 1), 48, 48)
	loop := chains(48)
	loop.To[47] = 1
	checkOrders(t, loop, 0, nil)
}

// permuted is the order whose item at each position is told.
func permuted(n int, item func(int) int) []int {
	l := make([]int, n)
	for i := range l {
		l[i] = item(i)
	}
	return l
}

// P3.1: a cycle behind many free items is no reason to look at their orders, wherever it lies.
func TestCycleAmongFreeItems(t *testing.T) {
	for a := range 47 {
		r := api.Rel{N: 48}
		r.To[a], r.To[a+1] = 1<<(a+1), 1<<a
		checkOrders(t, r, api.MaxOrders, nil)
		checkOrders(t, r, 0, nil)
		checkOrders(t, row(48, a, 1<<a), api.MaxOrders, nil)
	}
}

// P3.1: up to as many orders as the limit tells, and not more.
func TestOrdersAtLimit(t *testing.T) {
	ten := chains(2, 3)
	full := after(after(ten, ten), after(ten, ten))
	if got, e := order.Orders(full, api.MaxOrders); e != api.OK || len(got) != api.MaxOrders {
		t.Error(len(got), e)
	}
	checkCount(t, full, api.MaxOrders, api.MaxOrders)
	checkRefused(t, full, api.MaxOrders-1, api.ErrMany)
	checkRefused(t, after(ten, chains(4, 10)), api.MaxOrders, api.ErrMany)
	for n := 8; n <= api.MaxItems; n++ {
		checkRefused(t, api.Rel{N: n}, api.MaxOrders, api.ErrMany)
		checkRefused(t, api.Rel{N: n}, 0, api.ErrMany)
	}
	late := after(chains(28), full)
	checkCount(t, late, api.MaxOrders, api.MaxOrders)
	checkCount(t, reversed(late), api.MaxOrders, api.MaxOrders)
	checkCount(t, after(full, chains(28)), api.MaxOrders, api.MaxOrders)
}

// P3.1: relations that are not valid, and limits out of range, are refused, also where there would be too many orders or none.
func TestOrdersErrors(t *testing.T) {
	for _, r := range wrong() {
		for _, most := range []int{-1, 0, 1, api.MaxOrders, api.MaxOrders + 1} {
			checkRefused(t, r, most, api.ErrArg)
		}
	}
	for _, most := range []int{-1, math.MinInt, math.MinInt32, api.MaxOrders + 1, 1 << 32, math.MaxInt} {
		for _, r := range []api.Rel{{}, {N: 1}, {N: 48}, of(2, "01", "10"), chains(48)} {
			checkRefused(t, r, most, api.ErrArg)
		}
	}
}

// P3.1: no two orders share memory, within a result or between two.
func TestOrdersShareNothing(t *testing.T) {
	r := of(4, "01", "23")
	want := expected(r, permutations(4))
	kept, _ := order.Orders(r, 10)
	spoilt, _ := order.Orders(r, 10)
	for k := range spoilt {
		spoilt[k][0] = 99
		_ = append(spoilt[k][:1], 98, 97, 96, 95)
		for i := range spoilt {
			if i > k && !slices.Equal(spoilt[i], want[i]) {
				t.Fatalf("order %d changed with order %d: %v", i, k, spoilt[i])
			}
		}
		spoilt[k] = append(spoilt[k], 94)
	}
	if again, _ := order.Orders(r, 10); !sameOrders(kept, want) || !sameOrders(again, want) {
		t.Error(kept, again)
	}
}

// P3.2: Total(n, l) is the relation of the order l.
func TestTotal(t *testing.T) {
	x := mixer(7)
	for n := range api.MaxItems + 1 {
		for range 5 {
			l := shuffled(&x, n)
			before := slices.Clone(l)
			if r, e := order.Total(n, l); e != api.OK || r != relationOf(l) {
				t.Errorf("Total(%d, %v) = %v, %d", n, l, rel.Pairs(r), e)
			}
			if !slices.Equal(l, before) {
				t.Errorf("Total changed its argument %v", before)
			}
		}
		if r, e := order.Total(n, countdown(n)); e != api.OK || r != relationOf(countdown(n)) {
			t.Errorf("Total(%d) of the countdown: %v, %d", n, rel.Pairs(r), e)
		}
	}
	if r, e := order.Total(0, nil); e != api.OK || r != (api.Rel{}) {
		t.Error(r, e)
	}
}

// notOrders lists numbers of items, each with a list that is not an order of them.
func notOrders() []struct {
	n int
	l []int
} {
	return []struct {
		n int
		l []int
	}{
		{-1, nil}, {-1, []int{0}}, {49, countdown(49)}, {64, countdown(64)}, {65, countdown(65)}, {49, nil}, {math.MinInt, nil}, {math.MaxInt, nil}, {1 << 32, nil},
		{0, []int{0}}, {1, nil}, {1, []int{1}}, {1, []int{-1}}, {1, []int{0, 0}}, {1, []int{0, 1}},
		{2, []int{0, 0}}, {2, []int{1, 1}}, {2, []int{0}}, {2, []int{0, 2}}, {2, []int{2, 0}}, {2, []int{-1, 0}}, {2, []int{0, 1, 0}}, {2, []int{0, 1, 2}},
		{2, []int{0, 64}}, {2, []int{0, 63}}, {2, []int{1, 64}}, {2, []int{math.MinInt, 1}}, {2, []int{0, math.MaxInt}}, {2, []int{0, 1<<32 + 1}},
		{3, []int{0, 1, 1}}, {3, []int{0, 2, 0}}, {3, []int{0, 1, 3}},
		{48, countdown(47)}, {48, append(countdown(47), 0)}, {48, append(countdown(47), 48)}, {47, countdown(48)},
	}
}

// P3.2: Total refuses a number of items out of range, and lists that are not orders.
func TestTotalErrors(t *testing.T) {
	for _, c := range notOrders() {
		if r, e := order.Total(c.n, c.l); e != api.ErrArg || r != (api.Rel{}) {
			t.Errorf("Total(%d, %v) = %v, %d", c.n, c.l, r, e)
		}
	}
}

// P3.2: Keeps tells whether an order respects a relation.
func TestKeeps(t *testing.T) {
	for _, r := range many() {
		for _, l := range permutations(r.N) {
			before := slices.Clone(l)
			if got := order.Keeps(r, l); got != respects(r, l) {
				t.Fatalf("Keeps(%v, %v) = %v", rel.Pairs(r), l, got)
			}
			if !slices.Equal(l, before) {
				t.Fatalf("Keeps changed its argument %v", before)
			}
		}
	}
	for a := range api.MaxItems {
		for b := range api.MaxItems {
			if got := order.Keeps(row(48, a, 1<<b), countdown(48)); got != (a > b) {
				t.Errorf("countdown, pair (%d, %d): %v", a, b, got)
			}
		}
	}
}

// P3.2: Keeps is false for a relation that is not valid, and for a list that is not an order of its items.
func TestKeepsOfWrong(t *testing.T) {
	for _, r := range wrong() {
		for _, n := range []int{0, 1, 2, 3, 48, 49, 64} {
			if order.Keeps(r, countdown(n)) || order.Keeps(r, permuted(n, func(i int) int { return i })) {
				t.Errorf("%v keeps an order of %d items", r, n)
			}
		}
	}
	for _, c := range notOrders() {
		if order.Keeps(api.Rel{N: c.n}, c.l) {
			t.Errorf("the empty relation on %d items keeps %v", c.n, c.l)
		}
	}
}

// P3.2: Of is the order whose relation is given, and reports whether there is one.
func TestOf(t *testing.T) {
	perms := map[int][][]int{}
	for n := range 7 {
		perms[n] = permutations(n)
	}
	for _, r := range many() {
		k := slices.IndexFunc(perms[r.N], func(l []int) bool { return relationOf(l) == r })
		l, ok := order.Of(r)
		if ok != (k >= 0) || ok && !slices.Equal(l, perms[r.N][k]) || !ok && len(l) != 0 {
			t.Errorf("Of(%v) = %v, %v", rel.Pairs(r), l, ok)
		}
	}
	for _, r := range append(wrong(), api.Rel{N: 2}, api.Rel{N: 48}, chains(3), chains(48), of(3, "01", "02"), of(3, "01", "12", "20")) {
		if l, ok := order.Of(r); ok || len(l) != 0 {
			t.Errorf("Of(%v) = %v, %v", r, l, ok)
		}
	}
}

// P3.2: a relation with one pair more or less than that of an order isn't that of any.
func TestOfNearlyTotal(t *testing.T) {
	x := mixer(3)
	for _, n := range []int{3, 7, 48} {
		l := shuffled(&x, n)
		total := relationOf(l)
		for a := range n {
			for b := range n {
				r := total
				r.To[a] ^= 1 << b
				if got, ok := order.Of(r); ok || len(got) != 0 {
					t.Errorf("pair (%d, %d) turned in that of %v: %v", a, b, l, got)
				}
			}
		}
	}
}

// P3.3: each order occurs once, in increasing order, and the first one is the topological order.
func TestOrdersAreDistinct(t *testing.T) {
	for _, r := range many() {
		all, e := order.Orders(r, api.MaxOrders)
		if e != api.OK {
			t.Fatal(e)
		}
		for k, l := range all {
			if !order.Keeps(r, l) || k > 0 && slices.Compare(all[k-1], l) >= 0 {
				t.Errorf("%v: order %d is %v in %v", rel.Pairs(r), k, l, all)
			}
		}
		top, ok := rel.Top(r)
		if ok != (len(all) > 0) || ok && !slices.Equal(all[0], top) {
			t.Errorf("%v: Top %v, orders %v", rel.Pairs(r), top, all)
		}
	}
}

// P3.3: if the relation is acyclic, what all orders agree on is its transitive closure.
func TestOrdersMeetInClosure(t *testing.T) {
	for _, r := range many() {
		all, _ := order.Orders(r, api.MaxOrders)
		if len(all) == 0 {
			continue
		}
		common, _ := order.Total(r.N, all[0])
		for _, l := range all[1:] {
			total, _ := order.Total(r.N, l)
			common, _ = rel.Both(common, total)
		}
		if common != rel.Plus(r) {
			t.Errorf("%v: all orders agree on %v", rel.Pairs(r), rel.Pairs(common))
		}
	}
}

// P3.3: the relation of an order is respected by that order only.
func TestTotalIsKeptByItsOrder(t *testing.T) {
	x := mixer(11)
	for n := range api.MaxItems + 1 {
		l := shuffled(&x, n)
		r, _ := order.Total(n, l)
		checkOrders(t, r, 1, [][]int{l})
		if got, ok := order.Of(r); !ok || !slices.Equal(got, l) || !order.Keeps(r, l) {
			t.Errorf("Of that of %v: %v, %v", l, got, ok)
		}
	}
}

// P3.1, P3.2: the examples of the chapter.
func TestExamples(t *testing.T) {
	r := of(3, "01")
	checkOrders(t, r, 10, [][]int{{0, 1, 2}, {0, 2, 1}, {2, 0, 1}})
	checkCount(t, r, 3, 3)
	checkRefused(t, r, 2, api.ErrMany)
	checkOrders(t, of(3, "01", "10"), 10, nil)
	if got, e := order.Total(3, []int{2, 0, 1}); e != api.OK || got != of(3, "01", "20", "21") {
		t.Error(got, e)
	}
	if got, e := order.Total(2, []int{0, 0}); e != api.ErrArg || got != (api.Rel{}) {
		t.Error(got, e)
	}
	if order.Keeps(of(2, "01"), []int{1, 0}) {
		t.Error("1, 0 respects (0, 1)")
	}
	if l, ok := order.Of(of(2, "01")); !ok || !slices.Equal(l, []int{0, 1}) {
		t.Error(l, ok)
	}
	if l, ok := order.Of(api.Rel{N: 2}); ok || len(l) != 0 {
		t.Error(l, ok)
	}
	checkOrders(t, api.Rel{}, 10, [][]int{{}})
}
