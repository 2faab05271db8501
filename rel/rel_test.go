package rel_test

import (
	"math"
	"slices"
	"testing"

	"seisin/api"
	"seisin/rel"
)

// table is a relation as the slow models of these tests see it: table[a][b] tells whether (a, b) is a pair.
type table [][]bool

func newTable(n int) table {
	m := make(table, n)
	for a := range m {
		m[a] = make([]bool, n)
	}
	return m
}

// tableOf reads a valid relation by the definition of its pairs.
func tableOf(r api.Rel) table {
	m := newTable(r.N)
	for a := range m {
		for b := range m {
			m[a][b] = r.To[a]>>b&1 == 1
		}
	}
	return m
}

// rel writes the table as a relation by the definition of its pairs.
func (m table) rel() api.Rel {
	r := api.Rel{N: len(m)}
	for a := range m {
		for b := range m {
			if m[a][b] {
				r.To[a] |= 1 << b
			}
		}
	}
	return r
}

// pairs lists the pairs of the table by first and then by second item.
func (m table) pairs() [][2]int {
	var l [][2]int
	for a := range m {
		for b := range m {
			if m[a][b] {
				l = append(l, [2]int{a, b})
			}
		}
	}
	return l
}

// closed is the transitive closure of the table.
func (m table) closed() table {
	out := newTable(len(m))
	for a := range m {
		copy(out[a], m[a])
	}
	for via := range m {
		for a := range m {
			for b := range m {
				out[a][b] = out[a][b] || out[a][via] && out[via][b]
			}
		}
	}
	return out
}

// top is the order that takes at each position the minimum item whose predecessors have all been taken.
func (m table) top() ([]int, bool) {
	var l []int
	ready := func(b int) bool {
		for a := range m {
			if m[a][b] && !slices.Contains(l, a) {
				return false
			}
		}
		return !slices.Contains(l, b)
	}
	for range m {
		next := -1
		for b := len(m) - 1; b >= 0; b-- {
			if ready(b) {
				next = b
			}
		}
		if next < 0 {
			return nil, false
		}
		l = append(l, next)
	}
	return l, true
}

// ring goes through all sequences of items, the shorter first, those of a length in lexicographic order, up to the first that is a cycle reported from its minimum item on.
func (m table) ring() []int {
	for length := 1; length <= len(m); length++ {
		l := make([]int, length)
		for {
			if slices.Min(l) == l[0] && m.cycle(l) {
				return l
			}
			at := length - 1
			for at >= 0 && l[at] == len(m)-1 {
				l[at] = 0
				at--
			}
			if at < 0 {
				break
			}
			l[at]++
		}
	}
	return nil
}

// cycle tells whether l is a cycle without its last item.
func (m table) cycle(l []int) bool {
	for i, a := range l {
		if !m[a][l[(i+1)%len(l)]] {
			return false
		}
	}
	return true
}

// every lists all relations on n items.
func every(n int) []api.Rel {
	l := make([]api.Rel, 1<<(n*n))
	for bits := range l {
		l[bits].N = n
		for a := range n {
			l[bits].To[a] = api.Set(bits>>(n*a)) & (1<<n - 1)
		}
	}
	return l
}

// small lists all relations on up to 3 items.
func small() []api.Rel {
	return slices.Concat(every(0), every(1), every(2), every(3))
}

// mixer gives numbers that look mixed up and are the same in every run.
type mixer uint64

func (x *mixer) below(n int) int {
	*x = *x*6364136223846793005 + 1442695040888963407
	return int(uint64(*x)>>33) % n
}

// mixed lists several relations on n items: sparse, dense and acyclic ones.
func mixed(n int) []api.Rel {
	x := mixer(n)
	var l []api.Rel
	for _, part := range []int{1, 2, 4, 8, 2 * api.MaxItems} {
		for _, upward := range []bool{false, true} {
			r := api.Rel{N: n}
			for a := range n {
				for b := range n {
					if x.below(part) == 0 && (a < b || !upward) {
						r.To[a] |= 1 << b
					}
				}
			}
			l = append(l, r)
		}
	}
	return l
}

// many lists relations of all sizes.
func many() []api.Rel {
	l := small()
	for n := 4; n <= api.MaxItems; n++ {
		l = append(l, mixed(n)...)
	}
	return append(l, chain(api.MaxItems), chain(api.MaxItems-1), loop(api.MaxItems))
}

// chain is the relation of each item to the next one.
func chain(n int) api.Rel {
	r := api.Rel{N: n}
	for a := range n - 1 {
		r.To[a] = 1 << (a + 1)
	}
	return r
}

// loop is the chain, and the pair of its last item and its first.
func loop(n int) api.Rel {
	r := chain(n)
	r.To[n-1] |= 1
	return r
}

// row is a relation on n items whose row a is given, valid or not.
func row(n, a int, s api.Set) api.Rel {
	r := api.Rel{N: n}
	r.To[a] = s
	return r
}

// wrong lists relations that are not valid.
func wrong() []api.Rel {
	return []api.Rel{
		{N: -1}, {N: 49}, {N: 64}, {N: 1 << 32}, {N: math.MinInt}, {N: math.MaxInt},
		row(-1, 0, 1), row(49, 0, 1), row(49, 0, 2), row(math.MaxInt, 47, 1), row(math.MinInt, 0, 2),
		row(0, 0, 1), row(0, 47, 1), row(0, 0, 1<<63),
		row(1, 0, 2), row(1, 1, 1), row(1, 0, 3), row(1, 47, 1<<47),
		row(3, 0, 1<<3), row(3, 3, 1), row(3, 0, 1<<63), row(3, 2, 1<<40|1),
		row(47, 0, 1<<47), row(47, 47, 1),
		row(48, 0, 1<<48), row(48, 47, 1<<63), row(48, 20, 1<<48|1),
	}
}

// of is the relation on n items with the pairs that are written as two digits each.
func of(t *testing.T, n int, words ...string) api.Rel {
	t.Helper()
	var l [][2]int
	for _, w := range words {
		l = append(l, [2]int{int(w[0] - '0'), int(w[1] - '0')})
	}
	r, e := rel.Of(n, l)
	if e != api.OK {
		t.Fatalf("Of(%d, %v): error %d", n, l, e)
	}
	return r
}

// P2.1: Right tells the valid relations from the others.
func TestRight(t *testing.T) {
	for _, r := range many() {
		if !rel.Right(r) {
			t.Errorf("not right: %v", r)
		}
	}
	for _, r := range wrong() {
		if rel.Right(r) {
			t.Errorf("right: %v", r)
		}
	}
	for n := range api.MaxItems + 1 {
		for a := range api.MaxItems {
			for b := range 64 {
				if got, want := rel.Right(row(n, a, 1<<b)), a < n && b < n; got != want {
					t.Errorf("(%d, %d) on %d items: %v", a, b, n, got)
				}
			}
		}
	}
}

// P2.1: Of builds the relation that contains the pairs.
func TestOf(t *testing.T) {
	for _, r := range many() {
		l := tableOf(r).pairs()
		slices.Reverse(l)
		l = append(l, l...)
		before := slices.Clone(l)
		if got, e := rel.Of(r.N, l); got != r || e != api.OK {
			t.Errorf("Of(%d, %v) = %v, %d", r.N, l, got, e)
		}
		if !slices.Equal(l, before) {
			t.Errorf("Of changed its argument %v", before)
		}
	}
	for n := range api.MaxItems + 1 {
		if got, e := rel.Of(n, nil); got != (api.Rel{N: n}) || e != api.OK {
			t.Errorf("Of(%d, nil) = %v, %d", n, got, e)
		}
	}
}

// P2.1: Of refuses a number of items out of range, and numbers that are not items.
func TestOfErrors(t *testing.T) {
	for _, c := range []struct {
		n     int
		pairs [][2]int
	}{
		{-1, nil}, {49, nil}, {math.MinInt, nil}, {math.MaxInt, nil}, {1 << 32, nil},
		{-1, [][2]int{{0, 0}}}, {49, [][2]int{{0, 48}}}, {49, [][2]int{{0, 0}}},
		{0, [][2]int{{0, 0}}},
		{2, [][2]int{{0, 2}}}, {2, [][2]int{{2, 0}}}, {2, [][2]int{{-1, 0}}}, {2, [][2]int{{0, -1}}},
		{2, [][2]int{{0, 1}, {0, 64}}}, {2, [][2]int{{64, 0}, {0, 1}}}, {2, [][2]int{{1, 1}, {0, 2}, {0, 1}}},
		{2, [][2]int{{0, math.MinInt}}}, {2, [][2]int{{math.MaxInt, 0}}}, {2, [][2]int{{1 << 32, 0}}},
		{48, [][2]int{{0, 48}}}, {48, [][2]int{{48, 0}}},
	} {
		if r, e := rel.Of(c.n, c.pairs); r != (api.Rel{}) || e != api.ErrArg {
			t.Errorf("Of(%d, %v) = %v, %d", c.n, c.pairs, r, e)
		}
	}
}

// P2.1: Pairs lists the pairs by first and then by second item.
func TestPairs(t *testing.T) {
	for _, r := range many() {
		if got, want := rel.Pairs(r), tableOf(r).pairs(); !slices.Equal(got, want) {
			t.Errorf("Pairs(%v) = %v, want %v", r, got, want)
		}
	}
	if got := rel.Pairs(of(t, 4, "32", "10", "03", "00")); !slices.Equal(got, [][2]int{{0, 0}, {0, 3}, {1, 0}, {3, 2}}) {
		t.Error(got)
	}
}

// P2.1: Has tells the pairs from all else, items or not.
func TestHas(t *testing.T) {
	for _, r := range many() {
		m := tableOf(r)
		for a := -2; a <= 66; a++ {
			for b := -2; b <= 66; b++ {
				want := a >= 0 && a < r.N && b >= 0 && b < r.N && m[a][b]
				if got := rel.Has(r, a, b); got != want {
					t.Fatalf("Has(%v, %d, %d) = %v", r, a, b, got)
				}
			}
		}
	}
	full := rel.Cross(48, 1<<48-1, 1<<48-1)
	for _, far := range []int{math.MinInt, -64, -1, 48, 64, 1 << 32, math.MaxInt} {
		if rel.Has(full, far, 0) || rel.Has(full, 0, far) || rel.Has(full, far, far) {
			t.Errorf("Has finds %d", far)
		}
	}
}

// P2.2: Id relates the items of a set to themselves.
func TestId(t *testing.T) {
	for n := -2; n <= 66; n++ {
		for _, s := range []api.Set{0, 1, 6, 1 << 40, 1 << 47, 1 << 48, 1 << 63, 0x5555555555555555, ^api.Set(0)} {
			want := api.Rel{}
			if n >= 0 && n <= 48 {
				m := newTable(n)
				for a := range m {
					m[a][a] = s>>a&1 == 1
				}
				want = m.rel()
			}
			if got := rel.Id(n, s); got != want {
				t.Errorf("Id(%d, %x) = %v", n, s, got)
			}
		}
	}
	for _, n := range []int{math.MinInt, math.MaxInt, 1 << 32} {
		if got := rel.Id(n, 1); got != (api.Rel{}) {
			t.Errorf("Id(%d) = %v", n, got)
		}
	}
}

// P2.2: Cross relates the items of a set to those of another.
func TestCross(t *testing.T) {
	sets := []api.Set{0, 1, 5, 6, 1 << 40, 1 << 47, 1 << 48, 1 << 63, 0x5555555555555555, ^api.Set(0)}
	for n := -2; n <= 66; n++ {
		for _, s := range sets {
			for _, to := range sets {
				want := api.Rel{}
				if n >= 0 && n <= 48 {
					m := newTable(n)
					for a := range m {
						for b := range m {
							m[a][b] = s>>a&1 == 1 && to>>b&1 == 1
						}
					}
					want = m.rel()
				}
				if got := rel.Cross(n, s, to); got != want {
					t.Errorf("Cross(%d, %x, %x) = %v", n, s, to, got)
				}
			}
		}
	}
	for _, n := range []int{math.MinInt, math.MaxInt, 1 << 32} {
		if got := rel.Cross(n, 1, 1); got != (api.Rel{}) {
			t.Errorf("Cross(%d) = %v", n, got)
		}
	}
}

// operation is a binary operation, and what its result is to contain.
type operation struct {
	name string
	do   func(a, b api.Rel) (api.Rel, api.Errno)
	has  func(a, b table, x, z int) bool
}

func operations() []operation {
	return []operation{
		{"Union", rel.Union, func(a, b table, x, z int) bool { return a[x][z] || b[x][z] }},
		{"Both", rel.Both, func(a, b table, x, z int) bool { return a[x][z] && b[x][z] }},
		{"Less", rel.Less, func(a, b table, x, z int) bool { return a[x][z] && !b[x][z] }},
		{"Then", rel.Then, func(a, b table, x, z int) bool {
			for y := range a {
				if a[x][y] && b[y][z] {
					return true
				}
			}
			return false
		}},
	}
}

func checkOperations(t *testing.T, a, b api.Rel) {
	t.Helper()
	ma, mb := tableOf(a), tableOf(b)
	for _, o := range operations() {
		want := newTable(a.N)
		for x := range want {
			for z := range want {
				want[x][z] = o.has(ma, mb, x, z)
			}
		}
		if got, e := o.do(a, b); got != want.rel() || e != api.OK {
			t.Errorf("%s(%v, %v) = %v, %d", o.name, a, b, got, e)
		}
	}
}

// P2.3: the binary operations on relations of every size.
func TestOperations(t *testing.T) {
	for n := range 3 {
		for _, a := range every(n) {
			for _, b := range every(n) {
				checkOperations(t, a, b)
			}
		}
	}
	for n := 3; n <= api.MaxItems; n++ {
		l := mixed(n)
		for i, a := range l {
			checkOperations(t, a, l[(i+3)%len(l)])
			checkOperations(t, a, a)
		}
	}
}

// P2.3: the binary operations refuse relations that are not valid, and those of two sizes.
func TestOperationErrors(t *testing.T) {
	refused := func(a, b api.Rel) {
		t.Helper()
		for _, o := range operations() {
			if r, e := o.do(a, b); r != (api.Rel{}) || e != api.ErrArg {
				t.Errorf("%s(%v, %v) = %v, %d", o.name, a, b, r, e)
			}
		}
	}
	for _, r := range wrong() {
		refused(r, r)
		if r.N >= 0 && r.N <= api.MaxItems {
			refused(r, api.Rel{N: r.N})
			refused(api.Rel{N: r.N}, r)
		}
		refused(r, api.Rel{})
		refused(api.Rel{}, row(1, 0, 1))
	}
	for n := range api.MaxItems {
		refused(api.Rel{N: n}, api.Rel{N: n + 1})
		refused(api.Rel{N: n + 1}, api.Rel{N: n})
	}
}

// P2.4: Back turns each pair round.
func TestBack(t *testing.T) {
	for _, r := range many() {
		m, want := tableOf(r), newTable(r.N)
		for a := range m {
			for b := range m {
				want[b][a] = m[a][b]
			}
		}
		if got := rel.Back(r); got != want.rel() {
			t.Errorf("Back(%v) = %v", r, got)
		}
	}
}

// P2.4: Plus and Star are the transitive closures.
func TestPlusAndStar(t *testing.T) {
	for _, r := range slices.Concat(many(), every(4)) {
		want := tableOf(r).closed()
		if got := rel.Plus(r); got != want.rel() {
			t.Fatalf("Plus(%v) = %v", r, got)
		}
		for a := range want {
			want[a][a] = true
		}
		if got := rel.Star(r); got != want.rel() {
			t.Fatalf("Star(%v) = %v", r, got)
		}
	}
}

// P2.4: From and Into are the sets of first and of second items.
func TestFromAndInto(t *testing.T) {
	for _, r := range many() {
		var from, into api.Set
		for _, p := range tableOf(r).pairs() {
			from |= 1 << p[0]
			into |= 1 << p[1]
		}
		if rel.From(r) != from || rel.Into(r) != into {
			t.Errorf("From and Into of %v = %x, %x", r, rel.From(r), rel.Into(r))
		}
	}
	if r := of(t, 5, "01", "12", "23", "40"); rel.From(r) != 0b10111 || rel.Into(r) != 0b01111 {
		t.Error(rel.From(r), rel.Into(r))
	}
}

// P2.5: Empty and Irreflexive.
func TestEmptyAndIrreflexive(t *testing.T) {
	for _, r := range many() {
		irreflexive := true
		for a := range r.N {
			irreflexive = irreflexive && !tableOf(r)[a][a]
		}
		if rel.Empty(r) != (len(tableOf(r).pairs()) == 0) || rel.Irreflexive(r) != irreflexive {
			t.Errorf("Empty and Irreflexive of %v = %v, %v", r, rel.Empty(r), rel.Irreflexive(r))
		}
	}
	for a := range api.MaxItems {
		for b := range api.MaxItems {
			if r := row(api.MaxItems, a, 1<<b); rel.Empty(r) || rel.Irreflexive(r) != (a != b) {
				t.Errorf("only (%d, %d): %v, %v", a, b, rel.Empty(r), rel.Irreflexive(r))
			}
		}
	}
}

// P2.5: Top takes the minimum item whose predecessors have all been taken, and finds no order of a cyclic relation.
func TestTopAndAcyclic(t *testing.T) {
	for _, r := range slices.Concat(many(), every(4)) {
		want, ok := tableOf(r).top()
		if got, is := rel.Top(r); !slices.Equal(got, want) || is != ok {
			t.Fatalf("Top(%v) = %v, %v, want %v, %v", r, got, is, want, ok)
		}
		if rel.Acyclic(r) != ok {
			t.Fatalf("Acyclic(%v) = %v", r, rel.Acyclic(r))
		}
	}
	back := rel.Back(chain(48))
	want := make([]int, 48)
	for i := range want {
		want[i] = 47 - i
	}
	if got, ok := rel.Top(back); !slices.Equal(got, want) || !ok {
		t.Errorf("Top of the reversed chain = %v, %v", got, ok)
	}
	if got, ok := rel.Top(api.Rel{}); len(got) != 0 || !ok || !rel.Acyclic(api.Rel{}) {
		t.Errorf("Top of no items = %v, %v", got, ok)
	}
}

// P2.5: Ring is the first of the shortest cycles.
func TestRing(t *testing.T) {
	for _, r := range slices.Concat(small(), every(4), mixed(5), mixed(6)) {
		if got, want := rel.Ring(r), tableOf(r).ring(); !slices.Equal(got, want) {
			t.Fatalf("Ring(%v) = %v, want %v", r, got, want)
		}
	}
	x := mixer(5)
	for range 3000 {
		r := api.Rel{N: 5}
		for range 3 + x.below(6) {
			r.To[x.below(5)] |= 1 << x.below(5)
		}
		if got, want := rel.Ring(r), tableOf(r).ring(); !slices.Equal(got, want) {
			t.Fatalf("Ring(%v) = %v, want %v", r, got, want)
		}
	}
}

// P2.5: which of several cycles Ring tells, and from which item on.
func TestRingAmongSeveral(t *testing.T) {
	for _, c := range []struct {
		n     int
		words []string
		want  []int
	}{
		{0, nil, nil},
		{3, nil, nil},
		{3, []string{"01", "12", "02"}, nil},
		{3, []string{"11"}, []int{1}},
		{3, []string{"22", "11"}, []int{1}},
		{3, []string{"01", "10", "22"}, []int{2}},
		{4, []string{"01", "12", "20", "23", "32"}, []int{2, 3}},
		{4, []string{"31", "12", "23"}, []int{1, 2, 3}},
		{4, []string{"01", "13", "30", "02", "23"}, []int{0, 1, 3}},
		{5, []string{"02", "24", "40", "01", "14"}, []int{0, 1, 4}},
		{5, []string{"04", "41", "10", "03", "32", "20"}, []int{0, 3, 2}},
		{6, []string{"01", "12", "23", "34", "45", "50", "05"}, []int{0, 5}},
		{6, []string{"54", "43", "32", "21", "10", "05"}, []int{0, 5, 4, 3, 2, 1}},
		{6, []string{"01", "12", "25", "54", "42"}, []int{2, 5, 4}},
	} {
		if got := rel.Ring(of(t, c.n, c.words...)); !slices.Equal(got, c.want) {
			t.Errorf("Ring of %v = %v, want %v", c.words, got, c.want)
		}
	}
}

// P2.5: the longest cycle that there is, in both directions, and the longest walk without one.
func TestRingOfAllItems(t *testing.T) {
	up, down := make([]int, 48), make([]int, 48)
	for i := range up {
		up[i], down[i] = i, (48-i)%48
	}
	if got := rel.Ring(loop(48)); !slices.Equal(got, up) {
		t.Errorf("Ring of the loop = %v", got)
	}
	if got := rel.Ring(rel.Back(loop(48))); !slices.Equal(got, down) {
		t.Errorf("Ring of the reversed loop = %v", got)
	}
	if got := rel.Ring(chain(48)); len(got) != 0 {
		t.Errorf("Ring of the chain = %v", got)
	}
	last := loop(48)
	last.To[47] |= 1 << 47
	if got := rel.Ring(last); !slices.Equal(got, []int{47}) {
		t.Errorf("Ring of the loop and (47, 47) = %v", got)
	}
}

// P2.1, P2.4, P2.5: what the functions answer for relations that are not valid.
func TestWrongRelations(t *testing.T) {
	for _, r := range wrong() {
		if l := rel.Pairs(r); len(l) != 0 {
			t.Errorf("Pairs(%v) = %v", r, l)
		}
		if l := rel.Ring(r); len(l) != 0 {
			t.Errorf("Ring(%v) = %v", r, l)
		}
		if l, ok := rel.Top(r); len(l) != 0 || ok {
			t.Errorf("Top(%v) = %v, %v", r, l, ok)
		}
		if rel.Empty(r) || rel.Irreflexive(r) || rel.Acyclic(r) {
			t.Errorf("%v: Empty %v, Irreflexive %v, Acyclic %v", r, rel.Empty(r), rel.Irreflexive(r), rel.Acyclic(r))
		}
		if rel.Back(r) != (api.Rel{}) || rel.Plus(r) != (api.Rel{}) || rel.Star(r) != (api.Rel{}) {
			t.Errorf("%v: Back %v, Plus %v, Star %v", r, rel.Back(r), rel.Plus(r), rel.Star(r))
		}
		if rel.From(r) != 0 || rel.Into(r) != 0 {
			t.Errorf("%v: From %x, Into %x", r, rel.From(r), rel.Into(r))
		}
		for a := -1; a <= 64; a++ {
			for b := -1; b <= 64; b++ {
				if rel.Has(r, a, b) {
					t.Errorf("Has(%v, %d, %d)", r, a, b)
				}
			}
		}
	}
}

// P2.1, P2.5: results of separate calls share no memory.
func TestListsAreNew(t *testing.T) {
	r := loop(3)
	pairs, ring := rel.Pairs(r), rel.Ring(r)
	top, _ := rel.Top(chain(3))
	pairs[0], ring[0], top[0] = [2]int{9, 9}, 9, 9
	again, _ := rel.Top(chain(3))
	if rel.Pairs(r)[0] != [2]int{0, 1} || rel.Ring(r)[0] != 0 || again[0] != 0 {
		t.Error("two lists share memory")
	}
}

// must is the result of an operation that is not to fail.
func must(t *testing.T) func(api.Rel, api.Errno) api.Rel {
	return func(r api.Rel, e api.Errno) api.Rel {
		t.Helper()
		if e != api.OK {
			t.Fatalf("error %d", e)
		}
		return r
	}
}

func checkLaws(t *testing.T, a, b, c api.Rel) {
	t.Helper()
	ok := must(t)
	if ok(rel.Then(ok(rel.Union(a, b)), c)) != ok(rel.Union(ok(rel.Then(a, c)), ok(rel.Then(b, c)))) ||
		ok(rel.Then(c, ok(rel.Union(a, b)))) != ok(rel.Union(ok(rel.Then(c, a)), ok(rel.Then(c, b)))) {
		t.Fatalf("Then doesn't distribute over Union: %v, %v, %v", a, b, c)
	}
	if ok(rel.Then(ok(rel.Then(a, b)), c)) != ok(rel.Then(a, ok(rel.Then(b, c)))) {
		t.Fatalf("Then isn't associative: %v, %v, %v", a, b, c)
	}
	if rel.Back(ok(rel.Then(a, b))) != ok(rel.Then(rel.Back(b), rel.Back(a))) {
		t.Fatalf("Back doesn't reverse Then: %v, %v", a, b)
	}
	if ok(rel.Union(ok(rel.Less(a, b)), ok(rel.Both(a, b)))) != a || !rel.Empty(ok(rel.Both(ok(rel.Less(a, b)), b))) {
		t.Fatalf("Less and Both don't part the pairs: %v, %v", a, b)
	}
}

// P2.6: the laws of the operations.
func TestLaws(t *testing.T) {
	for n := range 3 {
		for _, a := range every(n) {
			for _, b := range every(n) {
				for _, c := range every(n) {
					checkLaws(t, a, b, c)
				}
			}
		}
	}
	for n := 3; n <= api.MaxItems; n++ {
		l := mixed(n)
		for i, a := range l {
			checkLaws(t, a, l[(i+1)%len(l)], l[(i+4)%len(l)])
		}
	}
}

// P2.6: Plus(r) is the smallest relation that contains r and its own composition with itself.
func TestPlusIsSmallest(t *testing.T) {
	ok := must(t)
	within := func(a, b api.Rel) bool { return rel.Empty(ok(rel.Less(a, b))) }
	for _, r := range many() {
		if p := rel.Plus(r); !within(r, p) || !within(ok(rel.Then(p, p)), p) {
			t.Errorf("Plus(%v) = %v", r, p)
		}
	}
	for _, r := range every(3) {
		p := rel.Plus(r)
		for _, q := range every(3) {
			if within(r, q) && within(ok(rel.Then(q, q)), q) && !within(p, q) {
				t.Errorf("Plus(%v) = %v is greater than %v", r, p, q)
			}
		}
	}
}

// P2.6: a relation has a cycle exactly if its closure relates an item to itself, and exactly then it has no topological order.
func TestCyclic(t *testing.T) {
	for _, r := range many() {
		cyclic := !rel.Irreflexive(rel.Plus(r))
		if _, ok := rel.Top(r); rel.Acyclic(r) == cyclic || ok == cyclic || (len(rel.Ring(r)) > 0) != cyclic {
			t.Errorf("%v: cyclic %v, Acyclic %v, Top %v, Ring %v", r, cyclic, rel.Acyclic(r), ok, rel.Ring(r))
		}
	}
}

// P2.1 to P2.6: the examples of the chapter.
func TestExamples(t *testing.T) {
	r := of(t, 4, "01", "12", "20", "23")
	if got := must(t)(rel.Then(r, r)); !slices.Equal(rel.Pairs(got), [][2]int{{0, 2}, {1, 0}, {1, 3}, {2, 1}}) {
		t.Error(rel.Pairs(got))
	}
	if p := rel.Plus(r); !rel.Has(p, 0, 0) || !rel.Has(p, 0, 3) || rel.Has(p, 3, 3) {
		t.Error(rel.Pairs(p))
	}
	if top, ok := rel.Top(r); rel.Acyclic(r) || ok || len(top) != 0 || !slices.Equal(rel.Ring(r), []int{0, 1, 2}) {
		t.Error(rel.Acyclic(r), top, ok, rel.Ring(r))
	}
	if top, ok := rel.Top(of(t, 4, "01", "12", "23")); !ok || !slices.Equal(top, []int{0, 1, 2, 3}) {
		t.Error(top, ok)
	}
	if got, e := rel.Of(2, [][2]int{{0, 2}}); got != (api.Rel{}) || e != api.ErrArg {
		t.Error(got, e)
	}
	if got := rel.Ring(of(t, 3, "01", "10", "22")); !slices.Equal(got, []int{2}) {
		t.Error(got)
	}
}
