package print_test

import (
	"reflect"
	"slices"
	"strconv"
	"strings"
	"testing"

	"seisin/api"
	"seisin/parse"
	"seisin/print"
)

// key is what decides which tokens an instruction has.
type key struct{ op, fn, mode uint8 }

// templates has the tokens of every valid instruction. D, L, A, B and S stand for the fields.
var templates = map[key]string{
	{api.OpLoad, 0, api.ModePlain}:    "D = L",
	{api.OpLoad, 0, api.ModeAcquire}:  "D = L acq",
	{api.OpStore, 0, api.ModePlain}:   "L = A",
	{api.OpStore, 0, api.ModeRelease}: "L = A rel",
	{api.OpMove, api.FnAdd, 0}:        "D = A + B",
	{api.OpMove, api.FnSub, 0}:        "D = A - B",
	{api.OpMove, api.FnXor, 0}:        "D = A ^ B",
	{api.OpSwap, 0, 0}:                "D = swap L A",
	{api.OpFetch, 0, 0}:               "D = fetch L A",
	{api.OpCas, 0, 0}:                 "D = cas L A B",
	{api.OpFence, 0, api.ModeFull}:    "fence",
	{api.OpFence, 0, api.ModeLoads}:   "fence loads",
	{api.OpFence, 0, api.ModeStores}:  "fence stores",
	{api.OpSkip, api.FnEq, 0}:         "skip S if A == B",
	{api.OpSkip, api.FnNe, 0}:         "skip S if A != B",
	{api.OpSkip, api.FnLt, 0}:         "skip S if A < B",
}

// regOf is the token of a register, which is valid if its number is.
func regOf(n uint8) (string, bool) { return "r" + strconv.Itoa(int(n)), n < 8 }

func argOf(a api.Arg) (string, bool) {
	if a.Reg {
		return regOf(a.N)
	}
	return strconv.Itoa(int(a.N)), true
}

func locOf(n uint8, locs []string) (string, bool) {
	if int(n) >= len(locs) {
		return "", false
	}
	return locs[n], true
}

// lineOf is the source of an instruction by its template, and whether it is valid.
func lineOf(x api.Ins, locs []string) (string, bool) {
	template, ok := templates[key{x.Op, x.Fn, x.Mode}]
	words := strings.Fields(template)
	rest := x // what the template does not tell
	rest.Op, rest.Fn, rest.Mode = 0, 0, 0
	for i, w := range words {
		fits := true
		switch w {
		case "D":
			words[i], fits = regOf(x.Dst)
			rest.Dst = 0
		case "L":
			words[i], fits = locOf(x.Loc, locs)
			rest.Loc = 0
		case "A":
			words[i], fits = argOf(x.A)
			rest.A = api.Arg{}
		case "B":
			words[i], fits = argOf(x.B)
			rest.B = api.Arg{}
		case "S":
			words[i] = strconv.Itoa(int(x.Skip))
			rest.Skip = 0
		}
		ok = ok && fits
	}
	return strings.Join(words, " "), ok && rest == api.Ins{}
}

// condOf is the source of a condition, and whether it is valid, but for its depth.
func condOf(c api.Cond, locs []string) (string, bool) {
	if c.Kind > api.CondNot || c.Kind != api.CondReg && c.Thread != 0 || c.Kind != api.CondReg && c.Kind != api.CondLoc && (c.N != 0 || c.Val != 0) {
		return "", false
	}
	equals := " = " + strconv.Itoa(int(c.Val))
	switch c.Kind {
	case api.CondTrue:
		return "true", len(c.Kids) == 0
	case api.CondReg:
		r, ok := regOf(c.N)
		return strconv.Itoa(int(c.Thread)) + ":" + r + equals, ok && len(c.Kids) == 0
	case api.CondLoc:
		s, ok := locOf(c.N, locs)
		return s + equals, ok && len(c.Kids) == 0
	}
	var parts []string
	for _, kid := range c.Kids {
		s, ok := condOf(kid, locs)
		if !ok {
			return "", false
		}
		if kid.Kind == api.CondAnd && c.Kind != api.CondOr || kid.Kind == api.CondOr {
			s = "( " + s + " )"
		}
		parts = append(parts, s)
	}
	switch c.Kind {
	case api.CondAnd:
		return strings.Join(parts, " & "), len(parts) >= 2
	case api.CondOr:
		return strings.Join(parts, " | "), len(parts) >= 2
	}
	return "! " + strings.Join(parts, " "), len(parts) == 1
}

// sourceOf is the source of a valid program.
func sourceOf(t *testing.T, p api.Prog) string {
	t.Helper()
	lines := []string{"test " + p.Name}
	if len(p.Locs) > 0 {
		s := "init"
		for i, loc := range p.Locs {
			s += " " + loc + " = " + strconv.Itoa(int(p.Init[i]))
		}
		lines = append(lines, s)
	}
	for _, thread := range p.Threads {
		lines = append(lines, "thread")
		for _, x := range thread {
			s, ok := lineOf(x, p.Locs)
			if !ok {
				t.Fatal("invalid instruction", x)
			}
			lines = append(lines, s)
		}
	}
	s, ok := condOf(p.Cond, p.Locs)
	if !ok {
		t.Fatal("invalid condition", p.Cond)
	}
	lines = append(lines, []string{"", "some ", "none ", "all "}[p.Ask]+s)
	return strings.Join(lines, "\n") + "\n"
}

// mixer gives numbers that look mixed up and are the same in every run.
type mixer uint64

func (x *mixer) below(n int) int {
	*x = *x*6364136223846793005 + 1442695040888963407
	return int(uint64(*x)>>33) % n
}

func (x *mixer) byte() uint8 { return uint8(x.below(256)) }

func (x *mixer) arg() api.Arg {
	if x.below(2) == 0 {
		return api.Arg{Reg: true, N: uint8(x.below(8))}
	}
	return api.Arg{N: x.byte()}
}

// ins is a valid instruction, or a fence if it would need a location and there is none.
func (x *mixer) ins(locs int) (y api.Ins) {
	y.Op = uint8(1 + x.below(8))
	if locs == 0 && y.Op != api.OpMove && y.Op != api.OpSkip {
		y.Op = api.OpFence
	}
	switch y.Op {
	case api.OpLoad:
		y.Mode = uint8(x.below(2))
	case api.OpStore:
		y.Mode = uint8(2 * x.below(2))
	case api.OpFence:
		y.Mode = uint8(3 + x.below(3))
	case api.OpMove:
		y.Fn = uint8(1 + x.below(3))
	case api.OpSkip:
		y.Fn = uint8(4 + x.below(3))
	}
	template := strings.Fields(templates[key{y.Op, y.Fn, y.Mode}])
	for _, w := range template {
		switch w {
		case "D":
			y.Dst = uint8(x.below(8))
		case "L":
			y.Loc = uint8(x.below(locs))
		case "A":
			y.A = x.arg()
		case "B":
			y.B = x.arg()
		case "S":
			y.Skip = x.byte()
		}
	}
	return y
}

// cond is a valid condition of at most the given depth.
func (x *mixer) cond(deep, locs int) (c api.Cond) {
	c.Kind = uint8(x.below(6))
	if deep == 1 {
		c.Kind = uint8(x.below(3))
	}
	kids := 0
	switch c.Kind {
	case api.CondReg:
		c.Thread, c.N, c.Val = x.byte(), uint8(x.below(8)), x.byte()
	case api.CondLoc:
		if locs == 0 {
			return api.Cond{}
		}
		c.N, c.Val = uint8(x.below(locs)), x.byte()
	case api.CondAnd, api.CondOr:
		kids = 2 + x.below(3)
	case api.CondNot:
		kids = 1
	}
	for range kids {
		c.Kids = append(c.Kids, x.cond(deep-1, locs))
	}
	return c
}

// names are as many as a program may have locations.
var names = []string{"x", "y", "Z", "r", "r1x", "abcdefghijklmno_"}

// prog is a valid program.
func (x *mixer) prog() api.Prog {
	p := api.Prog{Name: []string{"SB", "x", "test", "r1", "r99", "thread", "abcdefghijklmnop"}[x.below(7)], Ask: uint8(1 + x.below(3))}
	p.Locs = slices.Clone(names[:x.below(7)])
	for range p.Locs {
		p.Init = append(p.Init, x.byte())
	}
	for range 1 + x.below(4) {
		var thread []api.Ins
		for range x.below(13) {
			thread = append(thread, x.ins(len(p.Locs)))
		}
		p.Threads = append(p.Threads, thread)
	}
	p.Cond = x.cond(1+x.below(5), len(p.Locs))
	return p
}

// sameProg compares programs; nil lists and empty ones are the same.
func sameProg(a, b api.Prog) bool {
	return a.Name == b.Name && slices.Equal(a.Locs, b.Locs) && slices.Equal(a.Init, b.Init) && a.Ask == b.Ask && sameCond(a.Cond, b.Cond) &&
		slices.EqualFunc(a.Threads, b.Threads, func(a, b []api.Ins) bool { return slices.Equal(a, b) })
}

func sameCond(a, b api.Cond) bool {
	return a.Kind == b.Kind && a.Thread == b.Thread && a.N == b.N && a.Val == b.Val && slices.EqualFunc(a.Kids, b.Kids, sameCond)
}

func of(kind uint8, kids ...api.Cond) api.Cond { return api.Cond{Kind: kind, Kids: kids} }

// trues is a disjunction of n conditions that are true.
func trues(n int) api.Cond { return api.Cond{Kind: api.CondOr, Kids: make([]api.Cond, n)} }

var (
	xIs1  = api.Cond{Kind: api.CondLoc, Val: 1}
	yIs2  = api.Cond{Kind: api.CondLoc, N: 1, Val: 2}
	r0Is0 = api.Cond{Kind: api.CondReg}
	not   = of(api.CondNot, xIs1)
	and   = of(api.CondAnd, xIs1, yIs2)
	or    = of(api.CondOr, xIs1, yIs2)
)

// example is the example of layers 5 and 6, and exampleSource its source.
var example = api.Prog{
	Name: "SB",
	Locs: []string{"x", "y"},
	Init: []uint8{1, 0},
	Threads: [][]api.Ins{
		{{Op: api.OpStore, A: api.Arg{N: 1}}, {Op: api.OpLoad, Dst: 1, Loc: 1, Mode: api.ModeAcquire}},
		{{Op: api.OpStore, Loc: 1, A: api.Arg{N: 2}, Mode: api.ModeRelease}},
	},
	Ask:  api.AskSome,
	Cond: of(api.CondOr, of(api.CondAnd, api.Cond{Kind: api.CondReg, N: 1}, not), api.Cond{}),
}

const exampleSource = "test SB\ninit x = 1 y = 0\nthread\nx = 1\nr1 = y acq\nthread\ny = 2 rel\nsome 0:r1 = 0 & ! x = 1 | true\n"

// P6.1: what programs look like.
func TestPrint(t *testing.T) {
	fence := []api.Ins{{Op: api.OpFence, Mode: api.ModeFull}}
	for want, p := range map[string]api.Prog{
		exampleSource:                  {Name: example.Name, Locs: example.Locs, Init: example.Init, Threads: example.Threads, Ask: example.Ask, Cond: example.Cond},
		"test r9\nthread\nnone true\n": {Name: "r9", Threads: make([][]api.Ins, 1), Ask: api.AskNone},
		"test init\ninit x = 255\nthread\nthread\nfence\nall true\n":                                     {Name: "init", Locs: []string{"x"}, Init: []uint8{255}, Threads: [][]api.Ins{{}, fence}, Ask: api.AskAll},
		"test a\ninit b = 0 a = 10\nthread\nfence\nthread\nthread\nfence\nfence\nthread\nsome a = 100\n": {Name: "a", Locs: []string{"b", "a"}, Init: []uint8{0, 10}, Threads: [][]api.Ins{fence, nil, append(fence, fence...), nil}, Ask: api.AskSome, Cond: api.Cond{Kind: api.CondLoc, N: 1, Val: 100}},
		"test a\nthread\nthread\nall 9:r7 = 0\n":                                                         {Name: "a", Init: []uint8{}, Locs: []string{}, Threads: [][]api.Ins{{}, nil}, Ask: api.AskAll, Cond: api.Cond{Kind: api.CondReg, Thread: 9, N: 7, Kids: []api.Cond{}}},
	} {
		if s, e := print.Print(p); s != want || e != api.OK {
			t.Errorf("%q, %d, want %q", s, e, want)
		}
	}
}

// P6.1, P6.3: valid programs have the sources that the words say. Parsing these returns the same, and different programs have different sources.
func TestPrintValid(t *testing.T) {
	met := map[string]api.Prog{}
	for n := range 4000 {
		x := mixer(n)
		p := x.prog()
		want := sourceOf(t, p)
		if len(want) > api.MaxText {
			t.Fatal("too long", n)
		}
		s, e := print.Print(p)
		if s != want || e != api.OK {
			t.Fatalf("%q, %d, want %q", s, e, want)
		}
		if q, _, e := parse.Parse(s); e != api.OK || !sameProg(p, q) {
			t.Fatalf("%q: %v, %d", s, q, e)
		}
		if q, ok := met[s]; ok && !sameProg(p, q) {
			t.Fatalf("%q: %v and %v", s, p, q)
		}
		met[s] = p
	}
	if len(met) < 3500 {
		t.Error(len(met))
	}
}

// P6.3: a program that was parsed can be printed, and parsing that returns the same program, whatever the first source looked like.
func TestPrintParsed(t *testing.T) {
	spaced := strings.NewReplacer(" ", "\t", "\n", " # x = 1\n\n", "(", "( (", ")", ") )")
	for n := range 1000 {
		x := mixer(n)
		p := x.prog()
		want := sourceOf(t, p)
		q, _, e := parse.Parse(spaced.Replace(want))
		if e != api.OK || !sameProg(p, q) {
			t.Fatalf("%q, %d", want, e)
		}
		if s, e := print.Print(q); s != want || e != api.OK {
			t.Fatalf("%q, %d, want %q", s, e, want)
		}
	}
	for text, want := range map[string]string{
		"test a\nthread\ny=1\nr1=x\nall z=1|((y=1))": "test a\ninit y = 0 x = 0 z = 0\nthread\ny = 1\nr1 = x\nall z = 1 | y = 1\n",
		"test a\ninit z=7\nthread\nall y=1":          "test a\ninit z = 7 y = 0\nthread\nall y = 1\n",
	} {
		p, _, _ := parse.Parse(text)
		if s, e := print.Print(p); s != want || e != api.OK {
			t.Errorf("%q: %q, %d", text, s, e)
		}
	}
	long := "test a\nthread\nall " + strings.Repeat("true|", 3000) + "true"
	p, _, e := parse.Parse(long) // within the limit, but not with all its spaces
	if len(p.Cond.Kids) != 3001 || e != api.OK {
		t.Fatal(len(p.Cond.Kids), e)
	}
	if s, e := print.Print(p); s != "" || e != api.ErrLong {
		t.Error(len(s), e)
	}
}

// P6.1: Print fails unless parsing the source returns the program.
func TestPrintWrong(t *testing.T) {
	ins := func(x api.Ins) func(*api.Prog) {
		return func(p *api.Prog) { p.Threads = [][]api.Ins{{x}} }
	}
	cond := func(c api.Cond) func(*api.Prog) {
		return func(p *api.Prog) { p.Cond = c }
	}
	for name, turn := range map[string]func(p *api.Prog){
		"no name":            func(p *api.Prog) { p.Name = "" },
		"a number":           func(p *api.Prog) { p.Name = "1" },
		"two words":          func(p *api.Prog) { p.Name = "a b" },
		"a blank behind":     func(p *api.Prog) { p.Name = "a " },
		"a comment":          func(p *api.Prog) { p.Name = "a#" },
		"a newline":          func(p *api.Prog) { p.Name = "a\n" },
		"a byte over 127":    func(p *api.Prog) { p.Name = "\xe9" },
		"17 bytes":           func(p *api.Prog) { p.Name = "abcdefghijklmnopq" },
		"a source as name":   func(p *api.Prog) { p.Name = "a\nthread\nall true #" },
		"no question":        func(p *api.Prog) { p.Ask = 0 },
		"question 4":         func(p *api.Prog) { p.Ask = 4 },
		"question 255":       func(p *api.Prog) { p.Ask = 255 },
		"no threads":         func(p *api.Prog) { p.Threads = nil },
		"5 threads":          func(p *api.Prog) { p.Threads = make([][]api.Ins, 5) },
		"13 instructions":    func(p *api.Prog) { p.Threads[1] = slices.Repeat(p.Threads[1], 13) },
		"missing value":      func(p *api.Prog) { p.Init = p.Init[:1] },
		"no values":          func(p *api.Prog) { p.Init = nil },
		"one value too many": func(p *api.Prog) { p.Init = []uint8{1, 0, 0} },
		"values alone":       func(p *api.Prog) { p.Locs, p.Threads, p.Cond = nil, make([][]api.Ins, 1), api.Cond{} },
		"equal names":        func(p *api.Prog) { p.Locs = []string{"x", "x"} },
		"empty location":     func(p *api.Prog) { p.Locs = []string{"x", ""} },
		"register":           func(p *api.Prog) { p.Locs = []string{"x", "r1"} },
		"like a register":    func(p *api.Prog) { p.Locs = []string{"x", "r8"} },
		"keyword":            func(p *api.Prog) { p.Locs = []string{"x", "true"} },
		"location behind":    func(p *api.Prog) { p.Locs = []string{"x", "y "} },
		"location ahead":     func(p *api.Prog) { p.Locs = []string{"x", "\ty"} },
		"long location":      func(p *api.Prog) { p.Locs = []string{"x", "abcdefghijklmnopq"} },
		"hidden location":    func(p *api.Prog) { p.Locs = []string{"x", "y = 0 #"} },
		"two in one":         func(p *api.Prog) { p.Locs, p.Init = []string{"x = 1 y"}, []uint8{0} },
		"7 locations":        func(p *api.Prog) { p.Locs, p.Init = []string{"x", "y", "a", "b", "c", "d", "e"}, make([]uint8, 7) },
		"Op 0":               ins(api.Ins{}),
		"Op 9":               ins(api.Ins{Op: 9}),
		"unused field":       ins(api.Ins{Op: api.OpLoad, Skip: 1}),
		"Kind 6":             cond(api.Cond{Kind: 6}),
		"Kind 255":           cond(api.Cond{Kind: 255}),
		"one Kid":            cond(of(api.CondAnd, xIs1)),
		"Kids of true":       cond(of(api.CondTrue, xIs1)),
		"deep":               cond(nots(21)),
	} {
		p, _, _ := parse.Parse(exampleSource)
		turn(&p)
		if s, e := print.Print(p); s != "" || e != api.ErrArg {
			t.Errorf("%s: %q, %d", name, s, e)
		}
	}
	if s, e := print.Print(api.Prog{}); s != "" || e != api.ErrArg {
		t.Error(s, e)
	}
}

// nots is a condition of the given depth.
func nots(deep int) api.Cond {
	c := api.Cond{}
	for range deep - 1 {
		c = of(api.CondNot, c)
	}
	return c
}

// P6.1: for its length, a source has a text where there is none. Each program here has no name, so its source can be made as long as one likes.
func TestPrintLength(t *testing.T) {
	one := func(l ...api.Ins) api.Prog { return api.Prog{Locs: []string{"x", ""}, Threads: [][]api.Ins{l}} }
	ask := func(c api.Cond) api.Prog { return api.Prog{Locs: []string{"x", ""}, Ask: api.AskSome, Cond: c} }
	const head = "test \ninit x =  =\n"
	full := api.Ins{Dst: 99, Loc: 2, A: api.Arg{Reg: true, N: 255}, B: api.Arg{N: 255}, Fn: 7, Mode: 6, Skip: 100}
	op := func(op uint8) api.Ins {
		x := full
		x.Op = op
		return x
	}
	none := of(api.CondAnd)
	for _, v := range []struct {
		p    api.Prog
		want string
	}{
		{api.Prog{}, "test \n? true\n"},
		{api.Prog{Ask: 4, Init: []uint8{1, 2}}, "test \n? true\n"},
		{api.Prog{Ask: 3, Locs: []string{"a", "b", "c"}}, "test \ninit a = b = c =\nall true\n"},
		{api.Prog{Ask: 2, Locs: []string{"a", "", "c"}, Init: []uint8{7, 10}}, "test \ninit a = 7  = 10 c =\nnone true\n"},
		{api.Prog{Ask: 1, Locs: []string{""}, Init: []uint8{100, 1}}, "test \ninit  = 100\nsome true\n"},
		{api.Prog{Ask: 1, Threads: make([][]api.Ins, 6)}, "test \n" + strings.Repeat("thread\n", 6) + "some true\n"},
		{one(full, op(9), op(255)), head + "thread\n?\n?\n?\n? true\n"},
		{one(make([]api.Ins, 100)...), head + "thread\n" + strings.Repeat("?\n", 100) + "? true\n"},
		{one(op(api.OpLoad), op(api.OpStore)), head + "thread\nr99 = ? ?\n? = r255 ?\n? true\n"},
		{one(op(api.OpMove), op(api.OpSkip)), head + "thread\nr99 = r255 ? 255\nskip 100 if r255 ? 255\n? true\n"},
		{one(op(api.OpSwap), op(api.OpFetch), op(api.OpCas)), head + "thread\nr99 = swap ? r255\nr99 = fetch ? r255\nr99 = cas ? r255 255\n? true\n"},
		{one(op(api.OpFence), api.Ins{Op: api.OpFence}), head + "thread\nfence ?\nfence ?\n? true\n"},
		{one(api.Ins{Op: api.OpLoad, Loc: 1}, api.Ins{Op: api.OpStore, Loc: 1}), head + "thread\nr0 = \n = 0\n? true\n"},
		{one(api.Ins{Op: api.OpLoad, Mode: 2}, api.Ins{Op: api.OpLoad, Mode: 3}, api.Ins{Op: api.OpStore, Mode: 1}, api.Ins{Op: api.OpStore, Mode: 3}), head + "thread\nr0 = x ?\nr0 = x ?\nx = 0 ?\nx = 0 ?\n? true\n"},
		{one(api.Ins{Op: api.OpMove}, api.Ins{Op: api.OpMove, Fn: 4}, api.Ins{Op: api.OpSkip}, api.Ins{Op: api.OpSkip, Fn: 3}), head + "thread\nr0 = 0 ? 0\nr0 = 0 ? 0\nskip 0 if 0 ? 0\nskip 0 if 0 ? 0\n? true\n"},
		{ask(api.Cond{Kind: 6, Thread: 9, N: 9, Val: 9, Kids: and.Kids}), head + "some ?\n"},
		{ask(api.Cond{Thread: 9, N: 9, Val: 9, Kids: and.Kids}), head + "some true\n"},
		{ask(api.Cond{Kind: api.CondReg, Thread: 255, N: 100, Val: 10, Kids: and.Kids}), head + "some 255:r100 = 10\n"},
		{ask(api.Cond{Kind: api.CondLoc, N: 2, Thread: 9, Kids: and.Kids}), head + "some ? = 0\n"},
		{ask(api.Cond{Kind: api.CondLoc, N: 1, Val: 200}), head + "some  = 200\n"},
		{ask(none), head + "some\n"},
		{ask(of(api.CondOr)), head + "some\n"},
		{ask(of(api.CondNot)), head + "some !\n"},
		{ask(of(api.CondAnd, xIs1)), head + "some x = 1\n"},
		{ask(of(api.CondAnd, of(api.CondAnd, xIs1))), head + "some ( x = 1 )\n"},
		{ask(of(api.CondOr, of(api.CondOr, xIs1))), head + "some ( x = 1 )\n"},
		{ask(of(api.CondOr, of(api.CondAnd, xIs1))), head + "some x = 1\n"},
		{ask(of(api.CondOr, none)), head + "some\n"},
		{ask(of(api.CondOr, none, none, none)), head + "some | |\n"},
		{ask(of(api.CondAnd, none, xIs1, none)), head + "some ( ) & x = 1 & ( )\n"},
		{ask(of(api.CondNot, none)), head + "some ! ( )\n"},
		{ask(of(api.CondNot, of(api.CondOr, xIs1), not, xIs1)), head + "some ! ( x = 1 ) ! x = 1 x = 1\n"},
		{ask(of(api.CondOr, xIs1, api.Cond{Kind: 9}, r0Is0)), head + "some x = 1 | ? | 0:r0 = 0\n"},
		{ask(nots(100)), head + "some " + strings.Repeat("! ", 99) + "true\n"},
	} {
		for more, want := range []api.Errno{api.ErrArg, api.ErrLong, api.ErrLong} {
			v.p.Name = strings.Repeat("a", api.MaxText+more-len(v.want))
			if s, e := print.Print(v.p); s != "" || e != want {
				t.Errorf("%q with %d bytes too many: %q, %d", v.want, more, s, e)
			}
		}
		v.p.Name = ""
		if s, e := print.Print(v.p); s != "" || e != api.ErrArg {
			t.Errorf("%q: %q, %d", v.want, s, e)
		}
	}
}

// P6.1: for its length, an empty name is an empty token, be it the program's or a location's.
func TestEmptyName(t *testing.T) {
	load := []api.Ins{{Op: api.OpLoad, Loc: 1}}
	for more, want := range []api.Errno{api.ErrArg, api.ErrLong} {
		for source, use := range map[string]func(name string) api.Prog{
			"test \ninit N = 0\nthread\nall true\n": func(name string) api.Prog {
				return api.Prog{Locs: []string{name}, Init: []uint8{0}, Threads: make([][]api.Ins, 1), Ask: api.AskAll}
			},
			"test a\ninit N = 0  = 0\nthread\nr0 = \nall true\n": func(name string) api.Prog {
				return api.Prog{Name: "a", Locs: []string{name, ""}, Init: []uint8{0, 0}, Threads: [][]api.Ins{load}, Ask: api.AskAll}
			},
		} {
			p := use(strings.Repeat("a", api.MaxText+more-len(source)+len("N")))
			if s, e := print.Print(p); s != "" || e != want {
				t.Errorf("%q with %d bytes too many: %q, %d", source, more, s, e)
			}
		}
	}
}

// P6.1, P6.2: sources of up to 2^14 bytes are short enough, with all their newlines.
func TestLongest(t *testing.T) {
	for n, long := range []bool{false, true} {
		c := trues((api.MaxText+3)/7 + n)
		s, e := print.Cond(c)
		if long && (s != "" || e != api.ErrLong) || !long && (len(s) != api.MaxText || s != "true"+strings.Repeat(" | true", len(c.Kids)-1) || e != api.OK) {
			t.Error(len(s), e)
		}
	}
	p := api.Prog{Threads: make([][]api.Ins, 1), Ask: api.AskAll, Cond: trues(2337)}
	for n := 1; n <= 16; n++ {
		p.Name = strings.Repeat("a", n)
		want := sourceOf(t, p)
		s, e := print.Print(p)
		if len(want) <= api.MaxText && (s != want || e != api.OK) || len(want) > api.MaxText && (s != "" || e != api.ErrLong) {
			t.Error(n, len(want), len(s), e)
		}
		if n == 1 && len(want) > api.MaxText || n == 16 && len(want) <= api.MaxText {
			t.Error("beside the limit", len(want))
		}
	}
	for more, want := range []api.Errno{api.ErrArg, api.ErrLong} { // a location of so many bytes is none
		name := strings.Repeat("a", api.MaxText+more-len(" = 1"))
		if s, e := print.Line(api.Ins{Op: api.OpStore, A: api.Arg{N: 1}}, name); s != "" || e != want {
			t.Error(more, len(s), e)
		}
		if s, e := print.Cond(xIs1, name); s != "" || e != want {
			t.Error(more, len(s), e)
		}
		if s, e := print.Line(api.Ins{Op: api.OpStore, A: api.Arg{N: 1}, Mode: 9}, name[:len(name)-2]); s != "" || e != want {
			t.Error(more, len(s), e)
		}
		if s, e := print.Cond(of(api.CondNot, xIs1, api.Cond{Kind: 9}), name[:len(name)-4]); s != "" || e != want {
			t.Error(more, len(s), e)
		}
	}
}

// P6.2: every valid instruction is printed by its template, and no other one.
func TestLine(t *testing.T) {
	locs := []string{"x", "y"}
	args := []api.Arg{{}, {N: 8}, {Reg: true}, {Reg: true, N: 7}, {Reg: true, N: 8}}
	valid := 0
	for n := range 10 * 3 * 3 * 5 * 5 * 8 * 7 * 2 {
		pick := func(many int) int {
			i := n % many
			n /= many
			return i
		}
		x := api.Ins{Op: uint8(pick(10)), Dst: uint8(4 * pick(3)), Loc: uint8(pick(3)), A: args[pick(5)], B: args[pick(5)], Fn: uint8(pick(8)), Mode: uint8(pick(7)), Skip: uint8(200 * pick(2))}
		want, ok := lineOf(x, locs)
		s, e := print.Line(x, locs...)
		if ok && (s != want || e != api.OK) || !ok && (s != "" || e != api.ErrArg) {
			t.Fatalf("%v: %q, %d, want %q, %v", x, s, e, want, ok)
		}
		if !ok {
			continue
		}
		valid++
		if y, _, e := parse.Line(s, locs...); y != x || e != api.OK {
			t.Fatalf("%q: %v, %d", s, y, e)
		}
	}
	// By template: 2 loads, 2 stores, 3 moves, swap and fetch, cas, 3 fences, 3 skips, with 2 valid registers, 2 locations, 4 arguments.
	if want := 2*2*2 + 2*2*4 + 3*2*4*4 + 2*2*2*4 + 2*2*4*4 + 3 + 3*2*4*4; valid != want {
		t.Error(valid, want)
	}
	for n := range 3000 {
		m := mixer(n)
		x := m.ins(len(names))
		want, _ := lineOf(x, names)
		if s, e := print.Line(x, names...); s != want || e != api.OK {
			t.Fatalf("%v: %q, %d, want %q", x, s, e, want)
		}
	}
}

// P6.2: how conditions are put into parentheses.
func TestCond(t *testing.T) {
	notNot, notOr, notAnd := of(api.CondNot, not), of(api.CondNot, or), of(api.CondNot, and)
	for want, c := range map[string]api.Cond{
		"true":                                 {},
		"x = 1":                                xIs1,
		"0:r0 = 0":                             r0Is0,
		"255:r7 = 255":                         {Kind: api.CondReg, Thread: 255, N: 7, Val: 255},
		"y = 10":                               {Kind: api.CondLoc, N: 1, Val: 10},
		"! x = 1":                              not,
		"! ! x = 1":                            notNot,
		"! ( x = 1 | y = 2 )":                  notOr,
		"! ( x = 1 & y = 2 )":                  notAnd,
		"x = 1 & y = 2":                        and,
		"x = 1 | y = 2":                        or,
		"( x = 1 & y = 2 ) & true":             of(api.CondAnd, and, api.Cond{}),
		"true & ( x = 1 & y = 2 )":             of(api.CondAnd, api.Cond{}, and),
		"( x = 1 | y = 2 ) & ! x = 1":          of(api.CondAnd, or, not),
		"( x = 1 | y = 2 ) | true":             of(api.CondOr, or, api.Cond{}),
		"true | ( x = 1 | y = 2 )":             of(api.CondOr, api.Cond{}, or),
		"x = 1 & y = 2 | x = 1 & y = 2 | true": of(api.CondOr, and, and, api.Cond{}),
		"! ( x = 1 & y = 2 ) & ! ! x = 1":      of(api.CondAnd, notAnd, notNot),
		"! ( ( x = 1 | y = 2 ) & 0:r0 = 0 | ! ( x = 1 | y = 2 ) )": of(api.CondNot, of(api.CondOr, of(api.CondAnd, or, r0Is0), notOr)),
	} {
		if s, e := print.Cond(c, "x", "y"); s != want || e != api.OK {
			t.Errorf("%q, %d, want %q", s, e, want)
		}
	}
	for n := range 5000 {
		m := mixer(n)
		c := m.cond(1+n%6, len(names))
		want, _ := condOf(c, names)
		s, e := print.Cond(c, names...)
		if s != want || e != api.OK {
			t.Fatalf("%v: %q, %d, want %q", c, s, e, want)
		}
		if d, _, e := parse.Cond(s, names...); !sameCond(c, d) || e != api.OK {
			t.Fatalf("%q: %v, %d", s, d, e)
		}
	}
}

// kidsOf enumerates all lists of up to n of the conditions.
func kidsOf(l []api.Cond, n int, use func([]api.Cond)) {
	use(nil)
	if n == 0 {
		return
	}
	for _, c := range l {
		kidsOf(l, n-1, func(rest []api.Cond) { use(append([]api.Cond{c}, rest...)) })
	}
}

// P6.2: all small conditions, valid and invalid.
func TestCondSmall(t *testing.T) {
	locs := []string{"x", "y"}
	valid := 0
	hold := func(c api.Cond) {
		t.Helper()
		want, ok := condOf(c, locs)
		s, e := print.Cond(c, locs...)
		if ok && (s != want || e != api.OK) || !ok && (s != "" || e != api.ErrArg) {
			t.Fatalf("%v: %q, %d, want %q, %v", c, s, e, want, ok)
		}
		if ok {
			valid++
		}
	}
	kids := []api.Cond{{}, {Kind: api.CondLoc, N: 2}, xIs1, not, and, or, of(api.CondAnd, xIs1), of(api.CondOr)}
	for kind := range uint8(8) {
		for n := range 4 * 4 * 2 {
			hold(api.Cond{Kind: kind, Thread: uint8(n % 4), N: uint8(3 * (n / 4 % 4)), Val: uint8(n / 16)})
		}
		kidsOf(kids, 3, func(l []api.Cond) {
			hold(of(kind, l...))
			hold(api.Cond{Kind: kind, N: 1, Kids: l})
			hold(api.Cond{Kind: kind, Val: 1, Kids: l})
			hold(api.Cond{Kind: kind, Thread: 1, Kids: l})
			hold(of(api.CondNot, of(kind, l...)))
			hold(of(api.CondOr, xIs1, of(kind, l...)))
			hold(of(api.CondAnd, of(kind, l...), xIs1))
		})
	}
	if valid < 1000 {
		t.Error(valid)
	}
}

// P6.1, P6.2: conditions have a depth of at most 20.
func TestDeepest(t *testing.T) {
	for deep := 1; deep < 30; deep++ {
		c, p := nots(deep), example
		p.Cond = c
		s, e := print.Cond(c)
		text, e2 := print.Print(p)
		if deep <= 20 && (s != strings.Repeat("! ", deep-1)+"true" || e != api.OK || text != sourceOf(t, p) || e2 != api.OK) {
			t.Error(deep, s, e, text, e2)
		}
		if deep > 20 && (s != "" || e != api.ErrArg || text != "" || e2 != api.ErrArg) {
			t.Error(deep, s, e, text, e2)
		}
	}
}

// P6.2: a location is written as its name, of which parsing finds the first, and its number modulo 256.
func TestNames(t *testing.T) {
	load := func(n uint8) api.Ins { return api.Ins{Op: api.OpLoad, Loc: n} }
	loc := func(n uint8) api.Cond { return api.Cond{Kind: api.CondLoc, N: n} }
	hold := func(n uint8, name string, locs ...string) {
		t.Helper()
		want, wantE := [2]string{}, api.ErrArg
		if name != "" {
			want, wantE = [2]string{"r0 = " + name, name + " = 0"}, api.OK
		}
		if s, e := print.Line(load(n), locs...); s != want[0] || e != wantE {
			t.Errorf("%d: %q, %d, want %q", n, s, e, want[0])
		}
		if s, e := print.Cond(loc(n), locs...); s != want[1] || e != wantE {
			t.Errorf("%d: %q, %d, want %q", n, s, e, want[1])
		}
	}
	hold(0, "")
	hold(0, "x", "x")
	hold(1, "", "x")
	hold(1, "x", "y", "x", "x")
	hold(2, "", "y", "x", "x")
	hold(6, "g", "a", "b", "c", "d", "e", "f", "g")
	hold(1, "x", "", "x")
	for _, s := range []string{"", "r1", "true", "x ", "x y", "7", "x#", "\xff", "abcdefghijklmnopq"} {
		hold(0, "", s)
		hold(0, "", s, "x")
	}
	var many []string
	for i := range 600 {
		many = append(many, "n"+strconv.Itoa(i))
	}
	hold(255, "n255", many...)
	hold(44, "n44", many...) // not n300
	many[0], many[256] = " x", "x"
	hold(0, " x", many...) // the name that is read has a number that is 0, too
	many[0], many[256] = "x#", "x"
	if s, e := print.Line(load(0), many...); s != "r0 = x#" || e != api.OK {
		t.Error(s, e)
	}
	if s, e := print.Cond(loc(0), many...); s != "" || e != api.ErrArg {
		t.Error(s, e)
	}
}

// P6.1, P6.2 (R1): arguments whose sources no memory holds.
func TestHuge(t *testing.T) {
	name := strings.Repeat("a", 1<<24)
	store := api.Ins{Op: api.OpStore}
	longs := map[string]api.Prog{
		"name":         {Name: name},
		"locations":    {Locs: slices.Repeat([]string{name}, 1<<20)},
		"no names":     {Locs: make([]string, 1<<20)},
		"instructions": {Locs: []string{name}, Threads: slices.Repeat([][]api.Ins{slices.Repeat([]api.Ins{store}, 1<<16)}, 1<<16)},
		"threads":      {Threads: make([][]api.Ins, 1<<20)},
	}
	for name, p := range longs {
		if s, e := print.Print(p); s != "" || e != api.ErrLong {
			t.Error(name, len(s), e)
		}
	}
	for kind := range uint8(7) {
		c, deep := xIs1, xIs1
		for range 1 << 10 {
			c = of(kind, c, c)
		}
		for range 1<<16 - 1 {
			deep = of(kind, deep)
		}
		for _, c := range []api.Cond{c, deep} {
			want := api.ErrArg
			if kind == api.CondAnd || kind == api.CondOr || kind == api.CondNot {
				want = api.ErrLong
			}
			if s, e := print.Cond(c, "x"); s != "" || e != want {
				t.Error(kind, len(s), e)
			}
			if s, e := print.Print(api.Prog{Cond: c}); s != "" || e != want {
				t.Error(kind, len(s), e)
			}
		}
	}
	if s, e := print.Line(store, name); s != "" || e != api.ErrLong {
		t.Error(len(s), e)
	}
}

// guarded is a copy of a list that ends with the value in its spare capacity.
func guarded[V any](l []V, behind V) []V { return append(slices.Clone(l), behind)[:len(l)] }

// P6.1, P6.2 (R3, R4): arguments stay as they are, and the same ones give the same results.
func TestArguments(t *testing.T) {
	p := example
	p.Locs, p.Init, p.Threads = guarded(p.Locs, "behind"), guarded(p.Init, 99), guarded(p.Threads, nil)
	for i, l := range p.Threads {
		p.Threads[i] = guarded(l, api.Ins{Op: 99})
	}
	p.Cond.Kids = guarded(p.Cond.Kids, api.Cond{Kind: 99})
	for range 2 {
		if s, e := print.Print(p); s != exampleSource || e != api.OK {
			t.Errorf("%q, %d", s, e)
		}
		if s, e := print.Line(p.Threads[0][1], p.Locs...); s != "r1 = y acq" || e != api.OK {
			t.Errorf("%q, %d", s, e)
		}
		if s, e := print.Cond(p.Cond, p.Locs...); s != "0:r1 = 0 & ! x = 1 | true" || e != api.OK {
			t.Errorf("%q, %d", s, e)
		}
	}
	if !reflect.DeepEqual(p, example) || p.Locs[:3][2] != "behind" || p.Init[:3][2] != 99 || p.Threads[0][:3][2].Op != 99 || p.Cond.Kids[:3][2].Kind != 99 {
		t.Error(p)
	}
}

// FuzzPrint holds sources that are printed against the programs that were parsed.
func FuzzPrint(f *testing.F) {
	f.Add(exampleSource)
	f.Add("r1 = cas x 1 r2")
	f.Add("! ( x = 1 | true ) & 0:r1 = 2")
	f.Fuzz(func(t *testing.T, text string) {
		if p, _, e := parse.Parse(text); e == api.OK {
			want := sourceOf(t, p)
			if s, e := print.Print(p); len(want) <= api.MaxText && (s != want || e != api.OK) || len(want) > api.MaxText && (s != "" || e != api.ErrLong) {
				t.Fatalf("%q: %q, %d", text, s, e)
			}
		}
		if x, _, e := parse.Line(text, names...); e == api.OK {
			want, _ := lineOf(x, names)
			if s, e := print.Line(x, names...); s != want || e != api.OK {
				t.Fatalf("%q: %q, %d", text, s, e)
			}
		}
		if c, _, e := parse.Cond(text, names...); e == api.OK {
			want, _ := condOf(c, names)
			if s, e := print.Cond(c, names...); len(want) <= api.MaxText && (s != want || e != api.OK) || len(want) > api.MaxText && (s != "" || e != api.ErrLong) {
				t.Fatalf("%q: %q, %d", text, s, e)
			}
		}
	})
}
