package parse_test

import (
	"reflect"
	"slices"
	"strconv"
	"strings"
	"testing"

	"seisin/api"
	"seisin/lex"
	"seisin/parse"
)

// grammar says which symbols may follow which ones: in each line, a place and what each symbol leads to from there. Parentheses are counted beside it.
const grammar = `
program  test:title
title    WORD:titled
titled   END:head
head     init:init thread:threaded
init     NAME:valued
valued   =:value
value    NUM:more
more     NAME:valued END:first
first    thread:threaded
threaded END:body
body     thread:threaded some:cond none:cond all:cond NAME:store REG:into fence:fence skip:skip
line     NAME:store REG:into fence:fence skip:skip
store    =:stored
stored   NUM:release REG:release
release  rel:ended END:body
into     =:source
source   NAME:acquire NUM:move REG:move swap:rmw fetch:rmw cas:cas
acquire  acq:ended END:body
move     +:last -:last ^:last
rmw      NAME:last
cas      NAME:cas2
cas2     NUM:last REG:last
last     NUM:ended REG:ended
fence    loads:ended stores:ended END:body
skip     NUM:skipped
skipped  if:test
test     NUM:tested REG:tested
tested   ==:last !=:last <:last
ended    END:body
cond     !:cond (:cond NUM:thread NAME:equals true:joint
thread   ::reg
reg      REG:equals
equals   =:equal
equal    NUM:joint
joint    &:cond |:cond ):joint END:over
over
`

// moves is the grammar as a table.
func moves() map[string]map[string]string {
	table := map[string]map[string]string{}
	for _, line := range strings.Split(strings.TrimSpace(grammar), "\n") {
		words := strings.Fields(line)
		table[words[0]] = map[string]string{}
		for _, w := range words[1:] {
			i := strings.LastIndex(w, ":")
			table[words[0]][w[:i]] = w[i+1:]
		}
	}
	return table
}

var table = moves()

// symbolOf names a token as the grammar does.
func symbolOf(t lex.Token) string {
	_, isReg := lex.Reg(t.Text)
	switch {
	case t.Kind == lex.End:
		return "END"
	case t.Kind == lex.Number:
		return "NUM"
	case t.Kind == lex.Word && lex.Name(t.Text):
		return "NAME"
	case t.Kind == lex.Word && isReg:
		return "REG"
	case t.Kind == lex.Word && !lex.Kept(t.Text):
		return "none of them"
	}
	return t.Text
}

// reader walks through a source by the grammar and looks for the first error.
type reader struct {
	place        string
	open         int  // parentheses
	fixed        bool // locs cannot grow
	locs         []string
	threads, ins int
}

// step goes over a token.
func (r *reader) step(t lex.Token) api.Errno {
	from, s := r.place, symbolOf(t)
	if from == "title" && t.Kind == lex.Word {
		s = "WORD"
	}
	to, ok := table[from][s]
	if !ok || s == ")" && r.open == 0 || from == "joint" && s == "END" && r.open > 0 {
		return api.ErrSyntax
	}
	r.place = to
	switch s {
	case "(":
		r.open++
	case ")":
		r.open--
	case "NAME":
		if e := r.name(t.Text, to == "valued"); e != api.OK {
			return e
		}
	}
	switch {
	case s == "thread":
		r.threads++
		r.ins = 0
	case from == "body" && to != "cond":
		r.ins++
	}
	if !r.fixed && (r.threads > 4 || r.ins > 12) {
		return api.ErrMany
	}
	return api.OK
}

// name goes over a name; initial reports whether it stands in the init line.
func (r *reader) name(s string, initial bool) api.Errno {
	switch known := slices.Contains(r.locs, s); {
	case known && initial:
		return api.ErrTwice
	case known:
		return api.OK
	case r.fixed:
		return api.ErrNone
	}
	r.locs = append(r.locs, s)
	if len(r.locs) > 6 {
		return api.ErrMany
	}
	return api.OK
}

// faultOf is the first error of a source by the grammar, but for the depth of its condition. The source begins at place from and may end at place to.
func (r *reader) faultOf(text, from, to string) (int, api.Errno) {
	l, place, e := lex.Lex(text)
	if e != api.OK {
		return place, e
	}
	r.place = from
	for i, t := range l {
		if r.fixed && r.place == "body" || r.place == "over" { // a second line
			return t.At, api.ErrSyntax
		}
		if e := r.step(t); e != api.OK {
			return l[i].At, e
		}
	}
	if r.place != to {
		return len(text), api.ErrSyntax
	}
	return 0, api.OK
}

// names are the locations of which instructions and conditions are parsed.
var names = []string{"x", "y"}

// holdProg holds the error of Parse against the grammar.
func holdProg(t *testing.T, text string) {
	t.Helper()
	p, place, e := parse.Parse(text)
	wantPlace, wantE := (&reader{}).faultOf(text, "program", "over")
	if place != wantPlace || e != wantE {
		t.Fatalf("Parse(%q) = %d, %d, want %d, %d", text, place, e, wantPlace, wantE)
	}
	if e != api.OK && !reflect.DeepEqual(p, api.Prog{}) {
		t.Fatalf("Parse(%q) = %v, %d", text, p, e)
	}
}

// holdLine holds the error of Line against the grammar.
func holdLine(t *testing.T, text string) {
	t.Helper()
	x, place, e := parse.Line(text, names...)
	wantPlace, wantE := (&reader{fixed: true, locs: names}).faultOf(text, "line", "body")
	if place != wantPlace || e != wantE || e != api.OK && x != (api.Ins{}) {
		t.Fatalf("Line(%q) = %v, %d, %d, want %d, %d", text, x, place, e, wantPlace, wantE)
	}
}

// holdCond holds the error of Cond against the grammar.
func holdCond(t *testing.T, text string) {
	t.Helper()
	c, place, e := parse.Cond(text, names...)
	wantPlace, wantE := (&reader{fixed: true, locs: names}).faultOf(text, "cond", "over")
	if place != wantPlace || e != wantE || e != api.OK && !reflect.DeepEqual(c, api.Cond{}) {
		t.Fatalf("Cond(%q) = %v, %d, %d, want %d, %d", text, c, place, e, wantPlace, wantE)
	}
}

// vocabulary has a token for every symbol of the grammar, and some that it has no symbol for.
var vocabulary = []string{
	"test", "init", "thread", "some", "none", "all", "acq", "rel", "swap", "fetch", "cas", "fence", "loads", "stores", "skip", "if", "true",
	"x", "y", "z", "r0", "r7", "r8", "r10", "0", "255", "==", "!=", "=", "+", "-", "^", "&", "|", "!", "(", ")", ":", "<", "\n",
}

// mixer gives numbers that look mixed up and are the same in every run.
type mixer uint64

func (x *mixer) below(n int) int {
	*x = *x*6364136223846793005 + 1442695040888963407
	return int(uint64(*x)>>33) % n
}

func (x *mixer) of(l ...string) string {
	return l[x.below(len(l))]
}

// writer makes sources together with what they mean.
type writer struct {
	mixer
	locs  []string // all names that it uses
	met   []string // those that it used, in this order
	words []string // the tokens so far
}

// put writes tokens.
func (w *writer) put(l ...string) {
	w.words = append(w.words, l...)
}

// loc writes the name of a location and returns its number.
func (w *writer) loc() uint8 {
	s := w.of(w.locs...)
	w.put(s)
	if !slices.Contains(w.met, s) {
		w.met = append(w.met, s)
	}
	return uint8(slices.Index(w.met, s))
}

func (w *writer) num() uint8 {
	n := w.below(256)
	w.put(strconv.Itoa(n))
	return uint8(n)
}

func (w *writer) reg() uint8 {
	n := w.below(8)
	w.put("r" + strconv.Itoa(n))
	return uint8(n)
}

func (w *writer) arg() api.Arg {
	if w.below(2) == 0 {
		return api.Arg{Reg: true, N: w.reg()}
	}
	return api.Arg{N: w.num()}
}

// one writes one of the tokens and returns its number, counted from first.
func (w *writer) one(first uint8, l ...string) uint8 {
	i := w.below(len(l))
	if l[i] != "" {
		w.put(l[i])
	}
	return first + uint8(i)
}

func (w *writer) ins() (x api.Ins) {
	x.Op = uint8(1 + w.below(8))
	switch x.Op {
	case api.OpFence:
		w.put("fence")
		x.Mode = w.one(3, "", "loads", "stores")
		return x
	case api.OpSkip:
		w.put("skip")
		x.Skip = w.num()
		w.put("if")
		x.A = w.arg()
		x.Fn = w.one(4, "==", "!=", "<")
		x.B = w.arg()
		return x
	case api.OpStore:
		x.Loc = w.loc()
		w.put("=")
		x.A = w.arg()
		x.Mode = 2 * w.one(0, "", "rel")
		return x
	}
	x.Dst = w.reg()
	w.put("=")
	switch x.Op {
	case api.OpLoad:
		x.Loc = w.loc()
		x.Mode = w.one(0, "", "acq")
	case api.OpMove:
		x.A = w.arg()
		x.Fn = w.one(1, "+", "-", "^")
		x.B = w.arg()
	default:
		w.put(map[uint8]string{api.OpSwap: "swap", api.OpFetch: "fetch", api.OpCas: "cas"}[x.Op])
		x.Loc = w.loc()
		x.A = w.arg()
		if x.Op == api.OpCas {
			x.B = w.arg()
		}
	}
	return x
}

// cond writes a condition of at most the given depth. What stands around it binds its operands more strongly than within: 0 nothing, 1 a disjunction, 2 a conjunction, 3 a negation.
func (w *writer) cond(deep, around int) api.Cond {
	kind := uint8(w.below(6))
	if deep == 1 {
		kind = uint8(w.below(3))
	}
	needs := kind == api.CondOr && around >= 1 || kind == api.CondAnd && around >= 2
	if needs || w.below(6) == 0 {
		w.put("(")
		defer w.put(")")
	}
	switch kind {
	case api.CondReg:
		c := api.Cond{Kind: kind, Thread: w.num()}
		w.put(":")
		c.N = w.reg()
		w.put("=")
		c.Val = w.num()
		return c
	case api.CondLoc:
		c := api.Cond{Kind: kind, N: w.loc()}
		w.put("=")
		c.Val = w.num()
		return c
	case api.CondAnd:
		return w.kids(kind, "&", deep, 2)
	case api.CondOr:
		return w.kids(kind, "|", deep, 1)
	case api.CondNot:
		w.put("!")
		return api.Cond{Kind: kind, Kids: []api.Cond{w.cond(deep-1, 3)}}
	}
	w.put("true")
	return api.Cond{}
}

func (w *writer) kids(kind uint8, sign string, deep, around int) api.Cond {
	c := api.Cond{Kind: kind, Kids: []api.Cond{w.cond(deep-1, around)}}
	for range 1 + w.below(3) {
		w.put(sign)
		c.Kids = append(c.Kids, w.cond(deep-1, around))
	}
	return c
}

// prog writes a program.
func (w *writer) prog() api.Prog {
	p := api.Prog{Name: w.of("SB", "x", "test", "r1", "r99", "thread", "abcdefghijklmnop")}
	w.put("test", p.Name, "\n")
	if w.below(2) == 0 {
		w.put("init")
		for _, s := range w.locs[:1+w.below(len(w.locs))] {
			w.met = append(w.met, s)
			w.put(s, "=")
			p.Init = append(p.Init, w.num())
		}
		w.put("\n")
	}
	for range 1 + w.below(4) {
		w.put("thread", "\n")
		var thread []api.Ins
		for range w.below(13) {
			thread = append(thread, w.ins())
			w.put("\n")
		}
		p.Threads = append(p.Threads, thread)
	}
	p.Ask = w.one(1, "some", "none", "all")
	p.Cond = w.cond(1+w.below(4), 0)
	p.Locs = w.met
	p.Init = append(p.Init, make([]uint8, len(p.Locs)-len(p.Init))...)
	return p
}

// locations are as many names as a program may have.
var locations = []string{"x", "y", "z", "flag", "R1", "abcdefghijklmno_"}

// writerOf is a writer whose choices depend on n.
func writerOf(n int) *writer {
	return &writer{mixer: mixer(n), locs: locations[:1+n%6]}
}

// joined is the source of tokens, with one space between them.
func joined(words []string) string { return strings.Join(words, " ") }

// gapped is the source of tokens with as much between them as may stand there.
func (x *mixer) gapped(words []string) string {
	var b strings.Builder
	b.WriteString(x.of("", "# thread\n", "\n \n\t"))
	for _, s := range words {
		if s == "\n" {
			s = x.of("\n", "# x = 1\n", " #$\n\n", "\n\n#\n \n")
		}
		b.WriteString(s + x.of(" ", "\t", "  "))
	}
	b.WriteString(x.of("", "\n", "# x", "\n# x", "\n\n\t"))
	return b.String()
}

// sameProg compares programs; nil lists and empty ones are the same.
func sameProg(a, b api.Prog) bool {
	return a.Name == b.Name && slices.Equal(a.Locs, b.Locs) && slices.Equal(a.Init, b.Init) && a.Ask == b.Ask && sameCond(a.Cond, b.Cond) &&
		slices.EqualFunc(a.Threads, b.Threads, func(a, b []api.Ins) bool { return slices.Equal(a, b) })
}

func sameCond(a, b api.Cond) bool {
	return a.Kind == b.Kind && a.Thread == b.Thread && a.N == b.N && a.Val == b.Val && slices.EqualFunc(a.Kids, b.Kids, sameCond)
}

const example = "test SB\ninit x = 1\nthread\nx = 1\nr1 = y acq\nthread\ny = 2 rel\nsome 0:r1 = 0 & ! x = 1 | true"

// P5.1: the chapter's examples.
func TestParseExamples(t *testing.T) {
	want := api.Prog{
		Name: "SB", Locs: []string{"x", "y"}, Init: []uint8{1, 0},
		Threads: [][]api.Ins{
			{{Op: api.OpStore, A: api.Arg{N: 1}}, {Op: api.OpLoad, Dst: 1, Loc: 1, Mode: api.ModeAcquire}},
			{{Op: api.OpStore, Loc: 1, A: api.Arg{N: 2}, Mode: api.ModeRelease}},
		},
		Ask: api.AskSome,
		Cond: api.Cond{Kind: api.CondOr, Kids: []api.Cond{
			{Kind: api.CondAnd, Kids: []api.Cond{
				{Kind: api.CondReg, N: 1},
				{Kind: api.CondNot, Kids: []api.Cond{{Kind: api.CondLoc, Val: 1}}},
			}},
			{Kind: api.CondTrue},
		}},
	}
	p, place, e := parse.Parse(example)
	if !sameProg(p, want) || place != 0 || e != api.OK || parse.Deep(p.Cond) != 4 {
		t.Error(p, place, e)
	}
	if p, place, e := parse.Parse("test a\nthread\nsome"); !reflect.DeepEqual(p, api.Prog{}) || place != 18 || e != api.ErrSyntax {
		t.Error(p, place, e)
	}
}

// P5.1: programs are what their sources say, whatever stands between the tokens.
func TestParseMeaning(t *testing.T) {
	for n := range 4000 {
		w := writerOf(n)
		want := w.prog()
		for _, s := range []string{joined(w.words), w.gapped(w.words)} {
			if p, place, e := parse.Parse(s); !sameProg(p, want) || place != 0 || e != api.OK {
				t.Fatalf("%q: %v, %d, %d, want %v", s, p, place, e, want)
			}
		}
	}
}

// P5.1: the first token that the grammar does not allow decides: each token of valid programs is left out, doubled, and replaced by every other one.
func TestParseFaults(t *testing.T) {
	for n := range 12 {
		w := writerOf(n)
		w.prog()
		for i := range w.words {
			holdProg(t, joined(w.words[:i]))
			holdProg(t, joined(slices.Delete(slices.Clone(w.words), i, i+1)))
			holdProg(t, joined(slices.Insert(slices.Clone(w.words), i, w.words[i])))
			changed := slices.Clone(w.words[:min(i+6, len(w.words))])
			for _, s := range vocabulary {
				changed[i] = s
				holdProg(t, joined(changed))
			}
		}
	}
}

// P5.1: every token at every place of a line, with every token behind it.
func TestParsePairs(t *testing.T) {
	for _, begun := range []string{
		"", "test", "test a", "test a\n", "test a\ninit", "test a\ninit x", "test a\ninit x =", "test a\ninit x = 1", "test a\ninit x = 1\n", "test a\nthread",
		"test a\nthread\n", "test a\nthread\nx", "test a\nthread\nr1", "test a\nthread\nr1 =", "test a\nthread\nr1 = x", "test a\nthread\nx = 1", "test a\nthread\nr1 = cas x",
		"test a\nthread\nfence", "test a\nthread\nskip", "test a\nthread\nskip 1 if", "test a\nthread\nskip 1 if r1", "test a\nthread\nall", "test a\nthread\nall true",
		"test a\nthread\nall true\n", "test a\nthread\nall ! (", "test a\nthread\nall ( x = 1", "test a\nthread\nall ( x = 1 )", "test a\nthread\nall 0",
	} {
		for _, a := range vocabulary {
			for _, b := range vocabulary {
				holdProg(t, begun+" "+a+" "+b)
			}
		}
	}
}

// P5.1: where the source ends too early, and where something stands behind its end.
func TestParseEnds(t *testing.T) {
	for text, want := range map[string]int{
		"":                                   0,
		"\n\n":                               2,
		"# test a":                           8,
		"test":                               4,
		"test\n":                             4,
		"test # a\n":                         8,
		"test a":                             6,
		"test a\n":                           7,
		"test a\n# x\n":                      11,
		"test a\nthread":                     13,
		"test a\nthread\nx = 1\n":            20,
		"test a\nthread\nx =":                17,
		"test a\nthread\nx = # 1\nx = 1":     21,
		"test a b":                           7,
		"test a\nthread 1":                   14,
		"test a\nthread\nall true true":      23,
		"test a\nthread\nall true\n\nx = 1":  24,
		"test a\nthread\nall true\nall true": 23,
		"test a\nthread\nall true\nthread":   23,
		"test a\ntest b\nthread\nall true":   7,
		"test a\ninit x = 1\ninit y = 1\nthread\nall x = 1":           18,
		"test a\nthread\ninit x = 1\nall x = 1":                       14,
		"init x = 1\ntest a\nthread\nall true":                        0,
		"thread\nall true":                                            0,
		"test a\nall true":                                            7,
		"test a\ninit x = 1\nall true":                                18,
		"test a\nx = 1\nthread\nall true":                             7,
		"test 1\nthread\nall true":                                    5,
		"test =\nthread\nall true":                                    5,
		"test a\ninit\nthread\nall true":                              11,
		"test a\ninit x = 1 rel\nthread\nall true":                    18,
		"test a\ninit x = r1\nthread\nall true":                       16,
		"test a\ninit r1 = 1\nthread\nall true":                       12,
		"test a\nthread\nskip 1 if 1 == 1 acq\nall true":              31,
		"test a\nthread\nall ( true\n)":                               24,
		"test a\nthread\nall true\n" + strings.Repeat("\n", 99) + "x": 122,
	} {
		if p, place, e := parse.Parse(text); !reflect.DeepEqual(p, api.Prog{}) || place != want || e != api.ErrSyntax {
			t.Errorf("%q: %v, %d, %d, want %d", text, p, place, e, want)
		}
	}
}

// P5.1: an error of a token comes before every other one.
func TestParseTokens(t *testing.T) {
	for bad, want := range map[string]api.Errno{"$": api.ErrSign, "256": api.ErrNumber, "01": api.ErrNumber, "abcdefghijklmnopq": api.ErrWord} {
		for _, s := range []string{"", "=\n", "test a\nthread\nall ", "test a\nthread\nthread\nthread\nthread\nthread\nthread\n", "test a\ninit x = 1 x = 2\n", example + "\n"} {
			if p, place, e := parse.Parse(s + bad); !reflect.DeepEqual(p, api.Prog{}) || place != len(s) || e != want {
				t.Errorf("%q: %v, %d, %d", s+bad, p, place, e)
			}
			if x, place, e := parse.Line(s + bad); x != (api.Ins{}) || place != len(s) || e != want {
				t.Errorf("%q: %v, %d, %d", s+bad, x, place, e)
			}
			if c, place, e := parse.Cond(s + bad); !reflect.DeepEqual(c, api.Cond{}) || place != len(s) || e != want {
				t.Errorf("%q: %v, %d, %d", s+bad, c, place, e)
			}
		}
	}
	long := example + strings.Repeat(" ", api.MaxText-len(example))
	if p, place, e := parse.Parse(long); p.Name != "SB" || place != 0 || e != api.OK {
		t.Error(p, place, e)
	}
	if p, place, e := parse.Parse(long + " "); !reflect.DeepEqual(p, api.Prog{}) || place != 0 || e != api.ErrLong {
		t.Error(p, place, e)
	}
	if x, place, e := parse.Line("=" + long); x != (api.Ins{}) || place != 0 || e != api.ErrLong {
		t.Error(x, place, e)
	}
	if c, place, e := parse.Cond("$" + long); !reflect.DeepEqual(c, api.Cond{}) || place != 0 || e != api.ErrLong {
		t.Error(c, place, e)
	}
}

// P5.1: a location has one initial value.
func TestParseTwice(t *testing.T) {
	for text, want := range map[string]struct {
		place int
		e     api.Errno
	}{
		"test a\ninit x = 1 x = 1\nthread\nall true":                                               {18, api.ErrTwice},
		"test a\ninit x = 1 y = 2 x":                                                               {24, api.ErrTwice},
		"test a\ninit x = 1 y = 2 y y":                                                             {24, api.ErrTwice},
		"test a\ninit x = 1 x = 256":                                                               {22, api.ErrNumber},
		"test a\ninit x x = 1":                                                                     {14, api.ErrSyntax},
		"test a\ninit a = 1 b = 1 c = 1 d = 1 e = 1 f = 1 f = 1":                                   {48, api.ErrTwice},
		"test a\ninit a = 1 b = 1 c = 1 d = 1 e = 1 f = 1 g = 1":                                   {48, api.ErrMany},
		"test x\ninit x = 1\nthread\nx = 1\nx = 1\nthread\nr1 = swap x 1\nall x = 1 & x = 2":       {0, api.OK},
		"test a\nthread\nx = 1\nx = 1\nthread\nr1 = swap x 1\nall x = 1 & ( x = 2 | x = 1 | true)": {0, api.OK},
	} {
		if p, place, e := parse.Parse(text); place != want.place || e != want.e || (e == api.OK) != (len(p.Locs) == 1) {
			t.Errorf("%q: %v, %d, %d", text, p, place, e)
		}
	}
}

// P5.1: there are at most 4 threads of 12 instructions, and 6 locations, wherever these appear.
func TestParseMany(t *testing.T) {
	check := func(text string, place int, e api.Errno) {
		t.Helper()
		if p, at, got := parse.Parse(text); at != place || got != e || e != api.OK && !reflect.DeepEqual(p, api.Prog{}) {
			t.Errorf("%q: %v, %d, %d", text, p, at, got)
		}
	}
	four := "test a\n" + strings.Repeat("thread\n", 4)
	check(four+"all true", 0, api.OK)
	for _, s := range []string{"thread", "thread\nall true", "thread x", "thread\nthread\n"} {
		check(four+s, len(four), api.ErrMany)
	}
	for _, ins := range []string{"x = 1", "r1 = x", "r1 = 1 + 2", "r1 = swap x 1", "r1 = fetch x 1", "r1 = cas x 1 2", "fence", "skip 1 if 1 == 1"} {
		full := "test a\nthread\n" + strings.Repeat(ins+"\n", 12)
		again := full + strings.Repeat("thread\n"+strings.Repeat(ins+"\n", 12), 3)
		for _, s := range []string{full, again} {
			check(s+"all true", 0, api.OK)
			for _, more := range []string{"x", "x = 1", "new", "r1", "r1 =", "fence", "fence fence", "skip", "skip 1 if 1 == 1\nall true"} {
				check(s+more, len(s), api.ErrMany)
			}
			for _, more := range []string{"true", "1", "=", "r8", "acq", "init", "test", ""} {
				check(s+more, len(s), api.ErrSyntax)
			}
		}
	}
	six := "test a\ninit a = 1 b = 2\nthread\nc = 1\nr1 = d\nthread\nr1 = cas e 1 2\nall f = 1 & "
	check(six+"a = 1 & ! f = 2", 0, api.OK)
	check(six+"g = 1", len(six), api.ErrMany)
	check(six+"! ( g", len(six)+4, api.ErrMany)
	six = "test a\nthread\na = 1\nb = 1\nc = 1\nd = 1\ne = 1\nf = 1\n"
	for _, s := range []string{"", "r1 = ", "r1 = swap ", "r1 = fetch ", "r1 = cas ", "none ", "all true & "} {
		check(six+s+"g", len(six)+len(s), api.ErrMany)
		check(six+s+"a :", len(six)+len(s)+2, api.ErrSyntax)
	}
}

// nested is a condition of the given depth.
func nested(deep int, around string) string {
	return strings.Repeat(around, deep-1) + "true"
}

// P5.1, P5.2: conditions have a depth of at most 20. That comes last, and at the query's keyword or at the first token.
func TestDeepest(t *testing.T) {
	for _, ask := range []string{"some", "none", "all"} {
		head := "test a\nthread\n  "
		for _, deep := range []int{1, 2, 19, 20, 21, 22, 1000} {
			text := head + ask + " " + nested(deep, "! ") + "\n\n"
			p, place, e := parse.Parse(text)
			if deep <= 20 && (e != api.OK || place != 0 || parse.Deep(p.Cond) != deep) || deep > 20 && (e != api.ErrMany || place != len(head) || !reflect.DeepEqual(p, api.Prog{})) {
				t.Error(deep, p, place, e)
			}
			c, place, e := parse.Cond("\n " + nested(deep, "! "))
			if deep <= 20 && (e != api.OK || place != 0 || parse.Deep(c) != deep) || deep > 20 && (e != api.ErrMany || place != 2 || !reflect.DeepEqual(c, api.Cond{})) {
				t.Error(deep, c, place, e)
			}
		}
		if _, place, e := parse.Parse(head + ask + nested(30, "! ") + " x"); e != api.ErrSyntax || place != len(head+ask+nested(30, "! "))+1 {
			t.Error(place, e)
		}
		if _, place, e := parse.Parse(head + ask + nested(30, "! ") + "\nx"); e != api.ErrSyntax || place != len(head+ask+nested(30, "! "))+1 {
			t.Error(place, e)
		}
	}
	if _, place, e := parse.Cond(nested(30, "! ") + " & x = 1"); e != api.ErrNone || place != len(nested(30, "! "))+3 {
		t.Error(place, e)
	}
	if _, place, e := parse.Cond(nested(30, "! ") + "\ntrue"); e != api.ErrSyntax || place != len(nested(30, "! "))+1 {
		t.Error(place, e)
	}
	for deep := 1; deep < 25; deep++ { // by turns a disjunction and a conjunction
		text := "true"
		for n := range deep - 1 {
			text = "(" + text + ")" + "|&"[n%2:n%2+1] + "true"
		}
		if _, place, e := parse.Cond(text); place != 0 || (e == api.OK) != (deep <= 20) || e != api.OK && e != api.ErrMany {
			t.Error(deep, place, e)
		}
	}
}

// P5.1, P5.2: parentheses add nothing to the depth, however many there are.
func TestParentheses(t *testing.T) {
	for _, n := range []int{1, 2, 19, 20, 21, 8190} {
		c, place, e := parse.Cond(strings.Repeat("(", n) + "true" + strings.Repeat(")", n))
		if n == 8190 && len("true")+2*n != api.MaxText {
			t.Error("not the longest source")
		}
		if !reflect.DeepEqual(c, api.Cond{}) || place != 0 || e != api.OK {
			t.Error(n, c, place, e)
		}
	}
	if _, place, e := parse.Cond(strings.Repeat("(", api.MaxText)); place != api.MaxText || e != api.ErrSyntax {
		t.Error(place, e)
	}
	if _, place, e := parse.Cond(strings.Repeat("!", api.MaxText-4) + "true"); place != 0 || e != api.ErrMany {
		t.Error(place, e)
	}
	if _, place, e := parse.Cond(strings.Repeat("!", api.MaxText)); place != api.MaxText || e != api.ErrSyntax {
		t.Error(place, e)
	}
	wide, place, e := parse.Cond("true" + strings.Repeat("|true", 3000))
	if wide.Kind != api.CondOr || len(wide.Kids) != 3001 || parse.Deep(wide) != 2 || place != 0 || e != api.OK {
		t.Error(len(wide.Kids), place, e)
	}
}

// texts calls use with every source of exactly n tokens of the vocabulary that follow begun.
func texts(vocabulary []string, begun string, n int, use func(string)) {
	if n == 0 {
		use(begun)
		return
	}
	for _, s := range vocabulary {
		texts(vocabulary, begun+" "+s, n-1, use)
	}
}

// P5.2: all short lines, valid and invalid.
func TestLineShort(t *testing.T) {
	for n := range 4 {
		texts(vocabulary, "", n, func(s string) { holdLine(t, s) })
	}
	few := []string{"x", "z", "r1", "7", "=", "+", "==", "swap", "cas", "fence", "loads", "skip", "if", "\n"}
	texts(few, "", 4, func(s string) { holdLine(t, s) })
	for _, begun := range []string{"r1 = cas", "r1 = swap", "skip 1 if", "r1 =", "skip 1 if r1"} {
		for n := range 4 {
			texts(few, begun, n, func(s string) { holdLine(t, s) })
		}
	}
}

// P5.2: all short conditions, valid and invalid.
func TestCondShort(t *testing.T) {
	for n := range 4 {
		texts(vocabulary, "", n, func(s string) { holdCond(t, s) })
	}
	few := []string{"x", "z", "0", "=", "&", "|", "!", "(", ")", "true", "\n"}
	for n := range 6 {
		texts(few, "", n, func(s string) { holdCond(t, s) })
	}
	for n := range 4 {
		texts(few, "(true|! x = 1 &", n, func(s string) { holdCond(t, s) })
	}
}

// P5.2: instructions and conditions are what their sources say.
func TestLineMeaning(t *testing.T) {
	for n := range 4000 {
		w := writerOf(n)
		want := w.ins()
		for _, s := range []string{joined(w.words), w.gapped(w.words)} {
			if x, place, e := parse.Line(s, w.met...); x != want || place != 0 || e != api.OK {
				t.Fatalf("%q: %v, %d, %d, want %v", s, x, place, e, want)
			}
		}
	}
	for n := range 4000 {
		w := writerOf(n)
		want := w.cond(1+n%6, 0)
		for _, s := range []string{joined(w.words), w.gapped(w.words)} {
			if c, place, e := parse.Cond(s, w.met...); !sameCond(c, want) || place != 0 || e != api.OK {
				t.Fatalf("%q: %v, %d, %d, want %v", s, c, place, e, want)
			}
		}
	}
}

// P5.2: a name denotes the first element that is equal to it; its index is taken modulo 256.
func TestNames(t *testing.T) {
	many := slices.Repeat([]string{"other", "r1", "true", "", "X", "x ", "7", "X"}, 40)
	for at := range many {
		locs := slices.Clone(many)
		locs[at] = "x"
		if at+5 < len(locs) {
			locs[at+5] = "x"
		}
		given := slices.Clone(locs)
		if ins, _, e := parse.Line("r1 = cas x r1 7", locs...); e != api.OK || ins.Loc != uint8(at) {
			t.Error(at, ins, e)
		}
		if c, _, e := parse.Cond("x = 1", locs...); e != api.OK || c.N != uint8(at) {
			t.Error(at, c, e)
		}
		if !slices.Equal(locs, given) {
			t.Error("the names changed")
		}
	}
	for text, want := range map[string]int{"x = 1": 0, " r1 = x": 6, "r1 = swap x 1": 10, "x =": 0, "x x": 0, "\nx": 1} {
		if ins, place, e := parse.Line(text, many...); ins != (api.Ins{}) || place != want || e != api.ErrNone {
			t.Error(text, ins, place, e)
		}
	}
	for text, want := range map[string]int{"x = 1": 0, "! ( x": 4, "X = 1 | x = 2": 8, "x x": 0} {
		if c, place, e := parse.Cond(text, many...); !reflect.DeepEqual(c, api.Cond{}) || place != want || e != api.ErrNone {
			t.Error(text, c, place, e)
		}
	}
	for text, want := range map[string]int{"true = 1": 0, "7 = 1": 0, "r9 = X": 0, "r1 = r1": 7, "X": 1, "": 0} { // elements that are no names
		if ins, place, e := parse.Line(text, append(many, "r9")...); ins != (api.Ins{}) || place != want || e != api.ErrSyntax {
			t.Error(text, ins, place, e)
		}
	}
	if x, place, e := parse.Line("x = 1"); x != (api.Ins{}) || place != 0 || e != api.ErrNone {
		t.Error(x, place, e)
	}
	if x, _, e := parse.Line("g = 1", "a", "b", "c", "d", "e", "f", "g"); e != api.OK || x.Loc != 6 {
		t.Error(x, e)
	}
}

// P5.2: Deep is 1 without Kids, and otherwise one more than the greatest depth of the Kids, whatever the condition's Kind.
func TestDeep(t *testing.T) {
	leaf := api.Cond{Kind: 99, Thread: 200, N: 200, Val: 200}
	with := func(kids ...api.Cond) api.Cond { return api.Cond{Kids: kids} }
	for i, c := range []api.Cond{{}, with(leaf), with(leaf, with(leaf)), with(with(with(leaf), leaf), leaf, with(leaf))} {
		if parse.Deep(c) != i+1 {
			t.Error(i, parse.Deep(c))
		}
	}
	if parse.Deep(api.Cond{Kind: api.CondNot, Kids: []api.Cond{}}) != 1 {
		t.Error("an empty list of Kids")
	}
	c := leaf
	for range 1<<16 - 1 {
		c = with(leaf, c, leaf)
	}
	if parse.Deep(c) != 1<<16 {
		t.Error(parse.Deep(c))
	}
}

// P5.3: comments, blanks and lines without tokens change nothing but the offset of an error.
func TestGaps(t *testing.T) {
	for n := range 1500 {
		w := writerOf(n)
		w.prog()
		w.words[w.below(len(w.words))] = w.of(vocabulary...)
		plain, gapped := joined(w.words), w.gapped(w.words)
		p, place, e := parse.Parse(plain)
		q, place2, e2 := parse.Parse(gapped)
		if !sameProg(p, q) || e != e2 || tokenAt(plain, place) != tokenAt(gapped, place2) {
			t.Fatalf("%q: %d, %d; %q: %d, %d", plain, place, e, gapped, place2, e2)
		}
	}
}

// tokenAt is the number of the token at an offset; it is the number of all tokens at the end of the source.
func tokenAt(text string, place int) int {
	l, _, _ := lex.Lex(text)
	i := slices.IndexFunc(l, func(t lex.Token) bool { return t.At >= place })
	if i < 0 {
		return len(l)
	}
	return i
}

// P5.3: a line that is added to a thread, or taken away, changes that thread only.
func TestThreadLines(t *testing.T) {
	lines := strings.Split("test a\ninit x = 1 y = 2\nthread\nx = 1\nr1 = y\nthread\nthread\nfence\ny = r1 rel\nall x = 1 | y = 1", "\n")
	p, _, _ := parse.Parse(strings.Join(lines, "\n"))
	for i, thread := range map[int]int{3: 0, 4: 0, 5: 0, 6: 1, 7: 2, 8: 2, 9: 2} {
		more, _, e := parse.Parse(strings.Join(slices.Insert(slices.Clone(lines), i, "r5 = fetch y 1"), "\n"))
		added, _, _ := parse.Line("r5 = fetch y 1", "x", "y")
		if e != api.OK || len(more.Threads[thread]) != len(p.Threads[thread])+1 || !slices.Contains(more.Threads[thread], added) {
			t.Error(i, more, e)
		}
		more.Threads[thread] = p.Threads[thread]
		if !sameProg(more, p) {
			t.Error(i, more)
		}
	}
	for i, thread := range map[int]int{3: 0, 4: 0, 7: 2, 8: 2} {
		fewer, _, e := parse.Parse(strings.Join(slices.Delete(slices.Clone(lines), i, i+1), "\n"))
		if e != api.OK || len(fewer.Threads[thread]) != 1 || fewer.Threads[thread][0] == p.Threads[thread][(i+1)%2] {
			t.Error(i, fewer, e)
		}
		fewer.Threads[thread] = p.Threads[thread]
		if !sameProg(fewer, p) {
			t.Error(i, fewer)
		}
	}
}

// P5.1, P5.2 (R3): the lists of a result share no memory with one another, with another result, or with the names.
func TestMemory(t *testing.T) {
	w := writerOf(5)
	want := w.prog()
	text := joined(w.words)
	p, _, _ := parse.Parse(text)
	q, _, _ := parse.Parse(text)
	_ = append(q.Locs, "a")
	_ = append(q.Init, 1)
	_ = append(q.Threads, nil)
	for i := range q.Threads {
		_ = append(q.Threads[i], api.Ins{Op: 99})
	}
	spoilKids(q.Cond, false)
	if !sameProg(q, want) {
		t.Error("lists of a result share memory")
	}
	clear(q.Locs)
	clear(q.Init)
	for _, l := range q.Threads {
		clear(l)
	}
	clear(q.Threads)
	spoilKids(q.Cond, true)
	if !sameProg(p, want) {
		t.Error("two results share memory")
	}
	locs := []string{"x", "y", "z"}
	parse.Line("z = 1", locs[:2]...)
	parse.Cond("z = 1 | y = 1 | new = 1", locs[:2]...)
	parse.Cond("y = 1 | x = 1", locs[:2]...)
	if !slices.Equal(locs, []string{"x", "y", "z"}) {
		t.Error(locs)
	}
}

// spoilKids writes behind the Kids of a condition, or over them too.
func spoilKids(c api.Cond, over bool) {
	for _, kid := range c.Kids {
		spoilKids(kid, over)
	}
	_ = append(c.Kids, api.Cond{Kind: 99})
	if over {
		clear(c.Kids)
	}
}

// FuzzParse holds the errors of all calls against the grammar.
func FuzzParse(f *testing.F) {
	f.Add(example)
	f.Add("r1 = cas x 1 r2")
	f.Add("! ( x = 1 | true ) & 0:r1 = 2")
	f.Fuzz(func(t *testing.T, s string) {
		if strings.Count(s, "!")+strings.Count(s, "&")+strings.Count(s, "|") < 19 { // else it may be too deep
			holdProg(t, s)
			holdCond(t, s)
		}
		holdLine(t, s)
	})
}
