package lex_test

import (
	"math"
	"regexp"
	"slices"
	"strconv"
	"strings"
	"testing"

	"seisin/api"
	"seisin/lex"
)

// keywords lists the words that no location can have for its name.
const keywords = "test init thread some none all acq rel swap fetch cas fence loads stores skip if true"

// shapes is the definition of the tokens: words, numbers and signs, the longest sign first.
var shapes = regexp.MustCompile(`^(?:([a-zA-Z][a-zA-Z0-9_]*)|([0-9]+)|(==|!=|[-=+^&|!():<]))`)

// expected lexes text by the definition, line by line. It stops at the first invalid token.
func expected(text string) (l []lex.Token, place int, e api.Errno) {
	at := 0
	for _, line := range strings.Split(text, "\n") {
		code, _, _ := strings.Cut(line, "#")
		tokens, place, e := expectedOf(code, at)
		if e != api.OK {
			return nil, place, e
		}
		l = append(l, tokens...)
		if len(tokens) > 0 {
			l = append(l, lex.Token{Kind: lex.End, At: at + len(line)})
		}
		at += len(line) + 1
	}
	return l, 0, api.OK
}

// expectedOf lexes a line without its comment that stands at the given offset.
func expectedOf(code string, at int) (l []lex.Token, place int, e api.Errno) {
	for {
		rest := strings.TrimLeft(code, " \t")
		at += len(code) - len(rest)
		if rest == "" {
			return l, 0, api.OK
		}
		m := shapes.FindStringSubmatch(rest)
		if m == nil {
			return nil, at, api.ErrSign
		}
		t := lex.Token{Kind: lex.Sign, Text: m[0], At: at}
		switch {
		case m[1] != "":
			t.Kind = lex.Word
			if len(m[1]) > 16 {
				return nil, at, api.ErrWord
			}
		case m[2] != "":
			t.Kind = lex.Number
			if n, err := strconv.Atoi(m[2]); err != nil || n > 255 || strconv.Itoa(n) != m[2] {
				return nil, at, api.ErrNumber
			}
		}
		l = append(l, t)
		code = rest[len(m[0]):]
		at += len(m[0])
	}
}

// compare holds what Lex answers against what the definition asks for.
func compare(t *testing.T, text string) {
	t.Helper()
	l, place, e := lex.Lex(text)
	wantL, wantPlace, wantE := expected(text)
	if !slices.Equal(l, wantL) || place != wantPlace || e != wantE {
		t.Fatalf("Lex(%q) = %v, %d, %d, want %v, %d, %d", text, l, place, e, wantL, wantPlace, wantE)
	}
}

// texts calls use with every text of up to n parts.
func texts(parts []string, n int, use func(string)) {
	var extend func(begun string, n int)
	extend = func(begun string, n int) {
		use(begun)
		if n == 0 {
			return
		}
		for _, p := range parts {
			extend(begun+p, n-1)
		}
	}
	extend("", n)
}

// mixer gives numbers that look mixed up and are the same in every run.
type mixer uint64

func (x *mixer) below(n int) int {
	*x = *x*6364136223846793005 + 1442695040888963407
	return int(uint64(*x)>>33) % n
}

func (x *mixer) of(l []string) string {
	return l[x.below(len(l))]
}

// pieces are texts of which sources are mixed.
var pieces = []string{
	" ", "  ", "\t", "\n", "\n", "# x = 1 $ 999", "#", "x", "r1", "r7", "a_1", "Z", "loc0", "test", "some", "thread", "acq", "abcdefghijklmnop",
	"0", "7", "42", "255", "=", "==", "!=", "!", "+", "-", "^", "&", "|", "(", ")", ":", "<",
}

// mixed is a source of n pieces.
func (x *mixer) mixed(n int) string {
	var b strings.Builder
	for range n {
		b.WriteString(x.of(pieces))
	}
	return b.String()
}

// P4.1: the chapter's examples.
func TestLexExamples(t *testing.T) {
	l, place, e := lex.Lex("r1 = x # get\n0:r1!=2")
	want := []lex.Token{
		{lex.Word, "r1", 0}, {lex.Sign, "=", 3}, {lex.Word, "x", 5}, {lex.End, "", 12},
		{lex.Number, "0", 13}, {lex.Sign, ":", 14}, {lex.Word, "r1", 15}, {lex.Sign, "!=", 17}, {lex.Number, "2", 19}, {lex.End, "", 20},
	}
	if !slices.Equal(l, want) || place != 0 || e != api.OK {
		t.Error(l, place, e)
	}
	for _, c := range []struct {
		text  string
		place int
		e     api.Errno
	}{{"x = 07", 4, api.ErrNumber}, {"x = 256", 4, api.ErrNumber}, {"x $", 2, api.ErrSign}} {
		if l, place, e := lex.Lex(c.text); l != nil || place != c.place || e != c.e {
			t.Error(c.text, l, place, e)
		}
	}
}

// P4.1: every byte, alone, between tokens, in a word, and in a comment; and every pair of bytes, for the longest match.
func TestLexBytes(t *testing.T) {
	for a := range 256 {
		s := string([]byte{byte(a)})
		compare(t, s)
		compare(t, "x"+s)
		compare(t, "x "+s+" 1\ny")
		if a != '\n' {
			compare(t, "x #"+s+"\ny")
			if l, _, e := lex.Lex("x #" + s + "#\ny"); len(l) != 4 || e != api.OK {
				t.Error(a, l, e)
			}
		}
		for b := range 256 {
			compare(t, s+string([]byte{byte(b)}))
		}
	}
}

// P4.1: all short sources over a few parts, valid and invalid.
func TestLexShort(t *testing.T) {
	texts([]string{"a", "r1", "_", "0", "25", "6", "=", "!", "<", " ", "\t", "\n", "#", "$"}, 4, func(s string) { compare(t, s) })
	texts([]string{"x", "=", "\n", " ", "#"}, 7, func(s string) { compare(t, s) })
}

// P4.1: the longest match decides where a token ends.
func TestLexLongest(t *testing.T) {
	for text, want := range map[string]string{
		"===":          "== =",
		"!==":          "!= =",
		"!!=":          "! !=",
		"=!=":          "= !=",
		"=!":           "= !",
		"= =":          "= =",
		"! =":          "! =",
		"<=":           "< =",
		"&&||":         "& & | |",
		"1x2":          "1 x2",
		"x1_2y":        "x1_2y",
		"x-1":          "x - 1",
		"255r7":        "255 r7",
		"0:r1=2":       "0 : r1 = 2",
		"skipif":       "skipif",
		"x\n=":         "x | =",
		"a#b\nc":       "a | c",
		"(a|!b)&c":     "( a | ! b ) & c",
		"r1\t=\tr2^r3": "r1 = r2 ^ r3",
	} {
		l, _, e := lex.Lex(text)
		var got []string
		for i, token := range l {
			if token.Kind == lex.End && i < len(l)-1 {
				token.Text = "|"
			}
			if token.Text != "" {
				got = append(got, token.Text)
			}
		}
		if e != api.OK || strings.Join(got, " ") != want {
			t.Errorf("%q: %q, %d", text, got, e)
		}
	}
}

// P4.1: an end token closes every line that contains another token, and no other line.
func TestLexEnds(t *testing.T) {
	for text, want := range map[string][]int{
		"":                 nil,
		" \t ":             nil,
		"\n\n\n":           nil,
		"# x = 1":          nil,
		"#\n # x\n\t#\n":   nil,
		"x":                {1},
		"x\n":              {1},
		"x \t":             {3},
		"x # y":            {5},
		"x # y\n":          {5},
		"\nx\n\ny\n":       {2, 5},
		"x#\n#\n y #x\nz":  {2, 10, 12},
		"x\n\n\n":          {1},
		"x = 1 & y\n   \n": {9},
	} {
		l, place, e := lex.Lex(text)
		var got []int
		for _, token := range l {
			if token.Kind == lex.End {
				if token.Text != "" {
					t.Errorf("%q: an end token with the text %q", text, token.Text)
				}
				got = append(got, token.At)
			}
		}
		if !slices.Equal(got, want) || place != 0 || e != api.OK {
			t.Errorf("%q: %v, %d, %d", text, got, place, e)
		}
	}
}

// P4.1: numbers are at most 255 and have no leading 0.
func TestLexNumbers(t *testing.T) {
	for n := range 1200 {
		for _, zeros := range []string{"", "0", "00", "000000"} {
			compare(t, "x = "+zeros+strconv.Itoa(n)+"y")
		}
	}
	for _, s := range []string{"1000", "9999", "18446744073709551616", "18446744073709551617", "4294967296", strings.Repeat("0", 5000), strings.Repeat("1", 16384), "0" + strings.Repeat("9", 400)} {
		if l, place, e := lex.Lex(s); l != nil || place != 0 || e != api.ErrNumber {
			t.Errorf("%.20q: %v, %d, %d", s, l, place, e)
		}
	}
}

// P4.1: words have at most 16 bytes, whatever they begin with; comments may be longer.
func TestLexWords(t *testing.T) {
	for _, begun := range []string{"a", "Z", "r", "r1", "test", "x_"} {
		for _, filled := range []string{"a", "Z", "0", "9", "_"} {
			word := begun + strings.Repeat(filled, 16-len(begun))
			l, place, e := lex.Lex(" " + word)
			if want := []lex.Token{{lex.Word, word, 1}, {lex.End, "", 17}}; !slices.Equal(l, want) || place != 0 || e != api.OK {
				t.Error(word, l, place, e)
			}
			if l, place, e := lex.Lex("a = 1\n" + word + filled + " 256"); l != nil || place != 6 || e != api.ErrWord {
				t.Error(word, l, place, e)
			}
		}
	}
	if l, _, e := lex.Lex("x#" + strings.Repeat("y", 10000)); len(l) != 2 || e != api.OK {
		t.Error(l, e)
	}
}

// P4.1: the first invalid token decides, whatever follows it.
func TestLexFirst(t *testing.T) {
	invalid := map[string]api.Errno{"$": api.ErrSign, "_": api.ErrSign, "\r": api.ErrSign, "\xff": api.ErrSign, "\x00": api.ErrSign, ">": api.ErrSign,
		"256": api.ErrNumber, "00": api.ErrNumber, "abcdefghijklmnopq": api.ErrWord}
	for a, e := range invalid {
		for b := range invalid {
			for _, ahead := range []string{"", "x = 1 ", "#" + b + "\n\ny\n"} {
				if l, place, got := lex.Lex(ahead + a + " " + b + "\n" + b); l != nil || place != len(ahead) || got != e {
					t.Errorf("%q, then %q: %v, %d, %d", a, b, l, place, got)
				}
			}
		}
	}
}

// P4.1: a source has at most 2^14 bytes; a longer one is too long whatever is in it.
func TestLexLong(t *testing.T) {
	for _, part := range []string{"x", " ", "\n", "$", "#", "1\n", "= "} {
		full := strings.Repeat(part, 1<<14)[:1<<14]
		compare(t, full)
		for _, more := range []string{full + " ", "$" + full, full + full} {
			if l, place, e := lex.Lex(more); l != nil || place != 0 || e != api.ErrLong {
				t.Errorf("%q: %d tokens, %d, %d", part, len(l), place, e)
			}
		}
	}
	if l, _, e := lex.Lex(strings.Repeat("=\n", 1<<13)); len(l) != 1<<14 || l[1<<14-1] != (lex.Token{Kind: lex.End, At: 1<<14 - 1}) || e != api.OK {
		t.Error(len(l), e)
	}
}

// P4.1: longer sources with all kinds of lines.
func TestLexMixed(t *testing.T) {
	x := mixer(1)
	for n := range 3000 {
		s := x.mixed(n % 60)
		compare(t, s)
		compare(t, s+x.of([]string{"$", "256", "01", "_", "\r"})+x.mixed(n%7))
	}
}

// P4.1: what Lex answered stays as it is, whatever becomes of another answer.
func TestLexMemory(t *testing.T) {
	const text = "x = 1\ny = 2"
	first, _, _ := lex.Lex(text)
	want := slices.Clone(first)
	second, _, _ := lex.Lex(text)
	clear(second[:cap(second)])
	if !slices.Equal(first, want) {
		t.Error(first)
	}
}

// P4.2: Type separates tokens by spaces, but for ends, which are newlines whatever their Text is.
func TestType(t *testing.T) {
	word := func(s string) lex.Token { return lex.Token{Kind: lex.Word, Text: s, At: math.MinInt} }
	end, odd := lex.Token{Kind: lex.End, At: 99}, lex.Token{Kind: lex.End, Text: "odd"}
	for i, c := range []struct {
		l    []lex.Token
		want string
	}{
		{nil, ""},
		{[]lex.Token{}, ""},
		{[]lex.Token{word("a")}, "a"},
		{[]lex.Token{word("a"), word("b")}, "a b"},
		{[]lex.Token{word("a"), word("b"), word("c")}, "a b c"},
		{[]lex.Token{end}, "\n"},
		{[]lex.Token{odd}, "\n"},
		{[]lex.Token{end, odd, end}, "\n\n\n"},
		{[]lex.Token{end, word("a")}, "\na"},
		{[]lex.Token{word("a"), odd}, "a\n"},
		{[]lex.Token{word("a"), end, word("b"), word("c"), odd, end, word("d")}, "a\nb c\n\nd"},
		{[]lex.Token{word("")}, ""},
		{[]lex.Token{word(""), word("")}, " "},
		{[]lex.Token{word("a"), word(""), word("b")}, "a  b"},
		{[]lex.Token{word(""), end, word(""), word("b")}, "\n b"},
		{[]lex.Token{word("a\n"), word(" # b "), word("\xff$")}, "a\n  # b  \xff$"},
		{[]lex.Token{{Kind: 0, Text: "x"}, {Kind: lex.Number, Text: "abc"}, {Kind: lex.Sign, Text: "999"}, {Kind: 5, Text: "y"}, {Kind: 255, Text: "z"}}, "x abc 999 y z"},
		{[]lex.Token{{Kind: 0}, {Kind: 255}, {Kind: 5}}, "  "},
	} {
		given := slices.Clone(c.l)
		if s := lex.Type(c.l...); s != c.want {
			t.Errorf("%d: %q, want %q", i, s, c.want)
		}
		if !slices.Equal(c.l, given) {
			t.Errorf("%d: the tokens changed", i)
		}
	}
	if lex.Type() != "" || lex.Type(word("a"), end) != "a\n" {
		t.Error("tokens that are passed one by one")
	}
}

// P4.2: a register is an r and one digit from 0 to 7, and nothing else.
func TestReg(t *testing.T) {
	for a := range 256 {
		for b := range 256 {
			s := string([]byte{byte(a), byte(b)})
			i := slices.Index([]string{"r0", "r1", "r2", "r3", "r4", "r5", "r6", "r7"}, s)
			if n, is := lex.Reg(s); is != (i >= 0) || int(n) != max(i, 0) {
				t.Errorf("%q: %d, %v", s, n, is)
			}
		}
	}
	for _, s := range []string{"", "r", "1", "r10", "r01", "r00", "r1 ", " r1", "rr1", "r1x", "r1\x00", "r7r7", "r٣"} {
		if n, is := lex.Reg(s); n != 0 || is {
			t.Errorf("%q: %d, %v", s, n, is)
		}
	}
}

// P4.2: a valid number is at most 255 and has no leading 0.
func TestNum(t *testing.T) {
	valid := map[string]uint8{}
	for n := range 256 {
		valid[strconv.Itoa(n)] = uint8(n)
	}
	texts([]string{"0", "1", "2", "3", "4", "5", "6", "7", "8", "9", "-", "+", " ", "_", "x", "/", ":", "\n"}, 4, func(s string) {
		want, ok := valid[s]
		if n, is := lex.Num(s); n != want || is != ok {
			t.Fatalf("%q: %d, %v", s, n, is)
		}
	})
	for _, s := range []string{"0x1", "1e1", "1.0", "00000", "00001", "65536", "18446744073709551616", "18446744073709551621", "²", "٣", strings.Repeat("0", 1<<20)} {
		if n, is := lex.Num(s); n != 0 || is {
			t.Errorf("%.20q: %d, %v", s, n, is)
		}
	}
}

// P4.2: the keywords are kept, and no other words.
func TestKept(t *testing.T) {
	l := strings.Fields(keywords)
	if len(l) != 17 {
		t.Error(len(l))
	}
	for _, s := range l {
		if !lex.Kept(s) || lex.Name(s) {
			t.Error(s)
		}
		for _, near := range []string{s + "s", "x" + s, s[1:], s[:len(s)-1], strings.ToUpper(s), s + " ", " " + s, s + "\n", strings.ToUpper(s[:1]) + s[1:]} {
			if slices.Contains(l, near) {
				continue
			}
			if lex.Kept(near) {
				t.Errorf("%q", near)
			}
		}
	}
	for _, s := range []string{"", "x", "r1", "rel acq", "store", "load", "false", "and", "=", "0"} {
		if lex.Kept(s) {
			t.Errorf("%q", s)
		}
	}
}

// P4.2: a name is a word of at most 16 bytes that is neither a keyword nor an r and digits.
func TestName(t *testing.T) {
	word, number := regexp.MustCompile(`^[a-zA-Z][a-zA-Z0-9_]{0,15}$`), regexp.MustCompile(`^r[0-9]+$`)
	check := func(s string) {
		t.Helper()
		want := word.MatchString(s) && !strings.HasSuffix(s, "\n") && !number.MatchString(s) && !slices.Contains(strings.Fields(keywords), s)
		if lex.Name(s) != want {
			t.Fatalf("%q: %v", s, !want)
		}
	}
	texts([]string{"r", "R", "a", "Z", "0", "9", "_", "-", " ", "\n", "#", "=", "é"}, 4, check)
	for a := range 256 {
		s := string([]byte{byte(a)})
		for _, c := range []string{s, "x" + s, s + "x", "r" + s, "r1" + s, "x" + s + "y"} {
			check(c)
		}
	}
	for _, begun := range []string{"a", "R", "r", "r1", "r_", "_", "1"} {
		for _, filled := range []string{"a", "1", "_"} {
			for n := range 20 {
				check(begun + strings.Repeat(filled, n))
			}
		}
	}
	for _, s := range strings.Fields(keywords) {
		check(s)
		check(s + "1")
		check(strings.ToUpper(s))
	}
	check(strings.Repeat("x", 1<<20))
}

// unplaced is l without the offsets.
func unplaced(l []lex.Token) []lex.Token {
	l = slices.Clone(l)
	for i := range l {
		l[i].At = 0
	}
	return l
}

// P4.3: lexing what Type wrote gives the same tokens, and typing these the same text.
func TestRound(t *testing.T) {
	round := func(s string) {
		t.Helper()
		l, _, e := lex.Lex(s)
		if e != api.OK {
			return
		}
		typed := lex.Type(l...)
		again, place, e := lex.Lex(typed)
		if !slices.Equal(unplaced(again), unplaced(l)) || place != 0 || e != api.OK {
			t.Fatalf("%q, typed as %q: %v, want %v", s, typed, again, l)
		}
		if second := lex.Type(again...); second != typed {
			t.Fatalf("%q: typed as %q, then as %q", s, typed, second)
		}
	}
	texts([]string{"a", "r1", "0", "25", "=", "!", "<", " ", "\n", "#"}, 5, round)
	x := mixer(2)
	for n := range 3000 {
		round(x.mixed(n % 80))
	}
	round(strings.Repeat("x\n", 1<<13))
	round(strings.Repeat("1 ", 1<<13))
	l, _, _ := lex.Lex(strings.Repeat("<", 1<<14))
	if _, _, e := lex.Lex(lex.Type(l...)); len(l) != 1<<14+1 || e != api.ErrLong {
		t.Error(len(l), e)
	}
}

// P4.3: blanks between tokens, comments, and lines without tokens change no token.
func TestGaps(t *testing.T) {
	x := mixer(3)
	gaps := []string{" ", "\t", "  ", "\t \t"}
	ends := []string{"\n", " \n", "# y = 2\n", "\t#$256\n\n", "\n#\n  \n", "##\n"}
	for n := range 1000 {
		l, _, e := lex.Lex(x.mixed(n % 50))
		if e != api.OK {
			continue
		}
		var b strings.Builder
		b.WriteString(x.of([]string{"", " ", "\n\n", "# z\n"}))
		for _, token := range l {
			b.WriteString(token.Text)
			if token.Kind == lex.End {
				b.WriteString(x.of(ends))
			} else {
				b.WriteString(x.of(gaps))
			}
		}
		if again, place, e := lex.Lex(b.String()); !slices.Equal(unplaced(again), unplaced(l)) || place != 0 || e != api.OK {
			t.Fatalf("%q: %v, want %v", b.String(), again, l)
		}
	}
}

// FuzzLex holds Lex against the definition, and what Type makes of its tokens against them.
func FuzzLex(f *testing.F) {
	f.Add("test SB\nthread\nx = 1 rel # y\nsome 0:r1 = 0 & ! x = 1 | true")
	f.Add("x = 256 $")
	f.Fuzz(func(t *testing.T, s string) {
		if len(s) > api.MaxText {
			return
		}
		compare(t, s)
		if l, _, e := lex.Lex(s); e == api.OK {
			if again, _, e := lex.Lex(lex.Type(l...)); e == api.OK && !slices.Equal(unplaced(again), unplaced(l)) {
				t.Errorf("%q: %v, want %v", s, again, l)
			}
		}
	})
}
