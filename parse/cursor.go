package parse

import (
	"slices"

	"seisin/api"
	"seisin/lex"
)

// The symbols of the grammar that stand for many tokens. Keywords and signs are symbols themselves; none of them has a capital letter.
const (
	name     = "NAME"
	register = "REG"
	number   = "NUM"
	end      = "END"
)

// symbol returns the symbol of a token, or an empty text if the grammar has none for it.
func symbol(t lex.Token) string {
	switch t.Kind {
	case lex.Word:
		return wordSymbol(t.Text)
	case lex.Number:
		return number
	case lex.Sign:
		return t.Text
	case lex.End:
		return end
	}
	return ""
}

// wordSymbol returns the symbol of a word, or an empty text if it is a word like r8, which is a name for programs only.
func wordSymbol(s string) string {
	if lex.Kept(s) {
		return s
	}
	if lex.Name(s) {
		return name
	}
	if _, ok := lex.Reg(s); ok {
		return register
	}
	return ""
}

// fault is what a panic hands on: the offset of a token and its error.
type fault struct {
	place int
	e     api.Errno
}

// fail ends the parsing.
func fail(place int, e api.Errno) {
	panic(fault{place, e})
}

// cursor holds the tokens of a source that are still to be read, and its length.
type cursor struct {
	rest []lex.Token
	size int
}

// next returns the next token. After the last one that is a token of no kind at the end of the source, which has no symbol.
func (c *cursor) next() lex.Token {
	if len(c.rest) == 0 {
		return lex.Token{At: c.size}
	}
	return c.rest[0]
}

// is reports whether the next token has one of the symbols.
func (c *cursor) is(symbols ...string) bool {
	return slices.Contains(symbols, symbol(c.next()))
}

// takeIf reads the next token, which the grammar allows only if fits holds.
func (c *cursor) takeIf(fits bool) lex.Token {
	t := c.next()
	if !fits {
		fail(t.At, api.ErrSyntax)
	}
	c.rest = c.rest[1:]
	return t
}

// take reads the next token, which must have one of the symbols.
func (c *cursor) take(symbols ...string) lex.Token {
	return c.takeIf(c.is(symbols...))
}

// takes reads the next token if it has the symbol, and reports whether it has.
func (c *cursor) takes(symbol string) bool {
	if !c.is(symbol) {
		return false
	}
	c.take(symbol)
	return true
}

// takeWord reads a word, whatever its symbol.
func (c *cursor) takeWord() lex.Token {
	return c.takeIf(c.next().Kind == lex.Word)
}

// takeLast reads the end of the last line.
func (c *cursor) takeLast() {
	c.take(end)
	if len(c.rest) > 0 {
		fail(c.next().At, api.ErrSyntax)
	}
}

// num reads a number.
func (c *cursor) num() uint8 {
	n, _ := lex.Num(c.take(number).Text)
	return n
}

// reg reads a register.
func (c *cursor) reg() uint8 {
	n, _ := lex.Reg(c.take(register).Text)
	return n
}

// arg reads a register or a number.
func (c *cursor) arg() api.Arg {
	if c.is(register) {
		return api.Arg{Reg: true, N: c.reg()}
	}
	return api.Arg{N: c.num()}
}
