package parse

import (
	"seisin/api"
)

// disjunction reads one or more conjunctions separated by |.
func (p *parser) disjunction() api.Cond {
	return p.series("|", api.CondOr, (*parser).conjunction)
}

// conjunction reads one or more factors separated by &.
func (p *parser) conjunction() api.Cond {
	return p.series("&", api.CondAnd, (*parser).factor)
}

// series reads one or more conditions by kid, separated by the sign. Two or more make a condition of the kind.
func (p *parser) series(sign string, kind uint8, kid func(*parser) api.Cond) api.Cond {
	kids := []api.Cond{kid(p)}
	for p.takes(sign) {
		kids = append(kids, kid(p))
	}
	if len(kids) == 1 {
		return kids[0]
	}
	return api.Cond{Kind: kind, Kids: kids}
}

// factors returns what reads a factor, by the symbol that it begins with.
func factors() map[string]func(*parser) api.Cond {
	return map[string]func(*parser) api.Cond{
		"!":    (*parser).negation,
		"(":    (*parser).group,
		number: (*parser).regCond,
		name:   (*parser).locCond,
		"true": (*parser).truth,
	}
}

func (p *parser) factor() api.Cond {
	return choose(p, factors())(p)
}

func (p *parser) negation() api.Cond {
	p.take("!")
	return api.Cond{Kind: api.CondNot, Kids: []api.Cond{p.factor()}}
}

// group reads a condition in parentheses.
func (p *parser) group() api.Cond {
	p.take("(")
	c := p.disjunction()
	p.take(")")
	return c
}

func (p *parser) regCond() api.Cond {
	c := api.Cond{Kind: api.CondReg, Thread: p.num()}
	p.take(":")
	c.N = p.reg()
	p.take("=")
	c.Val = p.num()
	return c
}

func (p *parser) locCond() api.Cond {
	c := api.Cond{Kind: api.CondLoc, N: p.loc()}
	p.take("=")
	c.Val = p.num()
	return c
}

func (p *parser) truth() api.Cond {
	p.take("true")
	return api.Cond{Kind: api.CondTrue}
}
