package parse

import (
	"slices"

	"seisin/api"
)

// loc reads the name of a location.
func (p *parser) loc() uint8 {
	t := p.take(name)
	i := slices.Index(p.locs, t.Text)
	if i < 0 {
		i = len(p.locs)
		p.addLoc(t.Text, t.At)
	}
	return uint8(i)
}

// addLoc makes the name at the offset at a location, if it may become one.
func (p *parser) addLoc(s string, at int) {
	if !p.open {
		fail(at, api.ErrNone)
	}
	if len(p.locs) == api.MaxLocs {
		fail(at, api.ErrMany)
	}
	p.locs = append(p.locs, s)
	p.prog.Init = append(p.prog.Init, 0)
}

// instructions returns what reads an instruction, by the symbol that it begins with.
func instructions() map[string]func(*parser) api.Ins {
	return map[string]func(*parser) api.Ins{
		name:     (*parser).store,
		register: (*parser).assignment,
		"fence":  (*parser).fence,
		"skip":   (*parser).skip,
	}
}

// ins reads an instruction.
func (p *parser) ins() api.Ins {
	return choose(p, instructions())(p)
}

func (p *parser) store() api.Ins {
	x := api.Ins{Op: api.OpStore, Loc: p.loc()}
	p.take("=")
	x.A = p.arg()
	if p.takes("rel") {
		x.Mode = api.ModeRelease
	}
	return x
}

func (p *parser) fence() api.Ins {
	p.take("fence")
	switch {
	case p.takes("loads"):
		return api.Ins{Op: api.OpFence, Mode: api.ModeLoads}
	case p.takes("stores"):
		return api.Ins{Op: api.OpFence, Mode: api.ModeStores}
	}
	return api.Ins{Op: api.OpFence, Mode: api.ModeFull}
}

func (p *parser) skip() api.Ins {
	p.take("skip")
	x := api.Ins{Op: api.OpSkip, Skip: p.num()}
	p.take("if")
	p.operation(&x, "==", "!=", "<")
	return x
}

// sources returns what reads the right side of an assignment to a register, by the symbol that it begins with.
func sources() map[string]func(*parser) api.Ins {
	return map[string]func(*parser) api.Ins{
		name:     (*parser).load,
		register: (*parser).move,
		number:   (*parser).move,
		"swap":   (*parser).swap,
		"fetch":  (*parser).fetch,
		"cas":    (*parser).cas,
	}
}

// assignment reads an instruction that begins with a register.
func (p *parser) assignment() api.Ins {
	dst := p.reg()
	p.take("=")
	x := choose(p, sources())(p)
	x.Dst = dst
	return x
}

func (p *parser) load() api.Ins {
	x := api.Ins{Op: api.OpLoad, Loc: p.loc()}
	if p.takes("acq") {
		x.Mode = api.ModeAcquire
	}
	return x
}

func (p *parser) move() api.Ins {
	x := api.Ins{Op: api.OpMove}
	p.operation(&x, "+", "-", "^")
	return x
}

func (p *parser) swap() api.Ins {
	p.take("swap")
	return api.Ins{Op: api.OpSwap, Loc: p.loc(), A: p.arg()}
}

func (p *parser) fetch() api.Ins {
	p.take("fetch")
	return api.Ins{Op: api.OpFetch, Loc: p.loc(), A: p.arg()}
}

func (p *parser) cas() api.Ins {
	p.take("cas")
	return api.Ins{Op: api.OpCas, Loc: p.loc(), A: p.arg(), B: p.arg()}
}

// operation reads two arguments of x with one of the signs between them.
func (p *parser) operation(x *api.Ins, signs ...string) {
	x.A = p.arg()
	x.Fn = fnOf(p.take(signs...).Text)
	x.B = p.arg()
}

// fnOf returns what a sign does with two arguments.
func fnOf(sign string) uint8 {
	switch sign {
	case "+":
		return api.FnAdd
	case "-":
		return api.FnSub
	case "^":
		return api.FnXor
	case "==":
		return api.FnEq
	case "!=":
		return api.FnNe
	}
	return api.FnLt
}
