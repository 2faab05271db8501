package check

import (
	"seisin/api"
)

// Cond reports whether a condition is valid.
func Cond(c api.Cond, threads, locs int) bool {
	return scope{threads, locs}.fits(c, api.MaxDeep)
}

// scope is how many threads and locations a condition may speak of.
type scope struct {
	threads, locs int
}

// fits reports whether a condition is valid and has at most the given depth. It does not look deeper, for what lies there may be without measure if Kids are shared.
func (s scope) fits(c api.Cond, deep int) bool {
	return deep > 0 && s.fitsAlone(c) &&
		all(c.Kids, func(kid api.Cond) bool { return s.fits(kid, deep-1) })
}

// fitsAlone reports whether a condition is valid if its Kids are.
func (s scope) fitsAlone(c api.Cond) bool {
	kids := len(c.Kids)
	bare := c.Thread == 0 && c.N == 0 && c.Val == 0
	switch c.Kind {
	case api.CondTrue:
		return bare && kids == 0
	case api.CondReg:
		return int(c.Thread) < s.threads && c.N < api.MaxRegs && kids == 0
	case api.CondLoc:
		return c.Thread == 0 && int(c.N) < s.locs && kids == 0
	case api.CondAnd, api.CondOr:
		return bare && kids >= 2
	case api.CondNot:
		return bare && kids == 1
	}
	return false
}

// rebuilt returns a condition of which every part is changed. It shares no memory with c.
func rebuilt(c api.Cond, change func(api.Cond) api.Cond) api.Cond {
	var kids []api.Cond
	for _, kid := range c.Kids {
		kids = append(kids, rebuilt(kid, change))
	}
	c.Kids = kids
	return change(c)
}
