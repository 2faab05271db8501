package model

import (
	"seisin/api"
	"seisin/rel"
)

// broken returns the number of the first axiom that does not hold under a model's rule, or 0 if all do.
func broken(r rule, x api.Exec) uint8 {
	fr := fromReads(x)
	switch {
	case !isCoherent(x, fr):
		return api.AxCoherent
	case !isAtomic(x, fr):
		return api.AxAtomic
	case !isOrdered(r, x, fr):
		return api.AxOrder
	}
	return 0
}

// isCoherent reports whether AxCoherent holds.
func isCoherent(x api.Exec, fr api.Rel) bool {
	return rel.Acyclic(union(where(x, x.Po, haveOneLocation), x.Rf, x.Co, fr))
}

// isAtomic reports whether AxAtomic holds.
func isAtomic(x api.Exec, fr api.Rel) bool {
	around, _ := rel.Then(fr, x.Co)
	split, _ := rel.Both(x.Rmw, around)
	return rel.Empty(split)
}

// isOrdered reports whether AxOrder holds.
func isOrdered(r rule, x api.Exec, fr api.Rel) bool {
	return rel.Acyclic(union(kept(r, x), r.reads(x), x.Co, fr))
}
