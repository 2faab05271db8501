package model

import "seisin/api"

// rule is what the axiom AxOrder of a model orders, beside Co and Fr.
type rule struct {
	kept  func(x api.Exec) api.Rel // Kept; its pairs with fences don't count
	reads func(x api.Exec) api.Rel // the part of Rf
}

// rules returns the rules by the models' numbers. ModelCoh orders nothing more, so that its axiom always holds: nothing leads to a read then, and Co alone is acyclic.
func rules() [api.ModelWeak + 1]rule {
	return [...]rule{
		api.ModelCoh:  {kept: noPairs, reads: noPairs},
		api.ModelSC:   {kept: keptSC, reads: func(x api.Exec) api.Rel { return x.Rf }},
		api.ModelTSO:  {kept: keptTSO, reads: readsOfOthers},
		api.ModelPSO:  {kept: keptPSO, reads: readsOfOthers},
		api.ModelRA:   {kept: keptRA, reads: readsOfOthers},
		api.ModelWeak: {kept: keptWeak, reads: readsOfOthers},
	}
}

// readsOfOthers returns the pairs of Rf whose write isn't of the reader's own thread.
func readsOfOthers(x api.Exec) api.Rel {
	return external(x, x.Rf)
}

// kept returns Kept of a model.
func kept(r rule, x api.Exec) api.Rel {
	return where(x, r.kept(x), areAccesses)
}

func keptSC(x api.Exec) api.Rel {
	return x.Po
}

func keptTSO(x api.Exec) api.Rel {
	most := where(x, x.Po, func(a, b api.Event) bool {
		return !isWrite(a) || !isRead(b) || oneIsFull(a, b)
	})
	return union(most, fenced(x, api.ModeFull))
}

func keptPSO(x api.Exec) api.Rel {
	most := where(x, keptTSO(x), func(a, b api.Event) bool {
		return !areWrites(a, b) || a.Loc == b.Loc || oneIsFull(a, b)
	})
	stores := where(x, fenced(x, api.ModeStores), areWrites)
	return union(most, stores, fenced(x, api.ModeFull))
}

func keptRA(x api.Exec) api.Rel {
	most := where(x, x.Po, func(a, b api.Event) bool { return acquires(a) || releases(b) })
	loads := where(x, fenced(x, api.ModeLoads), func(a, _ api.Event) bool { return isRead(a) })
	stores := where(x, fenced(x, api.ModeStores), func(_, b api.Event) bool { return isWrite(b) })
	return union(most, loads, stores, fenced(x, api.ModeFull))
}

func keptWeak(x api.Exec) api.Rel {
	ctrl := where(x, x.Ctrl, func(_, b api.Event) bool { return isWrite(b) })
	loads := where(x, fenced(x, api.ModeLoads), areReads)
	stores := where(x, fenced(x, api.ModeStores), areWrites)
	return union(x.Data, x.Rmw, ctrl, loads, stores, fenced(x, api.ModeFull))
}
