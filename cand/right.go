package cand

import (
	"seisin/api"
	"seisin/marks"
	"seisin/rel"
)

// Right reports whether x is well-formed.
func Right(x api.Exec) bool {
	return areEvents(x.Events) && areRelations(x) &&
		x.Po == programOrder(x.Events) && isReadsFrom(x) && isCoherence(x) && areDependencies(x)
}

// areEvents reports whether a list of events is well-formed.
func areEvents(events []api.Event) bool {
	locs := locations(events)
	if len(events) > api.MaxItems || locs < 1 || locs > api.MaxLocs {
		return false
	}
	for loc, e := range events[:locs] {
		if e != initial(loc, e.Val) {
			return false
		}
	}
	before := events[locs-1]
	for _, e := range events[locs:] {
		if !isNext(before, e) || !isEvent(e, locs) {
			return false
		}
		before = e
	}
	return true
}

// isNext reports whether the thread and the position of e are those of an event right behind another one.
func isNext(before, e api.Event) bool {
	if e.Thread == before.Thread {
		return e.Pos == before.Pos+1
	}
	return e.Thread > before.Thread && e.Thread < api.MaxThreads && e.Pos == 0
}

// isEvent reports whether e accesses one of so many locations as its kind does.
func isEvent(e api.Event, locs int) bool {
	switch e.Kind {
	case api.EvRead, api.EvWrite:
		return int(e.Loc) < locs
	case api.EvFence:
		return e.Loc == 0 && e.Val == 0
	}
	return false
}

// areRelations reports whether all relations of x are valid relations on its events.
func areRelations(x api.Exec) bool {
	for _, r := range [...]*api.Rel{&x.Po, &x.Rf, &x.Co, &x.Data, &x.Ctrl, &x.Rmw} {
		if r.N != len(x.Events) || !rel.Right(*r) {
			return false
		}
	}
	return true
}

// isReadsFrom reports whether Rf relates one source to each read, and nothing else.
func isReadsFrom(x api.Exec) bool {
	back := rel.Back(x.Rf)
	for i, e := range x.Events {
		sources := marks.List(back.To[i])
		if e.Kind != api.EvRead {
			if len(sources) > 0 {
				return false
			}
		} else if len(sources) != 1 || !isSource(x.Events[sources[0]], e) {
			return false
		}
	}
	return true
}

// isCoherence reports whether Co orders the writes of each location behind its initial one, and Final.Mem is what they leave. If Co does, the writes stand in its topological order as in theirs, so that they give Co again.
func isCoherence(x api.Exec) bool {
	l, ok := rel.Top(x.Co)
	if !ok {
		return false
	}
	writes := writesOf(x.Events, l)
	for loc, w := range writes {
		if w[0] != loc {
			return false
		}
	}
	co, mem := coherence(x.Events, writes)
	return co == x.Co && mem == x.Final.Mem
}

// areDependencies reports whether Data, Ctrl and Rmw are well-formed.
func areDependencies(x api.Exec) bool {
	var reads, writes api.Set
	for i, e := range x.Events {
		switch e.Kind {
		case api.EvRead:
			reads |= 1 << i
		case api.EvWrite:
			writes |= 1 << i
		}
	}
	return leads(x.Data, x.Po, reads, writes) && leads(x.Ctrl, x.Po, reads, marks.All(len(x.Events))) &&
		leads(x.Rmw, x.Po, reads, writes) && arePairs(x)
}

// leads reports whether all pairs of r are pairs of po from an element of from to one of into.
func leads(r, po api.Rel, from, into api.Set) bool {
	for a := range r.N {
		to := po.To[a] & into
		if from>>a&1 == 0 {
			to = 0
		}
		if r.To[a]&^to != 0 {
			return false
		}
	}
	return true
}

// arePairs reports whether the events of each pair of Rmw have the same location and occur in no other pair.
func arePairs(x api.Exec) bool {
	var met api.Set
	for _, p := range rel.Pairs(x.Rmw) {
		both := api.Set(1)<<p[0] | api.Set(1)<<p[1]
		if met&both != 0 || x.Events[p[0]].Loc != x.Events[p[1]].Loc {
			return false
		}
		met |= both
	}
	return true
}
