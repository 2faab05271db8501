package model

import (
	"seisin/api"
	"seisin/marks"
	"seisin/rel"
)

// where returns the pairs of r whose two events fit.
func where(x api.Exec, r api.Rel, fit func(a, b api.Event) bool) api.Rel {
	fits := api.Rel{N: r.N}
	for a, first := range x.Events {
		for b, second := range x.Events {
			if r.To[a]>>b&1 == 1 && fit(first, second) {
				fits.To[a] |= 1 << b
			}
		}
	}
	return fits
}

// union returns the pairs of all the relations. They are relations on the events of one execution, so that there is no error.
func union(all api.Rel, more ...api.Rel) api.Rel {
	for _, r := range more {
		all, _ = rel.Union(all, r)
	}
	return all
}

// allPairs returns all pairs of events.
func allPairs(x api.Exec) api.Rel {
	n := len(x.Events)
	return rel.Cross(n, marks.All(n), marks.All(n))
}

// noPairs returns the relation on the events that contains no pairs.
func noPairs(x api.Exec) api.Rel {
	return api.Rel{N: len(x.Events)}
}

// fromReads returns Fr.
func fromReads(x api.Exec) api.Rel {
	fr, _ := rel.Then(rel.Back(x.Rf), x.Co)
	return fr
}

// external returns Ext of r.
func external(x api.Exec, r api.Rel) api.Rel {
	return where(x, r, func(a, b api.Event) bool { return a.Thread != b.Thread })
}

// fenced returns the pairs of events with a fence of the given mode between them.
func fenced(x api.Exec, mode uint8) api.Rel {
	before := where(x, x.Po, func(_, f api.Event) bool { return f.Kind == api.EvFence && f.Mode == mode })
	r, _ := rel.Then(before, x.Po)
	return r
}

func isRead(e api.Event) bool  { return e.Kind == api.EvRead }
func isWrite(e api.Event) bool { return e.Kind == api.EvWrite }

func areReads(a, b api.Event) bool  { return isRead(a) && isRead(b) }
func areWrites(a, b api.Event) bool { return isWrite(a) && isWrite(b) }

// areAccesses reports whether neither event is a fence.
func areAccesses(a, b api.Event) bool {
	return a.Kind != api.EvFence && b.Kind != api.EvFence
}

// haveOneLocation reports whether two events access the same location.
func haveOneLocation(a, b api.Event) bool {
	return areAccesses(a, b) && a.Loc == b.Loc
}

// oneIsFull reports whether one of two events has ModeFull.
func oneIsFull(a, b api.Event) bool {
	return a.Mode == api.ModeFull || b.Mode == api.ModeFull
}

// acquires reports whether a read holds back what comes behind it.
func acquires(e api.Event) bool {
	return isRead(e) && (e.Mode == api.ModeAcquire || e.Mode == api.ModeFull)
}

// releases reports whether a write waits for what comes before it.
func releases(e api.Event) bool {
	return isWrite(e) && (e.Mode == api.ModeRelease || e.Mode == api.ModeFull)
}
