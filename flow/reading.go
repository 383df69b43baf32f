package flow

import (
	"partywall/api"
	"partywall/label"
)

// join is the join of labels.
type join struct{ label uint64 }

// joinOf returns the join of these labels: {} for none.
func joinOf(labels ...uint64) join { return join{label.Join(labels...)} }

// isAtMost says whether all that was joined is at most this label.
func (j join) isAtMost(top uint64) bool { return label.Below(j.label, top) }

// reading is what a query reads at a clearance.
type reading struct {
	join
	clearance uint64
}

// readingOf returns what a query reads at a clearance, or the error of wellformed.Check.
func readingOf(q api.Query, clearance uint64) (reading, api.Errno) {
	atoms, err := atomsOf(q)
	if err != api.OK {
		return reading{}, err
	}
	var labels []uint64
	for _, a := range atoms {
		labels = append(labels, Atom(a, clearance))
	}
	return reading{joinOf(labels...), clearance}, api.OK
}

// isAllowed says whether nothing is read that the clearance does not cover.
func (r reading) isAllowed() bool { return r.isAtMost(r.clearance) }
