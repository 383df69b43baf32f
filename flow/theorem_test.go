package flow_test

import (
	"reflect"
	"slices"
	"testing"

	"partywall/api"
	"partywall/flow"
	"partywall/wellformed"
)

// TestP11_4Allowed: a query is allowed exactly at the clearances that Least is at most, Least itself among them, and stays so at greater ones.
func TestP11_4Allowed(t *testing.T) {
	allowed := 0
	many(t, 114, func(r random, q api.Query) {
		least, e := flow.Least(q)
		if own := flow.Check(q, least); own != api.OK || e != api.OK {
			t.Fatalf("Check(%+v, %d) = %v, Least %v", q, least, own, e)
		}
		for _, clearance := range append(labels(), least, least|4, least&^1, least&^high) {
			is := flow.Check(q, clearance) == api.OK
			if is != within(least, clearance) {
				t.Fatalf("Check(%+v, %d) is OK: %v, Least %d", q, clearance, is, least)
			}
			if !is {
				continue
			}
			allowed++
			for _, greater := range []uint64{clearance | one(r, labels()), clearance | r.Uint64(), all} {
				if e := flow.Check(q, greater); e != api.OK {
					t.Fatalf("Check(%+v, %d) = %v, but OK at %d", q, greater, e, clearance)
				}
			}
		}
	})
	if allowed < 10000 {
		t.Errorf("only %d times allowed", allowed)
	}
}

// TestP11_5Read: what an allowed query reads is the clearance if it is Open, otherwise Least.
func TestP11_5Read(t *testing.T) {
	opens, others := 0, 0
	many(t, 115, func(_ random, q api.Query) {
		want, _ := flow.Least(q)
		least := want
		open, _ := flow.Open(q)
		for _, clearance := range append(labels(), least, least|4) {
			if flow.Check(q, clearance) != api.OK {
				continue
			}
			if open {
				want = clearance
				opens++
			} else {
				others++
			}
			if got, e := flow.Read(q, clearance); got != want || e != api.OK {
				t.Fatalf("Read(%+v, %d) = %d, %v, Open %v, Least %d", q, clearance, got, e, open, least)
			}
		}
	})
	if opens < 5000 || others < 1000 {
		t.Errorf("only %d times Open, %d times not", opens, others)
	}
}

// TestP11_6Restricted: a restricted query is well-formed and not Open, reads at each clearance what the query reads at the one to which it was restricted, and stays the same if it is restricted again.
func TestP11_6Restricted(t *testing.T) {
	many(t, 116, func(r random, q api.Query) {
		for range 4 {
			clearance := one(r, labels())
			restricted, e := flow.Restrict(q, clearance)
			if other := wellformed.Check(restricted); e != api.OK || other != api.OK {
				t.Fatalf("Restrict(%+v, %d): %v, %v", q, clearance, e, other)
			}
			if open, e := flow.Open(restricted); open || e != api.OK {
				t.Fatalf("Restrict(%+v, %d) is Open: %v, %v", q, clearance, open, e)
			}
			want, _ := flow.Read(q, clearance)
			if least, e := flow.Least(restricted); least != want || e != api.OK {
				t.Fatalf("Least(%+v) = %d, %v, not %d", restricted, least, e, want)
			}
			for _, other := range []uint64{none, all, clearance, one(r, labels()), r.Uint64()} {
				if got, e := flow.Read(restricted, other); got != want || e != api.OK {
					t.Fatalf("Read(%+v, %d) = %d, %v, not %d", restricted, other, got, e, want)
				}
				if again, e := flow.Restrict(restricted, other); !reflect.DeepEqual(again, restricted) || e != api.OK {
					t.Fatalf("Restrict(%+v, %d) = %+v, %v", restricted, other, again, e)
				}
			}
		}
	})
}

// TestP11_7Seen: at a greater clearance all classes are seen that were seen before; at the join of all labels all are, and without a category of it not all.
func TestP11_7Seen(t *testing.T) {
	many(t, 117, func(r random, _ api.Query) {
		var list []uint64
		for range r.Intn(9) {
			list = append(list, one(r, labels()))
		}
		clearance := one(r, labels())
		seen, e := flow.Sees(classes(list...), clearance)
		more, err := flow.Sees(classes(list...), clearance|one(r, labels()))
		if e != api.OK || err != api.OK {
			t.Fatalf("%d classes: %v, %v", len(list), e, err)
		}
		for _, i := range seen {
			if !slices.Contains(more, i) {
				t.Fatalf("classes %v of %v are seen at %d, but %v at a greater clearance", seen, list, clearance, more)
			}
		}
		join := joined(list)
		if whole, e := flow.Sees(classes(list...), join); len(whole) != len(list) || e != api.OK {
			t.Fatalf("Sees(%v, %d) = %v, %v", list, join, whole, e)
		}
		if less, e := flow.Sees(classes(list...), join&(join-1)); join != 0 && len(less) == len(list) || e != api.OK {
			t.Fatalf("Sees(%v, %d) = %v, %v", list, join&(join-1), less, e)
		}
	})
}

// TestP11_8Lower: a query that reads a label reads all labels that are at most this, {} always; what an allowed query reads is at most the clearance.
func TestP11_8Lower(t *testing.T) {
	lower := 0
	many(t, 118, func(r random, q api.Query) {
		for range 2 {
			clearance := one(r, labels())
			if is, e := flow.Reads(q, none, clearance); !is || e != api.OK {
				t.Fatalf("Reads(%+v, {}, %d) = %v, %v", q, clearance, is, e)
			}
			allowed := flow.Check(q, clearance) == api.OK
			for _, label := range labels() {
				if is, _ := flow.Reads(q, label, clearance); !is {
					continue
				}
				if allowed && !within(label, clearance) {
					t.Fatalf("%+v is allowed at %d and reads %d", q, clearance, label)
				}
				for _, less := range []uint64{label & one(r, labels()), label & r.Uint64(), label & (label - 1)} {
					lower++
					if is, e := flow.Reads(q, less, clearance); !is || e != api.OK {
						t.Fatalf("Reads(%+v, %d, %d) = %v, %v, but it reads %d", q, less, clearance, is, e, label)
					}
				}
			}
		}
	})
	if lower < 10000 {
		t.Errorf("only %d labels that are at most another one", lower)
	}
}
