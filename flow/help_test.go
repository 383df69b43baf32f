package flow_test

import (
	"math/rand"
	"reflect"
	"slices"
	"strings"
	"testing"

	"partywall/api"
	"partywall/flow"
	"partywall/parse"
	"partywall/wellformed"
)

const (
	none = uint64(0)
	all  = ^uint64(0)
	high = uint64(1) << 63
)

// labels are all labels with some categories, those at the ends of words among them, and a few with many.
func labels() []uint64 {
	l := []uint64{all, all - 1, all >> 1, 0x5555555555555555, 0xaaaaaaaaaaaaaaaa}
	for i := range uint64(32) {
		l = append(l, i&1|i>>1&1<<1|i>>2&1<<31|i>>3&1<<32|i>>4&1<<63)
	}
	return l
}

// within says whether all categories of a are in b, one by one.
func within(a, b uint64) bool {
	for i := range 64 {
		if a>>i&1 == 1 && b>>i&1 == 0 {
			return false
		}
	}
	return true
}

// read returns the query of a text, newly made; a pattern alone is meant within 5.
func read(t *testing.T, text string) api.Query {
	t.Helper()
	if !strings.Contains(text, " within ") {
		text += " within 5"
	}
	q, f := parse.Parse(text)
	if f != (api.Fault{}) {
		t.Fatalf("%q is no query: %v at %d", text, f.Err, f.At)
	}
	return q
}

// full is a query that has everything: it reads {1,2}, {3}, {} and, with two atoms, the clearance.
const full = "A@{1,2}[>3,!=-1]:x{1,3} ; not C@{3}[=0] ; not B ; (D@{}{2,2} | E[<9]:y) within 10 having sum(y) >=10 and min(x) <5 emit count(x), max(y)"

// leaves returns the nodes of a pattern that have atoms, in order.
func leaves(n *api.Node) []*api.Node {
	if len(n.Kids) == 0 {
		return []*api.Node{n}
	}
	var l []*api.Node
	for i := range n.Kids {
		l = append(l, leaves(&n.Kids[i])...)
	}
	return l
}

// readBy returns the labels that the atoms of a query read, by the definition.
func readBy(q api.Query, clearance uint64) []uint64 {
	var l []uint64
	for _, n := range leaves(&q.Pattern) {
		if n.Atom.Bounded {
			l = append(l, n.Atom.Bound)
		} else {
			l = append(l, clearance)
		}
	}
	return l
}

// joined returns the join of labels, category by category.
func joined(l []uint64) uint64 {
	var join uint64
	for i := range 64 {
		if slices.ContainsFunc(l, func(x uint64) bool { return x>>i&1 == 1 }) {
			join |= 1 << i
		}
	}
	return join
}

// outcome is all that is told of a query at a clearance.
type outcome struct {
	read    uint64
	least   uint64
	open    bool
	reads   bool
	query   api.Query
	ofCheck api.Errno
	errors  [5]api.Errno
}

// outcomeOf asks all functions with a query.
func outcomeOf(q api.Query, label, clearance uint64) outcome {
	var o outcome
	o.read, o.errors[0] = flow.Read(q, clearance)
	o.least, o.errors[1] = flow.Least(q)
	o.open, o.errors[2] = flow.Open(q)
	o.reads, o.errors[3] = flow.Reads(q, label, clearance)
	o.query, o.errors[4] = flow.Restrict(q, clearance)
	o.ofCheck = flow.Check(q, clearance)
	return o
}

// copyNode returns the same node, newly made.
func copyNode(n api.Node) api.Node {
	n.Atom.Conds, n.Kids = slices.Clone(n.Atom.Conds), slices.Clone(n.Kids)
	for i, k := range n.Kids {
		n.Kids[i] = copyNode(k)
	}
	return n
}

// copyQuery returns the same query, newly made.
func copyQuery(q api.Query) api.Query {
	q.Pattern, q.Having, q.Emit = copyNode(q.Pattern), slices.Clone(q.Having), slices.Clone(q.Emit)
	return q
}

// spoil changes whatever a query has in lists.
func spoil(q api.Query) {
	spoilNode(q.Pattern)
	for i := range q.Having {
		q.Having[i].Agg.Name = "spoilt"
	}
	for i := range q.Emit {
		q.Emit[i].Name = "spoilt"
	}
}

// spoilNode changes whatever a node has in lists.
func spoilNode(n api.Node) {
	for i := range n.Atom.Conds {
		n.Atom.Conds[i].Value += 7
	}
	for i := range n.Kids {
		spoilNode(n.Kids[i])
		n.Kids[i] = api.Node{}
	}
}

// checkKept fails if a query is not what it was.
func checkKept(t *testing.T, q, kept api.Query) {
	t.Helper()
	if !reflect.DeepEqual(q, kept) {
		t.Fatalf("%+v is %+v now", kept, q)
	}
}

// random makes well-formed queries, always the same ones.
type random struct{ *rand.Rand }

// one returns one of some values.
func one[X any](r random, l []X) X { return l[r.Intn(len(l))] }

// atom returns an atom; of bounded in four choices it is Bounded.
func (r random) atom(bounded int) api.Atom {
	a := api.Atom{Kind: r.Intn(26)}
	for range max(0, r.Intn(8)-4) {
		a.Conds = append(a.Conds, api.Cond{Op: 1 + r.Intn(6), Value: int64(r.Uint64())})
	}
	if r.Intn(4) < bounded {
		a.Bounded, a.Bound = true, one(r, labels())
	}
	return a
}

// node returns a node of at most so many levels with at most so many atoms; what stands between two Kids of a Seq may be negated.
func (r random) node(levels, atoms, bounded int) api.Node {
	if levels == 1 || atoms == 1 {
		least := 1 + r.Intn(6)
		return api.Node{Kind: api.Single, Min: least, Max: least + r.Intn(7-least), Atom: r.atom(bounded)}
	}
	n := api.Node{Kind: one(r, []int{api.Seq, api.Seq, api.Alt})}
	for kids := 1 + r.Intn(min(atoms, api.MaxKids)-1); kids >= 0; kids-- {
		share := 1 + r.Intn(atoms-kids)
		atoms -= share
		if n.Kind == api.Seq && len(n.Kids) > 0 && kids > 0 && r.Intn(2) == 0 {
			n.Kids = append(n.Kids, api.Node{Kind: api.Not, Atom: r.atom(bounded)})
		} else {
			n.Kids = append(n.Kids, r.node(levels-1, share, bounded))
		}
	}
	return n
}

// query returns a query of which no atom, some or all are Bounded.
func (r random) query() api.Query {
	q := api.Query{Pattern: r.node(1+r.Intn(6), 1+r.Intn(12), one(r, []int{0, 1, 2, 3, 4, 4})), Within: uint64(r.Intn(10001))}
	var known []string
	for _, n := range leaves(&q.Pattern) {
		if n.Kind == api.Single && r.Intn(2) == 0 {
			n.Atom.Name = string(rune('a' + len(known)))
			known = append(known, n.Atom.Name)
		}
	}
	if len(known) == 0 {
		return q
	}
	for range r.Intn(5) {
		q.Having = append(q.Having, api.Have{Agg: api.Agg{Func: 1 + r.Intn(6), Name: one(r, known)}, Cond: api.Cond{Op: 1 + r.Intn(6), Value: int64(r.Uint64())}})
	}
	for range r.Intn(5) {
		q.Emit = append(q.Emit, api.Agg{Func: 1 + r.Intn(6), Name: one(r, known)})
	}
	return q
}

// many calls yield with many well-formed queries.
func many(t *testing.T, seed int64, yield func(r random, q api.Query)) {
	t.Helper()
	r := random{rand.New(rand.NewSource(seed))}
	yield(r, read(t, full))
	for range 1500 {
		q := r.query()
		if e := wellformed.Check(q); e != api.OK {
			t.Fatalf("%+v: %v", q, e)
		}
		kept := copyQuery(q)
		yield(r, q)
		checkKept(t, q, kept)
	}
}
