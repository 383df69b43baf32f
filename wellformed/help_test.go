package wellformed_test

import (
	"math/rand"
	"reflect"
	"slices"
	"strings"
	"testing"

	"partywall/api"
	"partywall/ast"
	"partywall/parse"
)

// times returns a Single of an atom.
func times(a api.Atom, least, most int) api.Node {
	return api.Node{Kind: api.Single, Min: least, Max: most, Atom: a}
}

// one returns a Single of the letter, once.
func one(letter byte) api.Node { return times(api.Atom{Kind: int(letter) - 'A'}, 1, 1) }

// not returns a Not of the letter.
func not(letter byte) api.Node {
	return api.Node{Kind: api.Not, Atom: api.Atom{Kind: int(letter) - 'A'}}
}

// seq and alt return a Seq and an Alt of Kids.
func seq(kids ...api.Node) api.Node { return api.Node{Kind: api.Seq, Kids: kids} }
func alt(kids ...api.Node) api.Node { return api.Node{Kind: api.Alt, Kids: kids} }

// read returns the query of a text, newly made; a pattern alone is meant within 5.
func read(t *testing.T, text string) api.Query {
	t.Helper()
	if !strings.Contains(text, " within ") {
		text += " within 5"
	}
	q, f := parse.Parse(text)
	if f != (api.Fault{}) {
		t.Fatalf("%q is no query: %v at %d", text, f.Err, f.At)
	}
	return q
}

// full is a well-formed query that has everything.
const full = "A@{1,2}[>3,!=-1]:x{1,3} ; not C[=0] ; not B@{} ; (D{2,2} | E:y ; F:z) within 10 having sum(y) >=10 and min(x) <5 emit count(x), last(z), max(y)"

// row returns a text of so many letters, from A on, with a sign between them.
func row(count int, sign string) string {
	var letters []string
	for i := range count {
		letters = append(letters, string(rune('A'+i)))
	}
	return strings.Join(letters, sign)
}

// chain returns a pattern with so many levels, whose Kid at this place has the next one.
func chain(levels, at int) api.Node {
	n := one('Z')
	for level := range levels - 1 {
		kids := []api.Node{one('A'), one('B')}
		kids[at] = n
		n = api.Node{Kind: api.Seq + level%2, Kids: kids}
	}
	return n
}

// place is where a node stands: how deep, and as which Kid of which node (of none if it is the pattern).
type place struct {
	node   *api.Node
	depth  int
	parent *api.Node
	kid    int
}

// places returns the places of all nodes of a pattern, each before those of its Kids.
func places(n *api.Node) []place { return below(place{node: n, depth: 1}) }

// below returns a place, and those of all nodes below it.
func below(p place) []place {
	all := []place{p}
	for i := range p.node.Kids {
		all = append(all, below(place{&p.node.Kids[i], p.depth + 1, p.node, i})...)
	}
	return all
}

// leaves returns the places of the nodes with atoms.
func leaves(n *api.Node) []place {
	return slices.DeleteFunc(places(n), func(p place) bool { return len(p.node.Kids) > 0 })
}

// standsRight says whether a Not stands right, by the definition.
func standsRight(p place) bool {
	if p.parent == nil || p.parent.Kind != api.Seq || p.kid == 0 || p.kid == len(p.parent.Kids)-1 {
		return false
	}
	before, behind := false, false
	for i, k := range p.parent.Kids {
		before = before || i < p.kid && k.Kind != api.Not
		behind = behind || i > p.kid && k.Kind != api.Not
	}
	return before && behind
}

// namesOf returns the names of a query, by the definition, and the numbers of their atoms.
func namesOf(q api.Query) (names []string, numbers []int) {
	for i, l := range leaves(&q.Pattern) {
		if l.node.Kind == api.Single && l.node.Atom.Name != "" {
			names, numbers = append(names, l.node.Atom.Name), append(numbers, i)
		}
	}
	return names, numbers
}

// used returns all names that Haves and then Emits use, those used more often, too.
func used(q api.Query) []string {
	var all []string
	for _, h := range q.Having {
		all = append(all, h.Agg.Name)
	}
	for _, a := range q.Emit {
		all = append(all, a.Name)
	}
	return all
}

// depthOf returns how deep a pattern is.
func depthOf(n api.Node) int {
	depth := 0
	for _, p := range places(&n) {
		depth = max(depth, p.depth)
	}
	return depth
}

// errorOf returns the error of a query, by the definition, with soundness as ast has it.
func errorOf(q api.Query) api.Errno {
	if ast.Check(q) != api.OK {
		return api.ErrForm
	}
	found := map[api.Errno]bool{
		api.ErrFull:  len(leaves(&q.Pattern)) > 12 || len(q.Having) > 4 || len(q.Emit) > 4,
		api.ErrDepth: depthOf(q.Pattern) > 6,
		api.ErrRange: q.Within > 10000,
	}
	all := places(&q.Pattern)
	for _, p := range all {
		n := p.node
		found[api.ErrFull] = found[api.ErrFull] || len(n.Kids) > 8 || len(n.Atom.Conds) > 4
		found[api.ErrRange] = found[api.ErrRange] || n.Kind == api.Single && (n.Min < 1 || n.Min > n.Max || n.Max > 6)
		found[api.ErrOrder] = found[api.ErrOrder] || n.Kind == api.Not && !standsRight(p)
		found[api.ErrName] = found[api.ErrName] || n.Kind == api.Not && n.Atom.Name != ""
		for _, other := range all {
			found[api.ErrExists] = found[api.ErrExists] || other.node != n && n.Atom.Name != "" && other.node.Atom.Name == n.Atom.Name
		}
	}
	names, _ := namesOf(q)
	for _, name := range used(q) {
		found[api.ErrName] = found[api.ErrName] || !slices.Contains(names, name)
	}
	for _, err := range []api.Errno{api.ErrFull, api.ErrDepth, api.ErrRange, api.ErrOrder, api.ErrExists, api.ErrName} {
		if found[err] {
			return err
		}
	}
	return api.OK
}

// copyNode returns the same node, newly made.
func copyNode(n api.Node) api.Node {
	n.Atom.Conds, n.Kids = slices.Clone(n.Atom.Conds), slices.Clone(n.Kids)
	for i, k := range n.Kids {
		n.Kids[i] = copyNode(k)
	}
	return n
}

// copyQuery returns the same query, newly made.
func copyQuery(q api.Query) api.Query {
	q.Pattern, q.Having, q.Emit = copyNode(q.Pattern), slices.Clone(q.Having), slices.Clone(q.Emit)
	return q
}

// checkKept fails if a query is not what it was.
func checkKept(t *testing.T, q, kept api.Query) {
	t.Helper()
	if !reflect.DeepEqual(q, kept) {
		t.Fatalf("%+v is %+v now", kept, q)
	}
}

// random makes queries, always the same ones; one of wrong choices makes a query that is not well-formed (none if wrong is 0).
type random struct {
	*rand.Rand
	wrong int
}

// newRandom returns a maker with this seed.
func newRandom(seed int64, wrong int) random { return random{rand.New(rand.NewSource(seed)), wrong} }

// isWrong says whether to choose what is wrong.
func (r random) isWrong() bool { return r.wrong > 0 && r.Intn(r.wrong) == 0 }

// pick returns one of the good values, or now and then one of the bad ones.
func pick[X any](r random, good, bad []X) X {
	if r.isWrong() {
		return bad[r.Intn(len(bad))]
	}
	return good[r.Intn(len(good))]
}

// list returns none to most items, now and then more.
func list[X any](r random, most int, item func() X) []X {
	count := r.Intn(most + 1)
	if r.isWrong() {
		count = most + 1 + r.Intn(2)
	}
	var l []X
	for range count {
		l = append(l, item())
	}
	return l
}

// cond returns a condition.
func (r random) cond() api.Cond {
	return api.Cond{Op: 1 + r.Intn(6), Value: pick(r, []int64{0, 1, -1, 1<<63 - 1, -1 << 63}, []int64{2})}
}

// atom returns an atom without a name.
func (r random) atom() api.Atom {
	a := api.Atom{Kind: pick(r, []int{0, 1, 2, 25}, []int{0, 1, 2, 3, 26})}
	if r.Intn(4) == 0 {
		a.Bounded, a.Bound = true, r.Uint64()
	}
	if r.Intn(4) == 0 {
		a.Conds = list(r, 4, r.cond)
	}
	return a
}

// leaf returns a node with an atom; it is a Not only if it may be, or by mistake.
func (r random) leaf(mayBeNot bool) api.Node {
	if mayBeNot && r.Intn(2) == 0 || r.isWrong() {
		return api.Node{Kind: api.Not, Atom: r.atom()}
	}
	least := pick(r, []int{1, 1, 1, 2, 3}, []int{0, 7, 99})
	return times(r.atom(), least, pick(r, []int{least, 3, 6}, []int{0, 1, 2, 7, 99}))
}

// node returns a node of at most so many levels with so many atoms, or fewer if there is no room for them.
func (r random) node(levels, atoms int, mayBeNot bool) api.Node {
	if levels == 1 || atoms == 1 {
		return r.leaf(mayBeNot)
	}
	n := api.Node{Kind: pick(r, []int{api.Seq, api.Seq, api.Alt}, []int{api.Seq, api.Seq, api.Alt, 0})}
	most := pick(r, []int{8}, []int{9, 12})
	shares := make([]int, 2+r.Intn(min(atoms, most)-1))
	if r.Intn(2) == 0 {
		shares = shares[:2]
	}
	favourite, isFair := r.Intn(len(shares)), r.Intn(2) == 0
	for i := range atoms {
		switch {
		case i < len(shares):
			shares[i]++
		case isFair:
			shares[r.Intn(len(shares))]++
		default:
			shares[favourite]++
		}
	}
	for i, share := range shares {
		n.Kids = append(n.Kids, r.node(levels-1, share, n.Kind == api.Seq && i > 0 && i < len(shares)-1))
	}
	return n
}

// deeper returns a pattern with some more levels.
func (r random) deeper(n api.Node) api.Node {
	for range 4 + r.Intn(4) {
		n = api.Node{Kind: api.Seq + r.Intn(2), Kids: []api.Node{n, r.leaf(false)}}
		r.Shuffle(2, func(i, j int) { n.Kids[i], n.Kids[j] = n.Kids[j], n.Kids[i] })
	}
	return n
}

// pattern returns a pattern with some names, and some of these.
func (r random) pattern() (api.Node, []string) {
	levels, atoms := 1+r.Intn(6), pick(r, []int{1, 2, 3, 5, 8, 11, 12}, []int{13, 14, 20})
	n := r.node(levels, atoms, false)
	if r.isWrong() {
		n = r.deeper(r.node(1+levels/2, 1+atoms/3, false))
	}
	free, known := strings.Fields("a b c d x y z xy counts lasts abcdefgh zz zzz nota"), []string{}
	r.Shuffle(len(free), func(i, j int) { free[i], free[j] = free[j], free[i] })
	for _, l := range leaves(&n) {
		if len(free) == 0 || (l.node.Kind == api.Not || r.Intn(2) == 0) && !r.isWrong() {
			continue
		}
		l.node.Atom.Name, free = free[0], free[pick(r, []int{1}, []int{0}):]
		known = append(known, l.node.Atom.Name)
	}
	return n, known
}

// query returns a query.
func (r random) query() api.Query {
	n, known := r.pattern()
	q := api.Query{Pattern: n, Within: pick(r, []uint64{0, 1, 5, 9999, 10000}, []uint64{10001, 99999, 100000})}
	agg := func() api.Agg {
		return api.Agg{Func: 1 + r.Intn(6), Name: pick(r, known, []string{"other", "a", "within"})}
	}
	if len(known) > 0 && r.Intn(4) > 0 {
		q.Having = list(r, 4, func() api.Have { return api.Have{Agg: agg(), Cond: r.cond()} })
		q.Emit = list(r, 4, agg)
	}
	return q
}
