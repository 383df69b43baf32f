package ast_test

import (
	"fmt"
	"math/rand"
	"reflect"
	"regexp"
	"slices"
	"strings"

	"partywall/api"
)

// words are the words of the language: none of them is a name.
var words = strings.Fields("within having and emit not count sum min max first last")

// nameForm is the form of names.
var nameForm = regexp.MustCompile(`\A[a-z]{1,8}\z`)

// funcs and ops are the texts of the aggregate functions and comparisons, from 1 on.
var (
	funcs = strings.Fields("none count sum min max first last")
	ops   = strings.Fields("none = != < <= > >=")
)

// atom returns the atom whose Kind is the letter.
func atom(letter byte) api.Atom { return api.Atom{Kind: int(letter) - 'A'} }

// times returns a Single of an atom.
func times(a api.Atom, least, most int) api.Node {
	return api.Node{Kind: api.Single, Min: least, Max: most, Atom: a}
}

// one returns a Single of the letter, once.
func one(letter byte) api.Node { return times(atom(letter), 1, 1) }

// not returns a Not of an atom.
func not(a api.Atom) api.Node { return api.Node{Kind: api.Not, Atom: a} }

// seq and alt return a Seq and an Alt of Kids.
func seq(kids ...api.Node) api.Node { return api.Node{Kind: api.Seq, Kids: kids} }
func alt(kids ...api.Node) api.Node { return api.Node{Kind: api.Alt, Kids: kids} }

// full returns a query that has everything, newly made.
func full() api.Query {
	return api.Query{
		Pattern: seq(
			times(api.Atom{Kind: 0, Bounded: true, Bound: 6, Conds: []api.Cond{{Op: api.Gt, Value: 5}, {Op: api.Ne, Value: -7}}, Name: "x"}, 1, 3),
			not(atom('B')),
			alt(one('C'), one('D')),
		),
		Within: 10,
		Having: []api.Have{{Agg: api.Agg{Func: api.AggSum, Name: "x"}, Cond: api.Cond{Op: api.Gt, Value: 5}}, {Agg: api.Agg{Func: api.AggCount, Name: "x"}, Cond: api.Cond{Op: api.Le, Value: 3}}},
		Emit:   []api.Agg{{Func: api.AggMin, Name: "x"}, {Func: api.AggLast, Name: "x"}},
	}
}

// fullText is the text of full.
const fullText = "A@{1,2}[>5,!=-7]:x{1,3} ; not B ; (C | D) within 10 having sum(x) >5 and count(x) <=3 emit min(x), last(x)"

// isName says what Name says, by the definition.
func isName(s string) bool { return nameForm.MatchString(s) && !slices.Contains(words, s) }

// isAtom says whether an atom is sound, by the definition.
func isAtom(a api.Atom) bool {
	for _, c := range a.Conds {
		if c.Op < 1 || c.Op > 6 {
			return false
		}
	}
	return a.Kind >= 0 && a.Kind <= 25 && !(a.Bound != 0 && !a.Bounded) && (a.Name == "" || isName(a.Name))
}

// isSound says whether a node is sound, and at most so deep, by the definition.
func isSound(n api.Node, deepest int) bool {
	if deepest == 0 {
		return false
	}
	for _, k := range n.Kids {
		if !isSound(k, deepest-1) {
			return false
		}
	}
	switch n.Kind {
	case 1:
		return isAtom(n.Atom) && n.Min >= 0 && n.Min <= 99 && n.Max >= 0 && n.Max <= 99 && len(n.Kids) == 0
	case 2:
		return isAtom(n.Atom) && n.Min == 0 && n.Max == 0 && len(n.Kids) == 0
	case 3, 4:
		return len(n.Kids) >= 2 && n.Min == 0 && n.Max == 0 && reflect.DeepEqual(tidyAtom(n.Atom), api.Atom{})
	}
	return false
}

// tidyAtom returns the same atom, newly made, with nil for empty lists.
func tidyAtom(a api.Atom) api.Atom {
	a.Conds = append([]api.Cond(nil), a.Conds...)
	return a
}

// tidyNode returns the same node, newly made, with nil for empty lists.
func tidyNode(n api.Node) api.Node {
	var kids []api.Node
	for _, k := range n.Kids {
		kids = append(kids, tidyNode(k))
	}
	n.Atom, n.Kids = tidyAtom(n.Atom), kids
	return n
}

// tidy returns the same query, newly made, with nil for empty lists.
func tidy(q api.Query) api.Query {
	q.Pattern, q.Having, q.Emit = tidyNode(q.Pattern), append([]api.Have(nil), q.Having...), append([]api.Agg(nil), q.Emit...)
	return q
}

// isQuery says whether a query is sound, by the definition.
func isQuery(q api.Query) bool {
	for _, h := range q.Having {
		if h.Agg.Func < 1 || h.Agg.Func > 6 || !isName(h.Agg.Name) || h.Cond.Op < 1 || h.Cond.Op > 6 {
			return false
		}
	}
	for _, a := range q.Emit {
		if a.Func < 1 || a.Func > 6 || !isName(a.Name) {
			return false
		}
	}
	return q.Within <= 99999 && isSound(q.Pattern, 200)
}

// atomText returns the text of a sound atom, by the definition.
func atomText(a api.Atom) string {
	text := string(rune('A' + a.Kind))
	if a.Bounded {
		var categories []string
		for c := range 64 {
			if a.Bound&(1<<c) != 0 {
				categories = append(categories, fmt.Sprint(c))
			}
		}
		text += "@{" + strings.Join(categories, ",") + "}"
	}
	if len(a.Conds) > 0 {
		var conds []string
		for _, c := range a.Conds {
			conds = append(conds, fmt.Sprint(ops[c.Op], c.Value))
		}
		text += "[" + strings.ReplaceAll(strings.Join(conds, ","), " ", "") + "]"
	}
	if a.Name != "" {
		text += ":" + a.Name
	}
	return text
}

// nodeText returns the text of a sound node, by the definition.
func nodeText(n api.Node) string {
	var kids []string
	for _, k := range n.Kids {
		text := nodeText(k)
		if n.Kind == 3 && (k.Kind == 3 || k.Kind == 4) || n.Kind == 4 && k.Kind == 4 {
			text = "(" + text + ")"
		}
		kids = append(kids, text)
	}
	switch {
	case n.Kind == 3:
		return strings.Join(kids, " ; ")
	case n.Kind == 4:
		return strings.Join(kids, " | ")
	case n.Kind == 2:
		return "not " + atomText(n.Atom)
	case n.Min == 1 && n.Max == 1:
		return atomText(n.Atom)
	}
	return fmt.Sprintf("%s{%d,%d}", atomText(n.Atom), n.Min, n.Max)
}

// queryText returns the text of a sound query, by the definition.
func queryText(q api.Query) string {
	text := fmt.Sprintf("%s within %d", nodeText(q.Pattern), q.Within)
	for i, h := range q.Having {
		text += []string{" having ", " and "}[min(i, 1)] + fmt.Sprintf("%s(%s) %s%d", funcs[h.Agg.Func], h.Agg.Name, ops[h.Cond.Op], h.Cond.Value)
	}
	for i, a := range q.Emit {
		text += []string{" emit ", ", "}[min(i, 1)] + fmt.Sprintf("%s(%s)", funcs[a.Func], a.Name)
	}
	return text
}

// leaves returns the nodes without Kids, in order.
func leaves(n api.Node) []api.Node {
	if len(n.Kids) == 0 {
		return []api.Node{n}
	}
	var l []api.Node
	for _, k := range n.Kids {
		l = append(l, leaves(k)...)
	}
	return l
}

// depth returns how many nodes the longest way down a node has.
func depth(n api.Node) int {
	most := 0
	for _, k := range n.Kids {
		most = max(most, depth(k))
	}
	return most + 1
}

// count returns how many nodes there are in a node.
func count(n api.Node) int {
	all := 1
	for _, k := range n.Kids {
		all += count(k)
	}
	return all
}

// chain returns a pattern with so many levels, whose Kid at this place has the next one.
func chain(levels, place int) api.Node {
	n := one('Z')
	for level := range levels - 1 {
		kids := []api.Node{one('A'), one('B'), one('C')}
		kids[place] = n
		n = api.Node{Kind: api.Seq + level%2, Kids: kids}
	}
	return n
}

// pointers returns where the nodes of a pattern are.
func pointers(n *api.Node) []*api.Node {
	l := []*api.Node{n}
	for i := range n.Kids {
		l = append(l, pointers(&n.Kids[i])...)
	}
	return l
}

// random makes nodes and queries, always the same ones; one of wrong choices is not sound.
type random struct {
	*rand.Rand
	wrong int
}

// newRandom returns a maker with this seed, which makes sound nodes and queries only if wrong is 0.
func newRandom(seed int64, wrong int) random {
	return random{rand.New(rand.NewSource(seed)), wrong}
}

// pick returns one of the good values, or now and then one of the others.
func pick[X any](r random, good, bad []X) X {
	if r.wrong > 0 && r.Intn(r.wrong) == 0 {
		return bad[r.Intn(len(bad))]
	}
	return good[r.Intn(len(good))]
}

// list returns none to most items, as nil or as an empty list if there are none.
func list[X any](r random, most int, item func() X) []X {
	l := make([]X, 0, most)
	for range r.Intn(most + 1) {
		l = append(l, item())
	}
	if len(l) == 0 && r.Intn(2) == 0 {
		return nil
	}
	return l
}

// name returns a name.
func (r random) name() string {
	return pick(r, []string{"a", "z", "x", "within" + "s", "nota", "an", "abcdefgh"}, []string{"", "within", "and", "last", "abcdefghi", "A", "a1", "é", " a", "a\n"})
}

// cond returns a condition.
func (r random) cond() api.Cond {
	return api.Cond{Op: pick(r, []int{1, 2, 3, 4, 5, 6}, []int{-1 << 63, -1, 0, 7, 8, 1<<63 - 1}), Value: pick(r, []int64{0, 1, -1, 5, 1<<63 - 1, -1 << 63}, []int64{7})}
}

// atom returns an atom.
func (r random) atom() api.Atom {
	a := api.Atom{Kind: pick(r, []int{0, 1, 2, 24, 25}, []int{-1 << 63, -1, 26, 27, 1<<63 - 1}), Conds: list(r, 2, r.cond)}
	if r.Intn(3) == 0 {
		a.Bounded, a.Bound = true, pick(r, []uint64{0, 1, 6, 1 << 63, 1<<64 - 1}, []uint64{8})
	}
	a.Bound = pick(r, []uint64{a.Bound}, []uint64{0, 1, 1 << 63})
	if r.Intn(3) == 0 {
		a.Name = r.name()
	}
	return a
}

// node returns a node of at most so many levels.
func (r random) node(levels int) api.Node {
	if levels == 1 || r.Intn(3) == 0 {
		return r.leaf()
	}
	n := api.Node{Kind: 3 + r.Intn(2)}
	for range pick(r, []int{2, 3}, []int{0, 1}) {
		n.Kids = append(n.Kids, r.node(levels-1))
	}
	n.Min, n.Max = pick(r, []int{0}, []int{-1, 1, 2}), pick(r, []int{0}, []int{-1, 1, 2})
	n.Atom = pick(r, []api.Atom{{}, {Conds: []api.Cond{}}}, []api.Atom{{Kind: 1}, {Bounded: true}, {Bound: 1}, {Name: "a"}, {Conds: []api.Cond{{}}}})
	return n
}

// leaf returns a node without Kids, or with some that it must not have.
func (r random) leaf() api.Node {
	n := api.Node{Kind: pick(r, []int{1, 1, 2}, []int{-1 << 63, -1, 0, 3, 4, 5, 1<<63 - 1}), Atom: r.atom()}
	n.Kids = pick(r, [][]api.Node{nil, {}}, [][]api.Node{{one('A')}, {one('A'), one('B')}})
	good := []int{0}
	if n.Kind == 1 {
		good = []int{0, 1, 1, 1, 2, 98, 99}
	}
	n.Min, n.Max = pick(r, good, []int{-1 << 63, -1, 1, 100, 1<<63 - 1}), pick(r, good, []int{-1 << 63, -1, 1, 100, 1<<63 - 1})
	return n
}

// agg returns an aggregate.
func (r random) agg() api.Agg {
	return api.Agg{Func: pick(r, []int{1, 2, 3, 4, 5, 6}, []int{-1 << 63, -1, 0, 7, 8, 1<<63 - 1}), Name: r.name()}
}

// have returns a condition on an aggregate.
func (r random) have() api.Have { return api.Have{Agg: r.agg(), Cond: r.cond()} }

// query returns a query with a pattern of at most so many levels.
func (r random) query(levels int) api.Query {
	return api.Query{Pattern: r.node(levels), Within: pick(r, []uint64{0, 1, 10, 99999}, []uint64{100000, 1 << 63, 1<<64 - 1}), Having: list(r, 2, r.have), Emit: list(r, 2, r.agg)}
}
