package parse_test

import (
	"fmt"
	"math/rand"
	"reflect"
	"strings"
	"testing"

	"partywall/api"
	"partywall/token"
)

// funcs and ops are the texts of the aggregate functions and comparisons, from 1 on.
var (
	funcs = strings.Fields("none count sum min max first last")
	ops   = strings.Fields("none = != < <= > >=")
)

// fault returns a fault.
func fault(err api.Errno, at int) api.Fault { return api.Fault{Err: err, At: at} }

// times returns a Single of an atom.
func times(a api.Atom, least, most int) api.Node {
	return api.Node{Kind: api.Single, Min: least, Max: most, Atom: a}
}

// one returns a Single of the letter, once.
func one(letter byte) api.Node { return times(api.Atom{Kind: int(letter) - 'A'}, 1, 1) }

// not returns a Not of the letter.
func not(letter byte) api.Node {
	return api.Node{Kind: api.Not, Atom: api.Atom{Kind: int(letter) - 'A'}}
}

// seq and alt return a Seq and an Alt of Kids.
func seq(kids ...api.Node) api.Node { return api.Node{Kind: api.Seq, Kids: kids} }
func alt(kids ...api.Node) api.Node { return api.Node{Kind: api.Alt, Kids: kids} }

// full returns a query that has everything, newly made.
func full() api.Query {
	return api.Query{
		Pattern: seq(
			times(api.Atom{Kind: 0, Bounded: true, Bound: 6, Conds: []api.Cond{{Op: api.Gt, Value: 3}, {Op: api.Ne, Value: -1}}, Name: "x"}, 1, 3),
			not('C'),
			alt(one('D'), seq(one('E'), one('F'))),
		),
		Having: []api.Have{{Agg: api.Agg{Func: api.AggSum, Name: "x"}, Cond: api.Cond{Op: api.Ge, Value: 10}}},
		Emit:   []api.Agg{{Func: api.AggCount, Name: "x"}, {Func: api.AggLast, Name: "x"}},
	}
}

// fullText is a text of full.
const fullText = "A@{1,2}[>3,!=-1]:x{1,3} ; not C ; (D|E;F) within 0 having sum(x) >=10 emit count(x), last(x)"

// samples are texts that make use of every row of the grammar.
var samples = []string{
	fullText,
	"A within 5",
	"not Z@{}:withins within 99999",
	"((A;B);C|(D|E))within 1",
	"(((A|B{0,99})|not C);D)within 7 having count(a)=0 and min(b)<-9223372036854775808 and first(c)!=9223372036854775807",
	"A[<1,<=2,=3] within 1 emit sum(a)",
	"A@{0,1,63}[>=0]|B@{5}:abcdefgh{2,1};C within 10 emit max(abcdefgh)",
}

// check fails unless both values are equal, with lists that are nil where there is nothing.
func check(t *testing.T, what string, got, want any, f, fault api.Fault) {
	t.Helper()
	if !reflect.DeepEqual(got, want) || f != fault {
		t.Fatalf("%s = %+v, %v, not %+v, %v", what, got, f, want, fault)
	}
}

// random makes queries and texts, always the same ones.
type random struct{ *rand.Rand }

// newRandom returns a maker with this seed.
func newRandom(seed int64) random { return random{rand.New(rand.NewSource(seed))} }

// pick returns one of these.
func pick[X any](r random, l ...X) X { return l[r.Intn(len(l))] }

// list returns none to most items; no list if there are none.
func list[X any](r random, most int, item func() X) []X {
	var l []X
	for range r.Intn(most + 1) {
		l = append(l, item())
	}
	return l
}

// name returns a name.
func (r random) name() string { return pick(r, "a", "z", "xy", "withins", "nota", "an", "abcdefgh") }

// cond returns a condition.
func (r random) cond() api.Cond {
	return api.Cond{Op: 1 + r.Intn(6), Value: pick[int64](r, 0, 1, -1, 10, -57, 1<<63-1, -1<<63)}
}

// atom returns an atom.
func (r random) atom() api.Atom {
	a := api.Atom{Kind: r.Intn(26)}
	if r.Intn(3) == 0 {
		a.Bounded, a.Bound = true, pick[uint64](r, 0, 1, 6, 1<<10, 1<<63, 1<<63|1<<9|3)
	}
	if r.Intn(3) == 0 {
		a.Conds = list(r, 2, r.cond)
	}
	if r.Intn(3) == 0 {
		a.Name = r.name()
	}
	return a
}

// node returns a sound node of at most so many levels.
func (r random) node(levels int) api.Node {
	if levels > 1 && r.Intn(3) > 0 {
		n := api.Node{Kind: 3 + r.Intn(2)}
		for range 2 + r.Intn(2) {
			n.Kids = append(n.Kids, r.node(levels-1))
		}
		return n
	}
	switch r.Intn(4) {
	case 0:
		return api.Node{Kind: api.Not, Atom: r.atom()}
	case 1:
		return times(r.atom(), pick(r, 0, 1, 1, 2, 10, 99), pick(r, 0, 1, 2, 10, 99))
	}
	return times(r.atom(), 1, 1)
}

// agg returns an aggregate.
func (r random) agg() api.Agg { return api.Agg{Func: 1 + r.Intn(6), Name: r.name()} }

// have returns a condition on an aggregate.
func (r random) have() api.Have { return api.Have{Agg: r.agg(), Cond: r.cond()} }

// query returns a sound query with a pattern of at most so many levels.
func (r random) query(levels int) api.Query {
	return api.Query{Pattern: r.node(levels), Within: pick[uint64](r, 0, 1, 10, 4321, 99999), Having: list(r, 2, r.have), Emit: list(r, 2, r.agg)}
}

// writer writes sound queries as lists of tokens, one of odds times with parentheses or numbers that change nothing (never if odds is 0).
type writer struct {
	random
	odds   int
	tokens []string
}

// write writes tokens.
func (w *writer) write(tokens ...string) { w.tokens = append(w.tokens, tokens...) }

// isOdd says whether to write what changes nothing.
func (w *writer) isOdd() bool { return w.odds > 0 && w.Intn(w.odds) == 0 }

// each writes parts with a separator between them.
func each[X any](w *writer, between string, parts []X, write func(x X)) {
	for i, x := range parts {
		if i > 0 {
			w.write(between)
		}
		write(x)
	}
}

// cond writes a condition.
func (w *writer) cond(c api.Cond) { w.write(ops[c.Op], fmt.Sprint(c.Value)) }

// agg writes an aggregate.
func (w *writer) agg(a api.Agg) { w.write(funcs[a.Func], "(", a.Name, ")") }

// atom writes an atom.
func (w *writer) atom(a api.Atom) {
	w.write(string(rune('A' + a.Kind)))
	if a.Bounded {
		var categories []int
		for c := range 64 {
			if a.Bound>>c&1 == 1 {
				categories = append(categories, c)
			}
		}
		w.write("@", "{")
		each(w, ",", categories, func(c int) { w.write(fmt.Sprint(c)) })
		w.write("}")
	}
	if len(a.Conds) > 0 {
		w.write("[")
		each(w, ",", a.Conds, w.cond)
		w.write("]")
	}
	if a.Name != "" {
		w.write(":", a.Name)
	}
}

// node writes a node that stands in one of this kind (0 for none).
func (w *writer) node(n api.Node, in int) {
	if n.Kind == api.Alt && in != 0 || n.Kind == api.Seq && in == api.Seq || w.isOdd() {
		w.write("(")
		w.node(n, 0)
		w.write(")")
		return
	}
	switch n.Kind {
	case api.Seq:
		each(w, ";", n.Kids, func(k api.Node) { w.node(k, api.Seq) })
	case api.Alt:
		each(w, "|", n.Kids, func(k api.Node) { w.node(k, api.Alt) })
	case api.Not:
		w.write("not")
		w.atom(n.Atom)
	case api.Single:
		w.atom(n.Atom)
		if n.Min != 1 || n.Max != 1 || w.isOdd() {
			w.write("{", fmt.Sprint(n.Min), ",", fmt.Sprint(n.Max), "}")
		}
	}
}

// query writes a query.
func (w *writer) query(q api.Query) {
	w.node(q.Pattern, 0)
	w.write("within", fmt.Sprint(q.Within))
	if len(q.Having) > 0 {
		w.write("having")
		each(w, "and", q.Having, func(h api.Have) {
			w.agg(h.Agg)
			w.cond(h.Cond)
		})
	}
	if len(q.Emit) > 0 {
		w.write("emit")
		each(w, ",", q.Emit, w.agg)
	}
}

// tokensOf returns the tokens of a query, one of odds times with what changes nothing.
func (r random) tokensOf(q api.Query, odds int) []string {
	w := writer{random: r, odds: odds}
	w.query(q)
	return w.tokens
}

// spaced returns tokens with blanks between them: at random, but where they would grow together there is one at least.
func (r random) spaced(tokens []string) string {
	text := r.blanks(0)
	for i, t := range tokens {
		least := 0
		if i > 0 && growTogether(tokens[i-1], t) {
			least = 1
		}
		if i > 0 {
			text += r.blanks(least)
		}
		text += t
	}
	return text + r.blanks(0)
}

// blanks returns some blanks, at least so many.
func (r random) blanks(least int) string {
	text := ""
	for range least + pick(r, 0, 0, 0, 1, 2) {
		text += pick(r, " ", " ", "\t", "\n", "\r")
	}
	return text
}

// growTogether says whether two tokens are not those when one stands directly behind the other.
func growTogether(a, b string) bool {
	l, f := token.Tokens(a + b)
	return f != (api.Fault{}) || len(l) != 2 || l[0].Text != a
}

// many calls yield with many queries and texts of them, with odd ones among these.
func many(seed int64, count int, yield func(r random, q api.Query, tokens []string, text string)) int {
	r := newRandom(seed)
	calls := 0
	for range count {
		q := r.query(1 + r.Intn(4))
		tokens := r.tokensOf(q, pick(r, 0, 3+r.Intn(8)))
		if text := r.spaced(tokens); len(text) <= api.MaxQuery {
			calls++
			yield(r, q, tokens, text)
		}
	}
	return calls
}
