package parse_test

import (
	"slices"
	"strings"

	"partywall/api"
	"partywall/token"
)

// table is the chapter's grammar. What stands in quotation marks stands as it is; the kinds of numbers are those that have limits of their own.
const table = `
query = pattern "within" WINDOW [ "having" have { "and" have } ] [ "emit" agg { "," agg } ]
pattern = seq { "|" seq }
seq = item { ";" item }
item = "not" atom / unit
unit = atom [ "{" TIMES "," TIMES "}" ] / "(" pattern ")"
atom = LETTER [ "@" label ] [ "[" cond { "," cond } "]" ] [ ":" NAME ]
label = "{" [ CATEGORY { "," CATEGORY } ] "}"
cond = comparison VALUE
comparison = "=" / "!=" / "<" / "<=" / ">" / ">="
have = agg cond
agg = function "(" NAME ")"
function = "count" / "sum" / "min" / "max" / "first" / "last"
`

// rule is a part of the grammar: what stands there (a terminal, or the name of a row), all parts in a row, one of them, or the only one any number of times.
type rule struct {
	form  int
	text  string
	parts []*rule
}

// The forms of rules.
const (
	terminal = iota
	row
	together
	either
	repeated
)

// rules are the rows of the grammar.
type rules map[string]*rule

// readTable returns the rows of the grammar.
func readTable() rules {
	g := rules{}
	for _, line := range strings.Split(strings.TrimSpace(table), "\n") {
		words := strings.Fields(line)
		g[words[0]], _ = readRule(words[2:])
	}
	return g
}

// readRule returns the rule that words begin with, up to a closing bracket or the end, and the words behind that.
func readRule(words []string) (*rule, []string) {
	choice, parts := &rule{form: either}, &rule{form: together}
	for len(words) > 0 {
		word := words[0]
		words = words[1:]
		var part *rule
		switch {
		case word == "[":
			part, words = readRule(words)
			part.parts = append(part.parts, &rule{form: together})
		case word == "{":
			part, words = readRule(words)
			part = &rule{form: repeated, parts: []*rule{part}}
		case word == "]" || word == "}":
			choice.parts = append(choice.parts, parts)
			return choice, words
		case word == "/":
			choice.parts, parts = append(choice.parts, parts), &rule{form: together}
			continue
		case word[0] == '"' || strings.ToUpper(word) == word:
			part = &rule{form: terminal, text: strings.Trim(word, `"`)}
		default:
			part = &rule{form: row, text: word}
		}
		parts.parts = append(parts.parts, part)
	}
	choice.parts = append(choice.parts, parts)
	return choice, nil
}

// way is a way to go on: what comes first, and what behind it; none if nothing comes.
type way struct {
	first  *rule
	behind *way
	length int
}

// push returns the way with these parts before it.
func (w *way) push(parts ...*rule) *way {
	for _, part := range slices.Backward(parts) {
		length := 1
		if w != nil {
			length += w.length
		}
		w = &way{part, w, length}
	}
	return w
}

// open appends all ways to go on that begin with a terminal, or are none, to ways.
func (g rules) open(ways []*way, w *way) []*way {
	if w == nil || w.first.form == terminal {
		return append(ways, w)
	}
	switch first := w.first; first.form {
	case row:
		return g.open(ways, w.behind.push(g[first.text]))
	case together:
		return g.open(ways, w.behind.push(first.parts...))
	case repeated:
		return g.open(g.open(ways, w.push(first.parts...)), w.behind)
	}
	for _, part := range w.first.parts {
		ways = g.open(ways, w.behind.push(part))
	}
	return ways
}

// words are the words of the language.
var words = strings.Fields("within having and emit not count sum min max first last")

// isThere says whether a token may stand where the terminal stands, but for its limits.
func isThere(terminal string, t api.Token) bool {
	switch terminal {
	case "LETTER":
		return t.Kind == 2
	case "NAME":
		return t.Kind == 1 && !slices.Contains(words, t.Text)
	case "WINDOW", "TIMES", "VALUE", "CATEGORY":
		return t.Kind == 3
	}
	return t.Text == terminal
}

// isOver says whether a number is beyond the limits of what stands there.
func isOver(terminal, text string) bool {
	digits := strings.TrimPrefix(text, "-")
	isBelow := digits != text
	beyond := func(most string) bool {
		return len(digits) > len(most) || len(digits) == len(most) && digits > most
	}
	switch terminal {
	case "WINDOW":
		return isBelow || beyond("99999")
	case "TIMES":
		return isBelow || beyond("99")
	case "CATEGORY":
		return isBelow || beyond("63")
	case "VALUE":
		return !isBelow && beyond("9223372036854775807") || isBelow && beyond("9223372036854775808")
	}
	return false
}

// isTooLow says whether a category is not greater than the one before it: there is one if a comma stands between them.
func isTooLow(terminal string, tokens []api.Token) bool {
	at := len(tokens) - 1
	if terminal != "CATEGORY" || tokens[at-1].Text != "," {
		return false
	}
	one, other := tokens[at-2].Text, tokens[at].Text
	return len(one) > len(other) || len(one) == len(other) && one >= other
}

// follow goes through tokens: it returns all ways to go on behind them, or the error of the first one that has one, and which it is.
func (g rules) follow(start string, tokens []api.Token) (ways []*way, err api.Errno, at int) {
	ways = g.open(nil, (*way)(nil).push(g[start]))
	for i, t := range tokens {
		var next []*way
		reason := api.ErrForm
		for _, w := range ways {
			if w == nil || !isThere(w.first.text, t) {
				continue
			}
			switch what := w.first.text; {
			case what == "NAME" && len(t.Text) > 8:
			case isOver(what, t.Text):
				reason = api.ErrRange
			case isTooLow(what, tokens[:i+1]):
				reason = api.ErrOrder
			default:
				next = g.open(next, w.behind)
			}
		}
		if len(next) == 0 && t.Kind == 1 && len(t.Text) > 8 {
			reason = api.ErrName
		}
		if len(next) == 0 {
			return nil, reason, i
		}
		ways = next
	}
	return ways, api.OK, 0
}

// fault returns the fault of a text that is to be what the row says, by the definition.
func (g rules) fault(start, text string) api.Fault {
	tokens, f := token.Tokens(text)
	if f != (api.Fault{}) {
		return f
	}
	ways, err, at := g.follow(start, tokens)
	if err != api.OK {
		return api.Fault{Err: err, At: tokens[at].At}
	}
	if slices.Contains(ways, nil) {
		return api.Fault{}
	}
	return api.Fault{Err: api.ErrShort, At: len(text)}
}

// complete returns a text that ends what was begun, with as little as may be.
func (g rules) complete(w *way) string {
	var texts []string
	for w != nil {
		what := w.first.text
		switch what {
		case "LETTER":
			what = "A"
		case "NAME":
			what = "x"
		case "CATEGORY":
			what = "63"
		case "WINDOW", "TIMES", "VALUE":
			what = "1"
		}
		texts = append(texts, what)
		w = shortest(g.open(nil, w.behind))
	}
	return strings.Join(texts, " ")
}

// shortest returns the shortest way, the first one of these.
func shortest(ways []*way) *way {
	if slices.Contains(ways, nil) {
		return nil
	}
	return slices.MinFunc(ways, func(a, b *way) int { return a.length - b.length })
}
