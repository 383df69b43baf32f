package parse

import (
	"partywall/api"
	"partywall/ast"
	"partywall/token"
)

// stop is the fault for which reading stops: the grammar panics with it, and read recovers it.
type stop api.Fault

// stopAt stops reading with this fault.
func stopAt(err api.Errno, at int) { panic(stop{Err: err, At: at}) }

// cursor stands at one of the tokens of a text, or behind the last one.
type cursor struct {
	tokens []api.Token
	next   int
	end    int
}

// here returns the token at which the cursor stands; behind the last one what is no token, at the end of the text.
func (c *cursor) here() api.Token {
	if c.next == len(c.tokens) {
		return api.Token{At: c.end}
	}
	return c.tokens[c.next]
}

// refuse stops because the token here cannot stand here, or because there is none.
func (c *cursor) refuse() {
	t := c.here()
	switch {
	case c.next == len(c.tokens):
		stopAt(api.ErrShort, t.At)
	case t.Kind == api.TokWord && !ast.Name(t.Text) && !token.Word(t.Text):
		stopAt(api.ErrName, t.At)
	}
	stopAt(api.ErrForm, t.At)
}

// skips says whether the token here has this text, and goes behind it if so. The text tells the kind, too: tokens of different kinds have different ones.
func (c *cursor) skips(text string) bool {
	if c.here().Text != text {
		return false
	}
	c.next++
	return true
}

// must goes behind the token here, which must have this text.
func (c *cursor) must(text string) {
	if !c.skips(text) {
		c.refuse()
	}
}

// mustEnd stops unless all tokens were read.
func (c *cursor) mustEnd() {
	if c.next < len(c.tokens) {
		c.refuse()
	}
}

// take reads a token of this kind.
func (c *cursor) take(kind int) api.Token {
	t := c.here()
	if t.Kind != kind {
		c.refuse()
	}
	c.next++
	return t
}

// letter reads a letter, and returns its number: 0 for A.
func (c *cursor) letter() int { return int(c.take(api.TokLetter).Text[0] - 'A') }

// name reads a name.
func (c *cursor) name() string {
	if !ast.Name(c.here().Text) {
		c.refuse()
	}
	return c.take(api.TokWord).Text
}

// number reads a number from low to high.
func (c *cursor) number(low, high int64) int64 {
	t := c.take(api.TokNumber)
	n, err := token.Number(t, low, high)
	if err != api.OK {
		stopAt(err, t.At)
	}
	return n
}

// oneOf reads a token whose text is one of these, and returns what it means.
func (c *cursor) oneOf(meanings map[string]int) int {
	meaning, is := meanings[c.here().Text]
	if !is {
		c.refuse()
	}
	c.next++
	return meaning
}
