package event_test

import (
	"iter"
	"math"
	"slices"
	"strconv"
	"strings"
	"testing"

	"partywall/api"
	"partywall/event"
)

// labelText returns the text of l, category by category.
func labelText(l uint64) string {
	var words []string
	for i := range 64 {
		if l>>i&1 == 1 {
			words = append(words, strconv.Itoa(i))
		}
	}
	return "{" + strings.Join(words, ",") + "}"
}

// TestP3_2Text: the letter, the label and the value, and that they are read.
func TestP3_2Text(t *testing.T) {
	for _, e := range events() {
		want := alphabet[e.Kind:e.Kind+1] + " " + labelText(e.Label) + " " + strconv.FormatInt(e.Value, 10)
		if s, err := event.Text(e); s != want || err != api.OK {
			t.Errorf("Text(%v) = %q, %v", e, s, err)
		}
		if got, err := event.Read(want); got != e || err != api.OK {
			t.Errorf("Read(%q) = %v, %v", want, got, err)
		}
	}
}

// TestP3_2Literal: some events whose texts are written out.
func TestP3_2Literal(t *testing.T) {
	for s, e := range map[string]api.Event{
		"A {} 0": {}, "Z {63} 9223372036854775807": {Label: high, Kind: 25, Value: math.MaxInt64}, "M {0,9,10} -9223372036854775808": {Label: 1 | 1<<9 | 1<<10, Kind: 12, Value: math.MinInt64}, "B {2} 10": {Label: 4, Kind: 1, Value: 10}, "B {1} -100": {Label: 2, Kind: 1, Value: -100},
	} {
		if got, err := event.Text(e); got != s || err != api.OK {
			t.Errorf("Text(%v) = %q, %v", e, got, err)
		}
		if got, err := event.Read(s); got != e || err != api.OK {
			t.Errorf("Read(%q) = %v, %v", s, got, err)
		}
	}
}

// TestP3_2NotSound: events that are not sound have no text.
func TestP3_2NotSound(t *testing.T) {
	for _, kind := range notKinds() {
		for _, l := range labels() {
			for _, v := range values() {
				if s, err := event.Text(api.Event{Label: l, Kind: kind, Value: v}); s != "" || err != api.ErrKind {
					t.Errorf("Text of kind %d, label %d, value %d: %q, %v", kind, l, v, s, err)
				}
			}
		}
	}
}

// wrongLabels are strings that are not the text of a label.
func wrongLabels() []string {
	return []string{"", "{", "}", "0", "{0", "0}", "{,}", "{0,}", "{,0}", "{00}", "{01}", "{1,0}", "{1,1}", "{64}", "{0,64}", "{18446744073709551616}", "{-1}", "{+1}", "{-0}", "{ }", "{0 }", "{0, 1}", "{0;1}", "{{}}", "{}{}", "{0}{1}", "{0}x", "x{0}", "{a}", "[0]", "(0)", "{\x00}"}
}

// wrongNumbers are strings that are not a decimal number as it is written.
func wrongNumbers() []string {
	return []string{"", "-", "+", "-0", "+0", "+1", "00", "01", "-01", "007", "--1", "+-1", "1-", "1.", "1.0", ".5", "1e3", "0x1", "0X1", "0b1", "0o1", "1_0", "1,0", "x", "1x", "x1", "1 ", " 1", "1\n", "\t1", "1\x00", "1#", "#1", "é", "１", "١", "9223372036854775808000", "18446744073709551616", "18446744073709551617", "36893488147419103233", "99999999999999999999", "-99999999999999999999", strings.Repeat("9", 400), strings.Repeat("0", 400) + "1"}
}

// unread checks that Read refuses s.
func unread(t *testing.T, s string) {
	t.Helper()
	if e, err := event.Read(s); e != (api.Event{}) || err != api.ErrForm {
		t.Errorf("Read(%q) = %v, %v", s, e, err)
	}
}

// TestP3_2Refused: each part in a form that Text does not write, alone and with the other parts wrong, too.
func TestP3_2Refused(t *testing.T) {
	wrong := []string{"", "a", "z", "AA", "AZ", "@", "[", "0", "25", "É", "\xc3", "\x00", "{}", "A{", " "}
	for _, letter := range wrong {
		for _, l := range append(wrongLabels(), "{}", "{0,2}") {
			for _, v := range append(wrongNumbers(), "0", "-2") {
				unread(t, letter+" "+l+" "+v)
			}
		}
	}
	for _, l := range wrongLabels() {
		for _, v := range append(wrongNumbers(), "0", "7", "-2") {
			unread(t, "A "+l+" "+v)
			unread(t, "C "+l+" "+v)
		}
	}
	for _, v := range append(wrongNumbers(), "9223372036854775808", "-9223372036854775809", "18446744073709551615", "-18446744073709551615") {
		unread(t, "A {} "+v)
		unread(t, "C {0,2} "+v)
	}
}

// TestP3_2Blanks: exactly one blank stands between two parts, and none elsewhere.
func TestP3_2Blanks(t *testing.T) {
	for _, s := range []string{
		"", " ", "  ", "A", "A ", "A {}", "A {} ", "{} 0", "A 0", "A{}0", "A{} 0", "A {}0", "A  {} 0", "A {}  0", " A {} 0", "A {} 0 ", "A {} 0\n", "\nA {} 0", "A\t{} 0", "A {}\t0", "A\u00a0{} 0", "A_{}_0", "A,{},0", "A {} 0 0", "A {} 0 A {} 0", "A {} {} 0", "A A {} 0", "A {} - 2", "A {0, 2} 1", "0 {} A", "{} A 0", "A 0 {}", "{}#1", "A {}#1", "A {}#1 0",
	} {
		unread(t, s)
	}
	unread(t, strings.Repeat(" ", 1<<20))
	unread(t, "A {} "+strings.Repeat("1", 1<<20))
	unread(t, "A {"+strings.Repeat("1", 1<<20)+"} 1")
	unread(t, strings.Repeat("A", 1<<20))
}

// changes yields s with one byte changed, put in or left out, for a choice of bytes that mean something in texts.
func changes(s string) iter.Seq[string] {
	const bytes = "ABZ[@az {},#0123459-+x.\x00\n\xff"
	return func(yield func(string) bool) {
		for i := range len(s) + 1 {
			for j := range len(bytes) {
				if !yield(s[:i] + bytes[j:j+1] + s[i:]) {
					return
				}
				if i < len(s) && !yield(s[:i]+bytes[j:j+1]+s[i+1:]) {
					return
				}
			}
			if i < len(s) && !yield(s[:i]+s[i+1:]) {
				return
			}
		}
	}
}

// shortStrings yields all strings of at most this length of these bytes.
func shortStrings(bytes string, most int) iter.Seq[string] {
	return func(yield func(string) bool) {
		level := []string{""}
		for n := 0; ; n++ {
			if slices.ContainsFunc(level, func(s string) bool { return !yield(s) }) || n == most {
				return
			}
			var next []string
			for _, s := range level {
				for i := range len(bytes) {
					next = append(next, s+bytes[i:i+1])
				}
			}
			level = next
		}
	}
}

// onlyItself checks that s is refused, or read as a sound event with this text.
func onlyItself(t *testing.T, s string) {
	t.Helper()
	e, err := event.Read(s)
	if err != api.OK {
		if err != api.ErrForm || e != (api.Event{}) {
			t.Errorf("Read(%q) = %v, %v", s, e, err)
		}
		return
	}
	if e.Kind < 0 || e.Kind > 25 || s != alphabet[e.Kind:e.Kind+1]+" "+labelText(e.Label)+" "+strconv.FormatInt(e.Value, 10) {
		t.Errorf("Read(%q) = %v", s, e)
	}
}

// TestP3_6Back: texts of events are read back, and different events have different texts.
func TestP3_6Back(t *testing.T) {
	of := map[string]api.Event{}
	for _, e := range events() {
		s, err := event.Text(e)
		if got, e2 := event.Read(s); got != e || err != api.OK || e2 != api.OK {
			t.Errorf("Read of the text %q of %v: %v, %v, %v", s, e, got, err, e2)
		}
		if x, ok := of[s]; ok {
			t.Errorf("%v and %v have the text %q", e, x, s)
		}
		of[s] = e
	}
}

// TestP3_6Only: of all short strings, and of those near to a text (two changes away from short ones, one from long ones), only texts are read.
func TestP3_6Only(t *testing.T) {
	read := 0
	for s := range shortStrings("AB{}1 -", 7) {
		onlyItself(t, s)
		if _, err := event.Read(s); err == api.OK {
			read++
		}
	}
	// Up to 7 bytes: A or B with {} and 1, 11 or -1, or with {1} and 1.
	if read != 8 {
		t.Errorf("%d short strings are read", read)
	}
	for _, s := range []string{"A {} 0", "Z {} -1", "C {0,2} -2", "B {9,10} 10", "Z {63} 9223372036854775807", "M {5} -9223372036854775808"} {
		for x := range changes(s) {
			onlyItself(t, x)
			if len(s) > 9 {
				continue
			}
			for y := range changes(x) {
				onlyItself(t, y)
			}
		}
	}
}
