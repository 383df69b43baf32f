package event_test

import (
	"strconv"
	"strings"
	"testing"

	"partywall/api"
	"partywall/event"
)

// ids are Ids with all labels and counts, and with numbers that are not sound.
func ids() []api.Id {
	var l []api.Id
	for _, x := range labels() {
		for _, n := range append(counts(), notCounts()...) {
			l = append(l, api.Id{Label: x, No: n})
		}
	}
	return l
}

// isSound says whether the number of an Id is from 1 to MaxCount.
func isSound(id api.Id) bool { return id.No >= 1 && id.No <= most }

// TestP3_3CheckId: the number alone says whether an Id is sound.
func TestP3_3CheckId(t *testing.T) {
	for _, id := range ids() {
		want := api.ErrRange
		if isSound(id) {
			want = api.OK
		}
		if e := event.CheckId(id); e != want {
			t.Errorf("CheckId(%v) = %v", id, e)
		}
	}
}

// TestP3_3IdText: the label, # and the number, and that they are read; no text for an Id that is not sound.
func TestP3_3IdText(t *testing.T) {
	for _, id := range ids() {
		text := labelText(id.Label) + "#" + strconv.FormatUint(id.No, 10)
		s, e := event.IdText(id)
		got, e2 := event.ReadId(text)
		switch {
		case isSound(id) && (s != text || e != api.OK || got != id || e2 != api.OK):
			t.Errorf("IdText(%v) = %q, %v, ReadId(%q) = %v, %v", id, s, e, text, got, e2)
		case !isSound(id) && (s != "" || e != api.ErrRange || got != api.Id{} || e2 != api.ErrForm):
			t.Errorf("IdText(%v) = %q, %v, ReadId(%q) = %v, %v", id, s, e, text, got, e2)
		}
	}
}

// TestP3_3Literal: some Ids whose texts are written out.
func TestP3_3Literal(t *testing.T) {
	for s, id := range map[string]api.Id{"{}#1": {No: 1}, "{0,2}#10": {Label: 5, No: 10}, "{63}#1099511627776": {Label: high, No: most}, "{9,10}#1099511627775": {Label: 3 << 9, No: most - 1}} {
		if got, e := event.IdText(id); got != s || e != api.OK {
			t.Errorf("IdText(%v) = %q, %v", id, got, e)
		}
		if got, e := event.ReadId(s); got != id || e != api.OK {
			t.Errorf("ReadId(%q) = %v, %v", s, got, e)
		}
	}
}

// unreadId checks that ReadId refuses s.
func unreadId(t *testing.T, s string) {
	t.Helper()
	if id, e := event.ReadId(s); id != (api.Id{}) || e != api.ErrForm {
		t.Errorf("ReadId(%q) = %v, %v", s, id, e)
	}
}

// TestP3_3Refused: each part in a form that IdText does not write, or out of range.
func TestP3_3Refused(t *testing.T) {
	numbers := append(wrongNumbers(), "0", "-1", "-2", "1099511627777", "1099511627776000", "2199023255552", "2199023255553", "9223372036854775807", "9223372036854775809", "18446744073709551615")
	for _, n := range numbers {
		unreadId(t, "{}#"+n)
		unreadId(t, "{0,2}#"+n)
	}
	for _, l := range wrongLabels() {
		for _, n := range append(numbers, "1", "12") {
			unreadId(t, l+"#"+n)
		}
	}
	for _, s := range []string{
		"", "#", "##", "{}", "{}#", "#1", "1", "{}1", "{} 1", "{}##1", "{}# 1", "{} #1", " {}#1", "{}#1 ", "{}#1\n", "{}#1#", "{}#1#1", "#{}#1", "{}:1", "1#{}", "{}#1{}", "{}#{}#1", "{}#A", "A {} 1", "A {}#1", "{}#1.0", "{}＃1",
	} {
		unreadId(t, s)
	}
	unreadId(t, strings.Repeat("#", 1<<20))
	unreadId(t, "{}#"+strings.Repeat("1", 1<<20))
	unreadId(t, "{"+strings.Repeat("1", 1<<20)+"}#1")
}

// TestP3_3Compare: by label, as numbers without a sign, then by number, also for Ids that are not sound.
func TestP3_3Compare(t *testing.T) {
	for _, a := range ids() {
		for _, b := range ids() {
			want := 0
			switch {
			case a.Label < b.Label, a.Label == b.Label && a.No < b.No:
				want = -1
			case a.Label > b.Label, a.Label == b.Label && a.No > b.No:
				want = 1
			}
			if got := event.Compare(a, b); got != want {
				t.Errorf("Compare(%v, %v) = %d", a, b, got)
			}
		}
	}
}

// onlyItsId checks that s is refused, or read as a sound Id with this text.
func onlyItsId(t *testing.T, s string) {
	t.Helper()
	id, e := event.ReadId(s)
	if e != api.OK {
		if e != api.ErrForm || id != (api.Id{}) {
			t.Errorf("ReadId(%q) = %v, %v", s, id, e)
		}
		return
	}
	if !isSound(id) || s != labelText(id.Label)+"#"+strconv.FormatUint(id.No, 10) {
		t.Errorf("ReadId(%q) = %v", s, id)
	}
}

// TestP3_6Ids: texts of Ids are read back, different Ids have different texts, and of other strings none is read.
func TestP3_6Ids(t *testing.T) {
	of := map[string]api.Id{}
	for _, id := range ids() {
		if !isSound(id) {
			continue
		}
		s, e := event.IdText(id)
		if got, e2 := event.ReadId(s); got != id || e != api.OK || e2 != api.OK {
			t.Errorf("ReadId of the text %q of %v: %v, %v, %v", s, id, got, e, e2)
		}
		if x, ok := of[s]; ok {
			t.Errorf("%v and %v have the text %q", id, x, s)
		}
		of[s] = id
	}
	read := 0
	for s := range shortStrings("{}#01,-", 6) {
		onlyItsId(t, s)
		if _, e := event.ReadId(s); e == api.OK {
			read++
		}
	}
	// Up to 6 bytes: {} with 1, 10, 11, 100, 101, 110 or 111, {0} or {1} with 1, 10 or 11, and {10} or {11} with 1.
	if read != 15 {
		t.Errorf("%d short strings are read", read)
	}
	for _, s := range []string{"{}#1", "{}#12", "{0,2}#10", "{9,63}#1099511627776", "{5}#1099511627775"} {
		for x := range changes(s) {
			onlyItsId(t, x)
			for y := range changes(x) {
				onlyItsId(t, y)
			}
		}
	}
}

// TestP3_8Order: Compare is 0 for equal Ids alone, turned round for exchanged ones, and transitive.
func TestP3_8Order(t *testing.T) {
	var l []api.Id
	for _, x := range []uint64{0, 1, 2, high - 1, high, all} {
		for _, n := range []uint64{0, 1, 2, most, most + 1, high, all} {
			l = append(l, api.Id{Label: x, No: n})
		}
	}
	for _, a := range l {
		for _, b := range l {
			ab := event.Compare(a, b)
			if (ab == 0) != (a == b) || event.Compare(b, a) != -ab || ab < -1 || ab > 1 {
				t.Errorf("Compare(%v, %v) = %d", a, b, ab)
			}
			for _, c := range l {
				if ab <= 0 && event.Compare(b, c) <= 0 && event.Compare(a, c) > 0 {
					t.Errorf("not transitive: %v, %v, %v", a, b, c)
				}
			}
		}
	}
}
