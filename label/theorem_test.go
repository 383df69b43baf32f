package label_test

import (
	"slices"
	"testing"

	"partywall/api"
	"partywall/label"
)

// TestP1_5Order: being at most is reflexive, antisymmetric and transitive.
func TestP1_5Order(t *testing.T) {
	for _, a := range samples() {
		if !label.Below(a, a) || !label.Comparable(a, a) {
			t.Error("not at most itself:", a)
		}
		for _, b := range samples() {
			if label.Below(a, b) && label.Below(b, a) && a != b {
				t.Error("each is at most the other one:", a, b)
			}
			for _, c := range samples() {
				if label.Below(a, b) && label.Below(b, c) && !label.Below(a, c) {
					t.Error("not transitive:", a, b, c)
				}
			}
		}
	}
}

// TestP1_5Bounds: the join is the least label above both, the meet the greatest one below both.
func TestP1_5Bounds(t *testing.T) {
	for _, a := range samples() {
		for _, b := range samples() {
			join, meet := label.Join(a, b), label.Meet(a, b)
			if !label.Below(a, join) || !label.Below(b, join) || !label.Below(meet, a) || !label.Below(meet, b) {
				t.Error("no bounds:", a, b, join, meet)
			}
			for _, c := range samples() {
				if label.Below(a, c) && label.Below(b, c) && !label.Below(join, c) {
					t.Error("the join is not the least:", a, b, c)
				}
				if label.Below(c, a) && label.Below(c, b) && !label.Below(c, meet) {
					t.Error("the meet is not the greatest:", a, b, c)
				}
			}
		}
	}
}

// TestP1_6Laws: order and repetition of labels do not count; join and meet absorb each other.
func TestP1_6Laws(t *testing.T) {
	for _, a := range samples() {
		for _, b := range samples() {
			if label.Join(a, label.Meet(a, b)) != a || label.Meet(a, label.Join(a, b)) != a {
				t.Error("not absorbed:", a, b)
			}
			for _, c := range samples() {
				join, meet := label.Join(a, b, c), label.Meet(a, b, c)
				for _, l := range [][]uint64{{a, c, b}, {b, a, c}, {b, c, a}, {c, a, b}, {c, b, a}, {a, a, b, c}, {c, b, c, a, b, a}} {
					if label.Join(l...) != join || label.Meet(l...) != meet {
						t.Error("the order or repetition counts:", l)
					}
				}
				if label.Join(label.Join(a, b), c) != join || label.Meet(label.Meet(a, b), c) != meet {
					t.Error("not associative:", a, b, c)
				}
			}
		}
	}
}

// TestP1_7Without: what is without b is at most a and has nothing of b; joined with the meet it is a.
func TestP1_7Without(t *testing.T) {
	for _, a := range samples() {
		for _, b := range samples() {
			x := label.Without(a, b)
			if !label.Below(x, a) || label.Meet(x, b) != 0 || label.Join(x, label.Meet(a, b)) != a {
				t.Error(a, b, x)
			}
		}
	}
}

// TestP1_8Back: labels are read back from their lists, texts and bytes.
func TestP1_8Back(t *testing.T) {
	l := samples()
	for i := range 64 {
		l = append(l, 1<<i, all>>i, all<<i, all&^(1<<i))
	}
	for _, a := range l {
		if b, e := label.Of(label.List(a)...); b != a || e != api.OK {
			t.Error("list:", a, b, e)
		}
		if b, f := label.Parse(label.Text(a)); b != a || f != (api.Fault{}) {
			t.Error("text:", a, b, f)
		}
		if b, e := label.Of8(label.Bytes(a)); b != a || e != api.OK {
			t.Error("bytes:", a, b, e)
		}
	}
}

// TestP1_8Only: of all short strings only the texts of labels are read, and each fault lies within its string.
func TestP1_8Only(t *testing.T) {
	for s := range shortStrings("{},0136 ", 6) {
		l, f := label.Parse(s)
		x, used, g := label.Read(s)
		switch {
		case f == api.Fault{} && (label.Text(l) != s || x != l || used != len(s) || g != f):
			t.Errorf("%q is read as %d", s, l)
		case f.Err == api.ErrLong && (l != 0 || used != f.At || g != (api.Fault{}) || label.Text(x) != s[:used]):
			t.Errorf("%q: %d %v, %d %d %v", s, l, f, x, used, g)
		case f.Err != api.OK && f.Err != api.ErrLong && (l != 0 || x != 0 || used != 0 || g != f):
			t.Errorf("%q: %d %v, %d %d %v", s, l, f, x, used, g)
		case f.At < 0 || f.At > len(s):
			t.Errorf("%q: fault at %d", s, f.At)
		}
	}
}

// TestP1_8Bytes: 8 bytes are those of the label that is read from them.
func TestP1_8Bytes(t *testing.T) {
	for i := range 8 {
		for b := range 256 {
			s := []byte("\x01\x80\xff\x00\x7f\x10\xfe\x02")
			s[i] = byte(b)
			if l, e := label.Of8(string(s)); e != api.OK || label.Bytes(l) != string(s) {
				t.Error(s, l, e)
			}
		}
	}
}

// shortStrings yields all strings of at most this length of these bytes.
func shortStrings(bytes string, most int) func(yield func(string) bool) {
	return func(yield func(string) bool) {
		level := []string{""}
		for n := 0; ; n++ {
			if slices.ContainsFunc(level, func(s string) bool { return !yield(s) }) || n == most {
				return
			}
			var next []string
			for _, s := range level {
				for i := range len(bytes) {
					next = append(next, s+bytes[i:i+1])
				}
			}
			level = next
		}
	}
}
