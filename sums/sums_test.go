package sums_test

import (
	"math"
	"slices"
	"testing"

	"partywall/api"
	"partywall/sums"
)

const (
	greatest = int64(math.MaxInt64)
	least    = int64(math.MinInt64)
	half     = int64(1)<<32 - 1
)

// numbers are those beside all powers of 2, above 0 and below, and some others.
func numbers() []int64 {
	l := []int64{0, greatest, least, least + 1, 7, 10, 100, 3037000499, 3037000500, 3074457345618258602, 3074457345618258603, 1317624576693539401, 1317624576693539402, 0x0123456789abcdef, 0x5555555555555555}
	for i := range 63 {
		l = append(l, 1<<i-1, 1<<i, 1<<i+1)
	}
	for _, n := range slices.Clone(l) {
		l = append(l, -n)
	}
	slices.Sort(l)
	return slices.Compact(l)
}

// exact returns top times 2^64 and high times 2^32 and low, or ErrSum if this is no number.
func exact(top, high, low int64) (int64, api.Errno) {
	high += low >> 32
	top += high >> 32
	high, low = high&half, low&half
	if top == 0 && high < 1<<31 || top == -1 && high >= 1<<31 {
		return high<<32 | low, api.OK
	}
	return 0, api.ErrSum
}

// plainSum adds by halves.
func plainSum(a, b int64) (int64, api.Errno) { return exact(0, a>>32+b>>32, a&half+b&half) }

// plainRest subtracts by halves.
func plainRest(a, b int64) (int64, api.Errno) { return exact(0, a>>32-b>>32, a&half-b&half) }

// plainProduct multiplies by halves, each with each.
func plainProduct(a, b int64) (int64, api.Errno) {
	first, second, low := (a>>32)*(b&half), (a&half)*(b>>32), uint64(a&half)*uint64(b&half)
	return exact((a>>32)*(b>>32)+first>>32+second>>32, first&half+second&half+int64(low>>32), int64(low)&half)
}

// TestP5_1Pairs: Add, Sub and Mul return the exact result, or ErrSum if that is no number.
func TestP5_1Pairs(t *testing.T) {
	for name, c := range map[string]struct {
		got, want func(a, b int64) (int64, api.Errno)
	}{
		"Add": {sums.Add, plainSum}, "Sub": {sums.Sub, plainRest}, "Mul": {sums.Mul, plainProduct},
	} {
		for _, a := range numbers() {
			for _, b := range numbers() {
				got, e := c.got(a, b)
				if want, err := c.want(a, b); got != want || e != err {
					t.Fatalf("%s(%d, %d) = %d, %v, not %d, %v", name, a, b, got, e, want, err)
				}
			}
		}
	}
}

// TestP5_1Ends: results at the ends of the numbers, and one beyond them.
func TestP5_1Ends(t *testing.T) {
	for i, c := range []struct{ got, want []any }{
		{single(sums.Add(greatest, 1)), []any{api.ErrSum}}, {single(sums.Add(greatest-1, 1)), []any{greatest}}, {single(sums.Add(least, -1)), []any{api.ErrSum}}, {single(sums.Add(least+1, -1)), []any{least}},
		{single(sums.Add(least, least)), []any{api.ErrSum}}, {single(sums.Add(greatest, greatest)), []any{api.ErrSum}}, {single(sums.Add(least/2, least/2)), []any{least}},
		{single(sums.Sub(greatest, -1)), []any{api.ErrSum}}, {single(sums.Sub(least, 1)), []any{api.ErrSum}}, {single(sums.Sub(least, least)), []any{int64(0)}}, {single(sums.Sub(-1, greatest)), []any{least}}, {single(sums.Sub(-2, greatest)), []any{api.ErrSum}},
		{single(sums.Mul(1<<31, 1<<32)), []any{api.ErrSum}}, {single(sums.Mul(-1<<31, -1<<32)), []any{api.ErrSum}}, {single(sums.Mul(-1<<31, 1<<32)), []any{least}}, {single(sums.Mul(least, 1)), []any{least}}, {single(sums.Mul(1, least)), []any{least}},
		{single(sums.Mul(-1, least)), []any{api.ErrSum}}, {single(sums.Mul(least, 0)), []any{int64(0)}}, {single(sums.Mul(7, greatest/7)), []any{greatest}}, {single(sums.Mul(-7, greatest/7+1)), []any{api.ErrSum}}, {single(sums.Mul(least, least)), []any{api.ErrSum}},
		{single(sums.Mul(greatest, greatest)), []any{api.ErrSum}}, {single(sums.Mul(1<<32, 1<<32)), []any{api.ErrSum}},
	} {
		if !slices.Equal(c.got, c.want) {
			t.Errorf("result %d: %v, not %v", i, c.got, c.want)
		}
	}
}

// TestP5_1Neg: -a, but for the least number.
func TestP5_1Neg(t *testing.T) {
	for _, a := range numbers() {
		got, e := sums.Neg(a)
		if want, err := plainRest(0, a); got != want || e != err || (e != api.OK) != (a == least) {
			t.Errorf("Neg(%d) = %d, %v", a, got, e)
		}
	}
}

// lists yields lists of numbers whose running sums are all numbers, and others.
func lists(yield func([]int64) bool) {
	few := []int64{greatest, least, 0, 1, -1, least + 1, greatest - 1, 1 << 62, -1 << 62}
	for first := range len(few) + 1 {
		for second := range len(few) + 1 {
			for third := range len(few) + 1 {
				var l []int64
				for _, i := range []int{first, second, third} {
					if i < len(few) {
						l = append(l, few[i])
					}
				}
				if !yield(l) || !yield(append([]int64{3}, l...)) {
					return
				}
			}
		}
	}
}

// plainRunning returns the sums of all beginnings but the empty one, up to the one that is no number.
func plainRunning(l []int64) ([]int64, api.Errno) {
	var running []int64
	sum := int64(0)
	for _, n := range l {
		var e api.Errno
		if sum, e = plainSum(sum, n); e != api.OK {
			return running, e
		}
		running = append(running, sum)
	}
	return running, api.OK
}

// TestP5_1Running: the running sums up to the one that fails, and ErrSum then.
func TestP5_1Running(t *testing.T) {
	for l := range lists {
		got, e := sums.Running(l)
		if want, err := plainRunning(l); !slices.Equal(got, want) || e != err {
			t.Fatalf("Running(%v) = %v, %v, not %v, %v", l, got, e, want, err)
		}
	}
	for _, c := range []struct {
		l, want []int64
		e       api.Errno
	}{
		{nil, nil, api.OK}, {[]int64{}, nil, api.OK}, {[]int64{0}, []int64{0}, api.OK}, {[]int64{least}, []int64{least}, api.OK}, {[]int64{5, -7, 2, 0}, []int64{5, -2, 0, 0}, api.OK}, {[]int64{least, greatest, 1}, []int64{least, -1, 0}, api.OK},
		// What comes after the one that fails is not added to anything.
		{[]int64{greatest, 1, -1, 5}, []int64{greatest}, api.ErrSum}, {[]int64{-2, least, 9}, []int64{-2}, api.ErrSum}, {[]int64{1, 2, greatest}, []int64{1, 3}, api.ErrSum},
	} {
		if got, e := sums.Running(c.l); !slices.Equal(got, c.want) || e != c.e {
			t.Errorf("Running(%v) = %v, %v", c.l, got, e)
		}
	}
}

// TestP5_1Sum: the sum, or ErrSum if a running sum is none, also where all of them together have one.
func TestP5_1Sum(t *testing.T) {
	for l := range lists {
		want := int64(0)
		running, err := plainRunning(l)
		if err == api.OK && len(running) > 0 {
			want = running[len(running)-1]
		}
		if got, e := sums.Sum(l...); got != want || e != err {
			t.Fatalf("Sum(%v) = %d, %v, not %d, %v", l, got, e, want, err)
		}
	}
	for _, c := range []struct {
		l    []int64
		want int64
		e    api.Errno
	}{
		{nil, 0, api.OK}, {[]int64{}, 0, api.OK}, {[]int64{least}, least, api.OK}, {[]int64{greatest, -1, 1}, greatest, api.OK}, {[]int64{greatest, 1, -1}, 0, api.ErrSum}, {[]int64{-1, 1, greatest}, greatest, api.OK}, {[]int64{least, -1, 1}, 0, api.ErrSum},
		{slices.Repeat([]int64{1 << 53}, 1023), 1023 << 53, api.OK}, {slices.Repeat([]int64{1 << 53}, 1024), 0, api.ErrSum}, {slices.Repeat([]int64{-1 << 53}, 1024), least, api.OK}, {slices.Repeat([]int64{greatest, -greatest}, 5000), 0, api.OK},
	} {
		if got, e := sums.Sum(c.l...); got != c.want || e != c.e {
			t.Errorf("Sum of %d numbers: %d, %v", len(c.l), got, e)
		}
	}
}

// plainCut adds up what the lowest bits stand for, the highest one of them below 0.
func plainCut(n int64, count int) int64 {
	cut := int64(0)
	for i := range count - 1 {
		cut += n >> i & 1 << i
	}
	return cut - n>>(count-1)&1<<(count-1)
}

// TestP5_4Cut: the number that the lowest bits are, the highest one of them being the sign.
func TestP5_4Cut(t *testing.T) {
	for _, n := range numbers() {
		for count := 1; count <= 64; count++ {
			want := plainCut(n, count)
			if got, same, e := sums.Cut(n, count); got != want || same != (want == n) || e != api.OK {
				t.Fatalf("Cut(%d, %d) = %d, %v, %v, not %d", n, count, got, same, e, want)
			}
		}
		for _, count := range []int{0, -1, 65, 66, 128, -63, -64, 1 << 32, 1<<32 + 1, math.MaxInt, math.MinInt, math.MinInt + 1} {
			if got, same, e := sums.Cut(n, count); got != 0 || same || e != api.ErrRange {
				t.Fatalf("Cut(%d, %d) = %d, %v, %v", n, count, got, same, e)
			}
		}
	}
	for _, c := range []struct {
		n     int64
		count int
		want  int64
		same  bool
	}{
		{127, 8, 127, true}, {128, 8, -128, false}, {-128, 8, -128, true}, {-129, 8, 127, false}, {256, 8, 0, false}, {1, 1, -1, false}, {0, 1, 0, true}, {2, 1, 0, false}, {greatest, 64, greatest, true}, {least, 64, least, true}, {greatest, 63, -1, false}, {least, 63, 0, false},
	} {
		if got, same, e := sums.Cut(c.n, c.count); got != c.want || same != c.same || e != api.OK {
			t.Errorf("Cut(%d, %d) = %d, %v, %v", c.n, c.count, got, same, e)
		}
	}
}

// TestR4: the numbers that are given are not changed, and results share no memory with them or with each other.
func TestR4(t *testing.T) {
	l := []int64{4, 5, greatest, 6}
	given := l[:2]
	first, _ := sums.Running(given)
	second, _ := sums.Running(given)
	sums.Sum(l...)
	if !slices.Equal(l, []int64{4, 5, greatest, 6}) {
		t.Error("an argument was changed:", l)
	}
	first[0], first[1] = 8, 8
	_ = append(first, 7)
	if !slices.Equal(l, []int64{4, 5, greatest, 6}) || !slices.Equal(second, []int64{4, 9}) {
		t.Error("a result shares memory:", l, second)
	}
	l[0] = 1
	if !slices.Equal(second, []int64{4, 9}) {
		t.Error("a result keeps an argument:", second)
	}
}
