package bits_test

import (
	"math"
	"slices"
	"testing"

	"weighbridge/api"
	"weighbridge/bits"
)

// digits is a bitmap spelt out: whether each bit is set, worked out by halving, without shifts and masks.
type digits [64]bool

func spell(b uint64) digits {
	var d digits
	for i := range d {
		d[i] = b%2 == 1
		b /= 2
	}
	return d
}

// value is the bitmap that d spells.
func (d digits) value() uint64 {
	var b uint64
	for i := 63; i >= 0; i-- {
		b *= 2
		if d[i] {
			b++
		}
	}
	return b
}

// indices are the set ones of d, in ascending order.
func (d digits) indices() []int {
	var list []int
	for i, set := range d {
		if set {
			list = append(list, i)
		}
	}
	return list
}

// bitmaps are those at the edges, each bit alone, each bit missing, and some mixed ones.
func bitmaps() []uint64 {
	list := []uint64{0, 0b1010, 5, 7, 1<<63 | 1, 1<<63 - 1, 1<<32 - 1, 1<<32 | 1<<31, 0xaaaaaaaaaaaaaaaa, 0x5555555555555555, 0x0123456789abcdef, api.Top - 1, api.Top}
	power := uint64(1)
	for range 64 {
		list = append(list, power, api.Top-power)
		power *= 2
	}
	return list
}

// outside are indices that no bit has; some are the index of a bit in their lowest six, eight or 32 bits.
func outside() []int {
	return []int{-1, -2, -63, -64, -65, -128, math.MinInt, math.MinInt + 1, math.MinInt + 63, 64, 65, 127, 128, 256, 1 << 31, 1 << 32, 1<<32 + 1, 1 << 62, math.MaxInt - 63, math.MaxInt - 1, math.MaxInt}
}

// indices are all that a bit has, and those outside.
func indices() []int {
	list := outside()
	for i := range 64 {
		list = append(list, i)
	}
	return list
}

func inside(i int) bool { return i >= 0 && i <= 63 }

// P3.1: every index in every bitmap.
func TestOneBit(t *testing.T) {
	for _, b := range bitmaps() {
		for _, i := range indices() {
			with, without, has := spell(b), spell(b), false
			if inside(i) {
				has = with[i]
				with[i], without[i] = true, false
			}
			if got := bits.With(b, i); got != with.value() {
				t.Errorf("P3.1: With(%#x, %d) = %#x; want %#x", b, i, got, with.value())
			}
			if got := bits.Without(b, i); got != without.value() {
				t.Errorf("P3.1: Without(%#x, %d) = %#x; want %#x", b, i, got, without.value())
			}
			if got := bits.Has(b, i); got != has {
				t.Errorf("P3.1: Has(%#x, %d) = %v; want %v", b, i, got, has)
			}
		}
	}
}

// P3.1: rows written out: the bitmaps at the edges by the indices at the edges.
func TestOneBitRows(t *testing.T) {
	const high = 1 << 63
	for _, x := range []struct {
		b             uint64
		i             int
		with, without uint64
		has           bool
	}{
		{0, math.MinInt, 0, 0, false},
		{0, -1, 0, 0, false},
		{0, 0, 1, 0, false},
		{0, 63, high, 0, false},
		{0, 64, 0, 0, false},
		{0, math.MaxInt, 0, 0, false},
		{1, math.MinInt, 1, 1, false},
		{1, -1, 1, 1, false},
		{1, 0, 1, 0, true},
		{1, 63, high + 1, 1, false},
		{1, 64, 1, 1, false},
		{1, math.MaxInt, 1, 1, false},
		{high, math.MinInt, high, high, false},
		{high, -1, high, high, false},
		{high, 0, high + 1, high, false},
		{high, 63, high, 0, true},
		{high, 64, high, high, false},
		{high, math.MaxInt, high, high, false},
		{api.Top, math.MinInt, api.Top, api.Top, false},
		{api.Top, -1, api.Top, api.Top, false},
		{api.Top, 0, api.Top, api.Top - 1, true},
		{api.Top, 63, api.Top, high - 1, true},
		{api.Top, 64, api.Top, api.Top, false},
		{api.Top, math.MaxInt, api.Top, api.Top, false},
		{5, 1, 7, 5, false},
		{7, 1, 7, 5, true},
	} {
		if got := bits.With(x.b, x.i); got != x.with {
			t.Errorf("P3.1: With(%#x, %d) = %#x; want %#x", x.b, x.i, got, x.with)
		}
		if got := bits.Without(x.b, x.i); got != x.without {
			t.Errorf("P3.1: Without(%#x, %d) = %#x; want %#x", x.b, x.i, got, x.without)
		}
		if got := bits.Has(x.b, x.i); got != x.has {
			t.Errorf("P3.1: Has(%#x, %d) = %v; want %v", x.b, x.i, got, x.has)
		}
	}
}

// P3.2: every index in every bitmap, against a walk over all set bits.
func TestNear(t *testing.T) {
	for _, b := range bitmaps() {
		for _, at := range indices() {
			next, last := -1, -1
			for _, i := range spell(b).indices() {
				if i >= at && next == -1 {
					next = i
				}
				if i <= at {
					last = i
				}
			}
			if got := bits.Next(b, at); got != next {
				t.Errorf("P3.2: Next(%#x, %d) = %d; want %d", b, at, got, next)
			}
			if got := bits.Last(b, at); got != last {
				t.Errorf("P3.2: Last(%#x, %d) = %d; want %d", b, at, got, last)
			}
		}
	}
}

// P3.2: rows written out: both examples, and the bitmaps at the edges by the indices at the edges.
func TestNearRows(t *testing.T) {
	for _, x := range []struct {
		b          uint64
		at         int
		next, last int
	}{
		{0b1010, 2, 3, 1},
		{0b1010, 1, 1, 1},
		{0b1010, 0, 1, -1},
		{0b1010, 4, -1, 3},
		{0, math.MinInt, -1, -1},
		{0, -1, -1, -1},
		{0, 0, -1, -1},
		{0, 63, -1, -1},
		{0, 64, -1, -1},
		{0, math.MaxInt, -1, -1},
		{1, math.MinInt, 0, -1},
		{1, -1, 0, -1},
		{1, 0, 0, 0},
		{1, 63, -1, 0},
		{1, 64, -1, 0},
		{1, math.MaxInt, -1, 0},
		{1 << 63, math.MinInt, 63, -1},
		{1 << 63, -1, 63, -1},
		{1 << 63, 0, 63, -1},
		{1 << 63, 62, 63, -1},
		{1 << 63, 63, 63, 63},
		{1 << 63, 64, -1, 63},
		{1 << 63, math.MaxInt, -1, 63},
		{api.Top, math.MinInt, 0, -1},
		{api.Top, -1, 0, -1},
		{api.Top, 0, 0, 0},
		{api.Top, 17, 17, 17},
		{api.Top, 63, 63, 63},
		{api.Top, 64, -1, 63},
		{api.Top, math.MaxInt, -1, 63},
	} {
		if got := bits.Next(x.b, x.at); got != x.next {
			t.Errorf("P3.2: Next(%#x, %d) = %d; want %d", x.b, x.at, got, x.next)
		}
		if got := bits.Last(x.b, x.at); got != x.last {
			t.Errorf("P3.2: Last(%#x, %d) = %d; want %d", x.b, x.at, got, x.last)
		}
	}
}

// P3.2: the number of the set bits, and which they are.
func TestAll(t *testing.T) {
	for _, b := range bitmaps() {
		want := spell(b).indices()
		if got := bits.Many(b); got != len(want) {
			t.Errorf("P3.2: Many(%#x) = %d; want %d", b, got, len(want))
		}
		if got := bits.All(b); !slices.Equal(got, want) {
			t.Errorf("P3.2: All(%#x) = %v; want %v", b, got, want)
		}
	}
}

// P3.2: rows written out.
func TestAllRows(t *testing.T) {
	for _, x := range []struct {
		b    uint64
		want []int
	}{
		{0, nil},
		{1, []int{0}},
		{1 << 63, []int{63}},
		{1<<63 | 1, []int{0, 63}},
		{0b1010, []int{1, 3}},
		{1<<62 | 1<<32 | 1<<31 | 1<<7, []int{7, 31, 32, 62}},
	} {
		if got := bits.All(x.b); !slices.Equal(got, x.want) || bits.Many(x.b) != len(x.want) {
			t.Errorf("P3.2: All(%#x) = %v, Many %d; want %v", x.b, got, bits.Many(x.b), x.want)
		}
	}
	full := bits.All(api.Top)
	if len(full) != 64 || full[0] != 0 || full[63] != 63 || bits.Many(api.Top) != 64 {
		t.Errorf("P3.2: All of all bits = %v, Many %d", full, bits.Many(api.Top))
	}
}

// R3: a list that was handed out is the caller's own.
func TestAllIsNew(t *testing.T) {
	first, second := bits.All(0b1010), bits.All(0b1010)
	first[0] = 9
	if third := bits.All(0b1010); second[0] != 1 || third[0] != 1 {
		t.Errorf("P3.2: All(0b1010) = %v, then %v, after a write to an earlier one", second, third)
	}
}

// What follows: All yields what repeated calls of Next find; downwards, what repeated calls of Last find.
func TestWhatFollows(t *testing.T) {
	for _, b := range bitmaps() {
		var up, down []int
		for i := bits.Next(b, 0); i != -1 && len(up) < 65; i = bits.Next(b, i+1) {
			up = append(up, i)
		}
		for i := bits.Last(b, 63); i != -1 && len(down) < 65; i = bits.Last(b, i-1) {
			down = append(down, i)
		}
		slices.Reverse(down)
		if got := bits.All(b); !slices.Equal(got, up) || !slices.Equal(got, down) {
			t.Errorf("All(%#x) = %v; Next finds %v, Last finds %v", b, got, up, down)
		}
	}
}
