package tag_test

import (
	"math"
	"math/big"
	"testing"

	"weighbridge/api"
	"weighbridge/tag"
)

// edges are numbers at which sums, products and halves turn over, and some ordinary ones.
func edges() []uint64 {
	list := []uint64{0, 3, 5, 6, 7, 10, 333, 1000, 65537, 6148914691236517204, 6148914691236517205, 6148914691236517206, api.Top - 1, api.Top}
	for _, k := range []uint{0, 1, 15, 16, 17, 30, 31, 32, 33, 34, 46, 47, 48, 61, 62, 63} {
		list = append(list, 1<<k-1, 1<<k, 1<<k+1)
	}
	return list
}

// capped turns an exact number into the word that the chapter asks for.
func capped(x *big.Int) uint64 {
	if x.IsUint64() {
		return x.Uint64()
	}
	return api.Top
}

func exact(a uint64) *big.Int { return new(big.Int).SetUint64(a) }

// P1.1: rows that can be read off the promise.
func TestAddRows(t *testing.T) {
	for _, x := range []struct{ a, b, want uint64 }{
		{0, 0, 0},
		{2, 3, 5},
		{api.Top, 0, api.Top},
		{0, api.Top, api.Top},
		{api.Top - 7, 6, api.Top - 1},
		{api.Top - 7, 7, api.Top},
		{api.Top - 7, 8, api.Top},
		{8, api.Top - 7, api.Top},
		{1 << 63, 1<<63 - 1, api.Top},
		{1 << 63, 1 << 63, api.Top},
		{api.Top, 1, api.Top},
		{1, api.Top, api.Top},
		{api.Top, api.Top, api.Top},
	} {
		if got := tag.Add(x.a, x.b); got != x.want {
			t.Errorf("P1.1: Add(%d, %d) = %d; want %d", x.a, x.b, got, x.want)
		}
	}
}

// P1.1: every pair of edges against exact arithmetic.
func TestAddExact(t *testing.T) {
	for _, a := range edges() {
		for _, b := range edges() {
			want := capped(new(big.Int).Add(exact(a), exact(b)))
			if got := tag.Add(a, b); got != want {
				t.Errorf("P1.1: Add(%d, %d) = %d; want %d", a, b, got, want)
			}
		}
	}
}

// What follows: a value that has reached Top stays there.
func TestAddStaysAtTop(t *testing.T) {
	for _, b := range edges() {
		if got := tag.Add(tag.Add(api.Top-b, b), b); got != api.Top {
			t.Errorf("P1.1: Add(Top, %d) = %d; want Top", b, got)
		}
	}
}

// P1.1: rows that can be read off the promise.
func TestMulRows(t *testing.T) {
	for _, x := range []struct{ a, b, want uint64 }{
		{0, 0, 0},
		{7, 6, 42},
		{0, api.Top, 0},
		{api.Top, 0, 0},
		{1, api.Top, api.Top},
		{api.Top, 1, api.Top},
		{api.Top, 2, api.Top},
		{api.Top, api.Top, api.Top},
		{3, 6148914691236517204, api.Top - 3},
		{3, 6148914691236517205, api.Top},
		{3, 6148914691236517206, api.Top},
		{1<<32 - 1, 1<<32 - 1, 18446744065119617025},
		{1<<32 - 1, 1<<32 + 1, api.Top},
		{1 << 32, 1<<32 - 1, api.Top - (1<<32 - 1)},
		{1 << 32, 1 << 32, api.Top},
		{1 << 31, 1 << 32, 1 << 63},
		// The high part fits, and the low part carries it above Top.
		{1<<32 + 3, 1<<32 - 2, api.Top},
		{api.MaxUnit, 3, 3 << 62},
		{api.MaxUnit, 4, api.Top},
	} {
		if got := tag.Mul(x.a, x.b); got != x.want {
			t.Errorf("P1.1: Mul(%d, %d) = %d; want %d", x.a, x.b, got, x.want)
		}
	}
}

// P1.1: every pair of edges against exact arithmetic.
func TestMulExact(t *testing.T) {
	for _, a := range edges() {
		for _, b := range edges() {
			want := capped(new(big.Int).Mul(exact(a), exact(b)))
			if got := tag.Mul(a, b); got != want {
				t.Errorf("P1.1: Mul(%d, %d) = %d; want %d", a, b, got, want)
			}
		}
	}
}

// P1.1: for each factor, the greatest other one whose product is at most Top, and the next.
func TestMulAroundTop(t *testing.T) {
	for _, a := range edges() {
		if a < 2 {
			continue
		}
		most := api.Top / a
		if got := tag.Mul(a, most); got != a*most {
			t.Errorf("P1.1: Mul(%d, %d) = %d; want %d", a, most, got, a*most)
		}
		if got := tag.Mul(a, most+1); got != api.Top {
			t.Errorf("P1.1: Mul(%d, %d) = %d; want Top", a, most+1, got)
		}
	}
}

// P1.2: quotients are rounded down, but are at least 1.
func TestInverseRows(t *testing.T) {
	for _, x := range []struct {
		unit   uint64
		weight int
		want   uint64
	}{
		{1000, 3, 333},
		{2, 3, 1},
		{1, 1, 1},
		{3, 3, 1},
		{5, 3, 1},
		{6, 3, 2},
		{1, api.MaxWeight, 1},
		{api.MaxWeight - 1, api.MaxWeight, 1},
		{2*api.MaxWeight - 1, api.MaxWeight, 1},
		{2 * api.MaxWeight, api.MaxWeight, 2},
		{api.MaxUnit - 1, 1, api.MaxUnit - 1},
		{api.MaxUnit, 1, api.MaxUnit},
		{api.MaxUnit, api.MaxWeight, 1 << 46},
		{api.MaxUnit - 1, api.MaxWeight, 1<<46 - 1},
	} {
		if got, ok := tag.Inverse(x.unit, x.weight); got != x.want || !ok {
			t.Errorf("P1.2: Inverse(%d, %d) = %d, %v; want %d, true", x.unit, x.weight, got, ok, x.want)
		}
	}
}

// P1.2: wrong inputs answer 0 and false, each beside a right other one and beside a wrong one.
func TestInverseWrong(t *testing.T) {
	wrongUnits := []uint64{0, api.MaxUnit + 1, 1 << 63, api.Top}
	wrongWeights := []int{0, -1, -3, math.MinInt, api.MaxWeight + 1, math.MaxInt}
	check := func(unit uint64, weight int) {
		if got, ok := tag.Inverse(unit, weight); got != 0 || ok {
			t.Errorf("P1.2: Inverse(%d, %d) = %d, %v; want 0, false", unit, weight, got, ok)
		}
	}
	for _, unit := range wrongUnits {
		for _, weight := range append([]int{1, 3, api.MaxWeight}, wrongWeights...) {
			check(unit, weight)
		}
	}
	for _, weight := range wrongWeights {
		for _, unit := range []uint64{1, 1000, api.MaxUnit} {
			check(unit, weight)
		}
	}
}

// P1.2: rows that can be read off the promise.
func TestCostRows(t *testing.T) {
	for _, x := range []struct {
		size int
		r    uint64
		want uint64
	}{
		{3, 10, 30},
		{0, 10, 0},
		{5, 0, 0},
		{0, api.Top, 0},
		{-1, 10, 0},
		{-1, api.Top, 0},
		{math.MinInt, 3, 0},
		{1, api.Top, api.Top},
		{2, api.Top, api.Top},
		{api.MaxLen, 1<<48 - 1, api.Top - (1<<16 - 1)},
		{api.MaxLen, 1 << 48, api.Top},
		{api.MaxLen, api.MaxUnit, api.Top},
		{math.MaxInt, 2, api.Top - 1},
		{math.MaxInt, 3, api.Top},
	} {
		if got := tag.Cost(x.size, x.r); got != x.want {
			t.Errorf("P1.2: Cost(%d, %d) = %d; want %d", x.size, x.r, got, x.want)
		}
	}
}

// What follows: a greater size or a greater r never has a smaller cost.
func TestCostNeverFalls(t *testing.T) {
	sizes := []int{math.MinInt, -1, 0, 1, 2, 3, 1000, api.MaxLen - 1, api.MaxLen, 1 << 32, math.MaxInt - 1, math.MaxInt}
	for _, r := range edges() {
		for _, more := range edges() {
			for i, size := range sizes {
				if r <= more && tag.Cost(size, r) > tag.Cost(size, more) {
					t.Errorf("P1.2: Cost(%d, %d) is greater than Cost(%d, %d)", size, r, size, more)
				}
				if i > 0 && tag.Cost(sizes[i-1], r) > tag.Cost(size, r) {
					t.Errorf("P1.2: Cost(%d, %d) is greater than Cost(%d, %d)", sizes[i-1], r, size, r)
				}
			}
		}
	}
}

// P1.3: a list in the order of items; each pair of it is asked both ways, and each item against itself.
func TestAhead(t *testing.T) {
	list := []api.Item{
		{Key: 0, ID: math.MinInt},
		{Key: 0, ID: -1},
		{Key: 0, ID: 0},
		{Key: 0, ID: math.MaxInt},
		{Key: 1, ID: -5},
		{Key: 1, ID: 1},
		{Key: 1, ID: 2},
		{Key: 2, ID: 0},
		{Key: 1<<63 - 1, ID: 9},
		{Key: 1 << 63, ID: 4},
		{Key: api.Top - 1, ID: 8},
		{Key: api.Top, ID: math.MinInt},
		{Key: api.Top, ID: -1},
		{Key: api.Top, ID: 0},
		{Key: api.Top, ID: math.MaxInt},
	}
	for i, a := range list {
		for j, b := range list {
			if got := tag.Ahead(a, b); got != (i < j) {
				t.Errorf("P1.3: Ahead(%v, %v) = %v; want %v", a, b, got, i < j)
			}
		}
	}
}
