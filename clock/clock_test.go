package clock_test

import (
	"math"
	"slices"
	"testing"

	"weighbridge/clock"
)

// filler lies in the room behind the end of what is handed in, and is written into what is told.
const filler = 987654321

// number is what c has for worker i, found by looking through all of c.
func number(c []int, i int) int {
	for worker, n := range c {
		if worker == i {
			return n
		}
	}
	return 0
}

// longer is the length of the longer one.
func longer(a, b []int) int {
	if len(a) > len(b) {
		return len(a)
	}
	return len(b)
}

// below reports whether no number of a is greater than that of b, asking for some workers beyond both ends, too.
func below(a, b []int) bool {
	for i := range longer(a, b) + 3 {
		if number(a, i) > number(b, i) {
			return false
		}
	}
	return true
}

// same reports whether a and b have the same number for each worker.
func same(a, b []int) bool {
	for i := range longer(a, b) + 3 {
		if number(a, i) != number(b, i) {
			return false
		}
	}
	return true
}

// order is what Cmp is to be.
func order(a, b []int) int {
	switch {
	case same(a, b):
		return 0
	case below(a, b):
		return -1
	case below(b, a):
		return 1
	}
	return 2
}

// all are the clocks of each length up to most, with each of these numbers at each place, and nil.
func all(most int, numbers ...int) [][]int {
	list := [][]int{nil, {}}
	shorter := [][]int{{}}
	for range most {
		var next [][]int
		for _, c := range shorter {
			for _, n := range numbers {
				next = append(next, append(slices.Clone(c), n))
			}
		}
		list = append(list, next...)
		shorter = next
	}
	return list
}

// filled is a clock of that length with n at worker i, and with the number rest at all others.
func filled(size, i, n, rest int) []int {
	c := make([]int, size)
	for at := range c {
		c[at] = rest
	}
	if i < size {
		c[i] = n
	}
	return c
}

// long are clocks of lengths about the last worker that can tick, and far beyond it.
func long() [][]int {
	var list [][]int
	for _, size := range []int{62, 63, 64, 65, 66, 70, 128, 1000} {
		list = append(list,
			filled(size, 0, 0, 0),
			filled(size, 0, 5, -5),
			filled(size, size-1, 1, 0),
			filled(size, size-1, -1, 0),
			filled(size, 63, math.MaxInt, math.MinInt),
			filled(size, 63, math.MinInt, math.MaxInt),
		)
	}
	return list
}

// clocks are short ones of every kind, and long ones.
func clocks() [][]int {
	return append(all(3, math.MinInt, -1, 0, 1, math.MaxInt), long()...)
}

// wrong are workers that no clock has, or for which none can tick; some are a right one in their lowest six, eight or 32 bits.
func wrong() []int {
	return []int{math.MinInt, math.MinInt + 1, math.MinInt + 63, -1 << 32, -256, -65, -64, -63, -2, -1, 1 << 31, 1 << 32, 1<<32 + 1, 1 << 62, math.MaxInt - 63, math.MaxInt - 1, math.MaxInt}
}

// workers are those that are wrong, and all that some clock of these has, and one beyond each end.
func workers() []int {
	list := wrong()
	for i := range 131 {
		list = append(list, i)
	}
	return append(list, 255, 256, 999, 1000, 1001)
}

// lent is a clock as it is handed in, with room behind its end.
type lent struct {
	c     []int
	whole []int
	was   []int
}

func lend(c []int) lent {
	whole := slices.Clone(c)
	for range 70 {
		whole = append(whole, filler)
	}
	x := lent{c: whole[:len(c)], whole: whole, was: slices.Clone(whole)}
	if c == nil {
		x.c = nil
	}
	return x
}

// kept fails the test unless all of it is as it was.
func (x lent) kept(t *testing.T, behind string) {
	t.Helper()
	if !slices.Equal(x.whole, x.was) {
		t.Fatalf("R3: %s changes what was handed in, or the room behind its end: %v; want %v", behind, x.whole, x.was)
	}
}

// spoil writes over a clock and over the room behind its end.
func spoil(c []int) {
	c = c[:cap(c)]
	for i := range c {
		c[i] = filler
	}
}

// P12.1: every worker in every clock.
func TestAt(t *testing.T) {
	for _, c := range clocks() {
		x := lend(c)
		for _, i := range workers() {
			if got, want := clock.At(x.c, i), number(c, i); got != want {
				t.Errorf("P12.1: At(%v, %d) = %d; want %d", c, i, got, want)
			}
		}
		x.kept(t, "At")
	}
}

// P12.1: rows written out: a worker at each edge.
func TestAtRows(t *testing.T) {
	for _, x := range []struct {
		c    []int
		i    int
		want int
	}{
		{nil, math.MinInt, 0},
		{nil, -1, 0},
		{nil, 0, 0},
		{nil, 1, 0},
		{nil, math.MaxInt, 0},
		{[]int{}, math.MinInt, 0},
		{[]int{}, -1, 0},
		{[]int{}, 0, 0},
		{[]int{}, math.MaxInt, 0},
		{[]int{5, -6, 7}, math.MinInt, 0},
		{[]int{5, -6, 7}, -1, 0},
		{[]int{5, -6, 7}, 0, 5},
		{[]int{5, -6, 7}, 1, -6},
		{[]int{5, -6, 7}, 2, 7},
		{[]int{5, -6, 7}, 3, 0},
		{[]int{5, -6, 7}, math.MaxInt, 0},
		{[]int{math.MinInt, math.MaxInt}, 0, math.MinInt},
		{[]int{math.MinInt, math.MaxInt}, 1, math.MaxInt},
		{filled(70, 64, 3, 2), 63, 2},
		{filled(70, 64, 3, 2), 64, 3},
		{filled(70, 64, 3, 2), 69, 2},
		{filled(70, 64, 3, 2), 70, 0},
	} {
		if got := clock.At(x.c, x.i); got != x.want {
			t.Errorf("P12.1: At(%v, %d) = %d; want %d", x.c, x.i, got, x.want)
		}
	}
}

// ticked is what Tick is to be: put together from the numbers before worker i, its own one, and those behind it.
func ticked(c []int, i int) []int {
	if i < 0 || i > 63 {
		return slices.Clone(c)
	}
	var list []int
	for worker := range i {
		list = append(list, number(c, worker))
	}
	if n := number(c, i); n == math.MaxInt {
		list = append(list, math.MinInt)
	} else {
		list = append(list, n+1)
	}
	for worker := i + 1; worker < len(c); worker++ {
		list = append(list, c[worker])
	}
	return list
}

// P12.1, R3: every worker in every clock, and again when what was told first has been written over.
func TestTick(t *testing.T) {
	for _, c := range clocks() {
		x := lend(c)
		for _, i := range workers() {
			want := ticked(c, i)
			for range 2 {
				got := clock.Tick(x.c, i)
				if !slices.Equal(got, want) {
					t.Fatalf("P12.1: Tick(%v, %d) = %v; want %v", c, i, got, want)
				}
				x.kept(t, "Tick")
				spoil(got)
				x.kept(t, "writing into what Tick told")
			}
		}
	}
}

// P12.1: rows written out: a worker at each edge, in clocks that reach as far, farther, and not as far.
func TestTickRows(t *testing.T) {
	for _, x := range []struct {
		c    []int
		i    int
		want []int
	}{
		{nil, math.MinInt, nil},
		{nil, -1, nil},
		{nil, 0, []int{1}},
		{nil, 2, []int{0, 0, 1}},
		{nil, 63, filled(64, 63, 1, 0)},
		{nil, 64, nil},
		{nil, math.MaxInt, nil},
		{[]int{}, math.MinInt, nil},
		{[]int{}, -1, nil},
		{[]int{}, 0, []int{1}},
		{[]int{}, 63, filled(64, 63, 1, 0)},
		{[]int{}, 64, nil},
		{[]int{}, math.MaxInt, nil},
		{[]int{4, -5, 6}, math.MinInt, []int{4, -5, 6}},
		{[]int{4, -5, 6}, -1, []int{4, -5, 6}},
		{[]int{4, -5, 6}, 0, []int{5, -5, 6}},
		{[]int{4, -5, 6}, 1, []int{4, -4, 6}},
		{[]int{4, -5, 6}, 2, []int{4, -5, 7}},
		{[]int{4, -5, 6}, 3, []int{4, -5, 6, 1}},
		{[]int{4, -5, 6}, 5, []int{4, -5, 6, 0, 0, 1}},
		{[]int{4, -5, 6}, 64, []int{4, -5, 6}},
		{[]int{4, -5, 6}, math.MaxInt, []int{4, -5, 6}},
		{[]int{math.MaxInt, 7}, 0, []int{math.MinInt, 7}},
		{[]int{7, math.MaxInt}, 1, []int{7, math.MinInt}},
		{[]int{math.MaxInt - 1}, 0, []int{math.MaxInt}},
		{[]int{math.MinInt, 0}, 0, []int{math.MinInt + 1, 0}},
		{[]int{-1, 0}, 0, []int{0, 0}},
		{[]int{math.MinInt, math.MaxInt}, 2, []int{math.MinInt, math.MaxInt, 1}},
		{filled(63, 62, 8, 2), 63, append(filled(63, 62, 8, 2), 1)},
		{filled(64, 63, 8, 2), 63, filled(64, 63, 9, 2)},
		{filled(64, 63, math.MaxInt, 2), 63, filled(64, 63, math.MinInt, 2)},
		{filled(64, 63, 8, 2), 64, filled(64, 63, 8, 2)},
		{filled(70, 63, 8, 2), 63, filled(70, 63, 9, 2)},
		{filled(70, 64, 8, 2), 64, filled(70, 64, 8, 2)},
		{filled(70, 69, 8, 2), 69, filled(70, 69, 8, 2)},
		{filled(70, 30, 8, 2), 30, filled(70, 30, 9, 2)},
		{filled(70, 0, 8, 2), -1, filled(70, 0, 8, 2)},
	} {
		if got := clock.Tick(x.c, x.i); !slices.Equal(got, x.want) {
			t.Errorf("P12.1: Tick(%v, %d) = %v; want %v", x.c, x.i, got, x.want)
		}
	}
}

// P12.1: Tick again and again: the number of one worker rises by 1 each time, and no other one turns.
func TestTickOften(t *testing.T) {
	var c []int
	for n := 1; n <= 20; n++ {
		for i := 63; i >= 0; i-- {
			c = clock.Tick(c, i)
			if len(c) != 64 || clock.At(c, i) != n {
				t.Fatalf("P12.1: Tick for worker %d, for the time %d: %v", i, n, c)
			}
		}
		if !slices.Equal(c, filled(64, 0, n, n)) {
			t.Fatalf("P12.1: each worker has ticked %d times: %v", n, c)
		}
	}
}

// pairs hands every two of the clocks to check.
func pairs(list [][]int, check func(a, b []int)) {
	for _, a := range list {
		for _, b := range list {
			check(a, b)
		}
	}
}

// joined is what Join is to be.
func joined(a, b []int) []int {
	var list []int
	for i := range longer(a, b) {
		n := number(a, i)
		if m := number(b, i); m > n {
			n = m
		}
		list = append(list, n)
	}
	return list
}

// mixed are as many clocks as every two of them can be held against each other by the plain means of this test.
func mixed() [][]int {
	list := all(2, math.MinInt, -1, 0, 1, math.MaxInt)
	list = append(list, all(3, -1, 0, 1)...)
	for _, size := range []int{4, 63, 64, 65, 70} {
		list = append(list, filled(size, 0, 0, 0), filled(size, size-1, 1, 0), filled(size, size-1, -1, 0), filled(size, 2, math.MaxInt, math.MinInt))
	}
	return list
}

// P12.1, R3: Join of every two clocks, and again when what was told first has been written over.
func TestJoin(t *testing.T) {
	pairs(mixed(), func(a, b []int) {
		x, y := lend(a), lend(b)
		want := joined(a, b)
		for range 2 {
			got := clock.Join(x.c, y.c)
			if !slices.Equal(got, want) {
				t.Fatalf("P12.1: Join(%v, %v) = %v; want %v", a, b, got, want)
			}
			spoil(got)
			x.kept(t, "Join, or writing into what it told,")
			y.kept(t, "Join, or writing into what it told,")
		}
	})
}

// P12.1: rows written out, each of them both ways round, among them the second example.
func TestJoinRows(t *testing.T) {
	for _, x := range []struct {
		a, b, want []int
	}{
		{nil, nil, nil},
		{nil, []int{}, nil},
		{[]int{}, []int{}, nil},
		{[]int{1}, []int{0, 2}, []int{1, 2}},
		{[]int{1, 5}, []int{2}, []int{2, 5}},
		{[]int{1, 5}, nil, []int{1, 5}},
		{[]int{1, 5}, []int{}, []int{1, 5}},
		{[]int{0, 0}, []int{0}, []int{0, 0}},
		{[]int{0, 0, 0}, nil, []int{0, 0, 0}},
		{[]int{-1}, nil, []int{0}},
		{[]int{-1, 3, -2}, []int{}, []int{0, 3, 0}},
		{[]int{-3, -2}, []int{-4}, []int{-3, 0}},
		{[]int{-3, -2}, []int{-4, -1}, []int{-3, -1}},
		{[]int{math.MinInt}, nil, []int{0}},
		{[]int{math.MaxInt}, nil, []int{math.MaxInt}},
		{[]int{7, math.MinInt, math.MaxInt}, []int{7}, []int{7, 0, math.MaxInt}},
		{[]int{math.MinInt, math.MaxInt}, []int{math.MaxInt, math.MinInt}, []int{math.MaxInt, math.MaxInt}},
		{[]int{math.MinInt}, []int{math.MinInt}, []int{math.MinInt}},
		{[]int{math.MinInt, 0}, []int{math.MinInt + 1, math.MinInt}, []int{math.MinInt + 1, 0}},
		{filled(70, 69, 9, 1), filled(65, 64, 8, 2), append(append(filled(64, 0, 2, 2), 8), 1, 1, 1, 1, 9)},
		{filled(70, 69, -9, -1), filled(64, 0, -2, -2), append(filled(64, 0, -1, -1), 0, 0, 0, 0, 0, 0)},
	} {
		if got := clock.Join(x.a, x.b); !slices.Equal(got, x.want) {
			t.Errorf("P12.1: Join(%v, %v) = %v; want %v", x.a, x.b, got, x.want)
		}
		if got := clock.Join(x.b, x.a); !slices.Equal(got, x.want) {
			t.Errorf("P12.1: Join(%v, %v) = %v; want %v", x.b, x.a, got, x.want)
		}
	}
}

// P12.1, R3: both clocks of a Join may be the same list, or pieces of one.
func TestJoinOfOneList(t *testing.T) {
	c := []int{3, -1, 4, 1, 5}
	for _, x := range []struct {
		a, b, want []int
	}{
		{c, c, []int{3, -1, 4, 1, 5}},
		{c, c[:2], []int{3, -1, 4, 1, 5}},
		{c[:2], c[2:], []int{4, 1, 5}},
		{c[1:], c, []int{3, 4, 4, 5, 5}},
		{c[1:2], c[:0], []int{0}},
	} {
		got := clock.Join(x.a, x.b)
		if !slices.Equal(got, x.want) {
			t.Errorf("P12.1: Join(%v, %v) = %v; want %v", x.a, x.b, got, x.want)
		}
		spoil(got)
		if !slices.Equal(c, []int{3, -1, 4, 1, 5}) {
			t.Fatalf("R3: Join, or writing into what it told, changes what was handed in: %v", c)
		}
	}
}

// P12.2: every two clocks.
func TestOrder(t *testing.T) {
	pairs(mixed(), func(a, b []int) {
		x, y := lend(a), lend(b)
		if got, want := clock.Leq(x.c, y.c), below(a, b); got != want {
			t.Fatalf("P12.2: Leq(%v, %v) = %v; want %v", a, b, got, want)
		}
		if got, want := clock.Cmp(x.c, y.c), order(a, b); got != want {
			t.Fatalf("P12.2: Cmp(%v, %v) = %d; want %d", a, b, got, want)
		}
		x.kept(t, "Leq or Cmp")
		y.kept(t, "Leq or Cmp")
	})
}

// P12.2: rows written out, each of them both ways round, among them the first example.
func TestOrderRows(t *testing.T) {
	for _, x := range []struct {
		a, b     []int
		leq, geq bool
		cmp      int
	}{
		// Equal ones.
		{nil, nil, true, true, 0},
		{nil, []int{}, true, true, 0},
		{[]int{}, []int{}, true, true, 0},
		{[]int{5, -5, 0}, []int{5, -5, 0}, true, true, 0},
		{[]int{math.MinInt, math.MaxInt}, []int{math.MinInt, math.MaxInt}, true, true, 0},
		// Equivalent ones that are not as long.
		{nil, []int{0}, true, true, 0},
		{[]int{}, []int{0, 0, 0}, true, true, 0},
		{[]int{1}, []int{1, 0}, true, true, 0},
		{[]int{-1, 7}, []int{-1, 7, 0, 0}, true, true, 0},
		{filled(3, 2, 4, 0), filled(1000, 2, 4, 0), true, true, 0},
		// One below the other.
		{nil, []int{1}, true, false, -1},
		{[]int{0, 0}, []int{0, 0, 1}, true, false, -1},
		{[]int{1, 2}, []int{1, 3}, true, false, -1},
		{[]int{1, 2}, []int{2, 3}, true, false, -1},
		{[]int{0, 1}, []int{1, 1}, true, false, -1},
		{[]int{1, 0, 0}, []int{2}, true, false, -1},
		{[]int{math.MinInt}, []int{math.MaxInt}, true, false, -1},
		{[]int{math.MinInt}, []int{math.MinInt + 1}, true, false, -1},
		{[]int{math.MaxInt - 1}, []int{math.MaxInt}, true, false, -1},
		{[]int{math.MaxInt, 4}, []int{math.MaxInt, 4, math.MaxInt}, true, false, -1},
		{filled(70, 69, 1, 3), filled(70, 69, 2, 3), true, false, -1},
		// The longer one below, by a number below 0 where the other has none.
		{[]int{-1}, nil, true, false, -1},
		{[]int{math.MinInt}, []int{}, true, false, -1},
		{[]int{1, -1}, []int{1}, true, false, -1},
		{[]int{0, -1}, []int{1}, true, false, -1},
		{[]int{1, 0, -1}, []int{1, 0}, true, false, -1},
		{[]int{-2, 5}, []int{-1, 5}, true, false, -1},
		{[]int{-2, 0, -2}, []int{-2}, true, false, -1},
		// Neither.
		{[]int{1, 0}, []int{0, 1}, false, false, 2},
		{[]int{1}, []int{0, 1}, false, false, 2},
		{[]int{1, 2, 3}, []int{1, 3, 2}, false, false, 2},
		{[]int{1, -1}, []int{0}, false, false, 2},
		{[]int{-1}, []int{-2, 1}, false, false, 2},
		{[]int{-2}, []int{-1, -1}, false, false, 2},
		{[]int{1, -1}, nil, false, false, 2},
		{[]int{math.MinInt, math.MaxInt}, []int{math.MaxInt, math.MinInt}, false, false, 2},
		{[]int{math.MinInt, math.MaxInt}, []int{}, false, false, 2},
		{filled(70, 69, 1, 0), filled(64, 63, 1, 0), false, false, 2},
	} {
		back := x.cmp
		if back != 2 {
			back = -back
		}
		if leq, geq := clock.Leq(x.a, x.b), clock.Leq(x.b, x.a); leq != x.leq || geq != x.geq {
			t.Errorf("P12.2: Leq of %v and %v = %v, and the other way round %v; want %v, %v", x.a, x.b, leq, geq, x.leq, x.geq)
		}
		if got, other := clock.Cmp(x.a, x.b), clock.Cmp(x.b, x.a); got != x.cmp || other != back {
			t.Errorf("P12.2: Cmp of %v and %v = %d, and the other way round %d; want %d, %d", x.a, x.b, got, other, x.cmp, back)
		}
	}
}

// What follows: Join returns the least clock that neither a nor b exceeds.
func TestLeast(t *testing.T) {
	list := all(3, -1, 0, 1)
	pairs(list, func(a, b []int) {
		j := clock.Join(a, b)
		if !clock.Leq(a, j) || !clock.Leq(b, j) {
			t.Fatalf("Join(%v, %v) = %v, which one of both exceeds", a, b, j)
		}
		for _, c := range list {
			if clock.Leq(a, c) && clock.Leq(b, c) && !clock.Leq(j, c) {
				t.Fatalf("Join(%v, %v) = %v, but %v is less, and neither exceeds it", a, b, j, c)
			}
		}
	})
}

// What follows from both promises: a clock that ticks comes above what it was, unless its number was the greatest.
func TestTickRises(t *testing.T) {
	for _, c := range clocks() {
		for i := range 64 {
			want := -1
			if number(c, i) == math.MaxInt {
				want = 1
			}
			if got := clock.Cmp(c, clock.Tick(c, i)); got != want {
				t.Errorf("Cmp(%v) with itself ticked for worker %d = %d; want %d", c, i, got, want)
			}
		}
	}
}

// R3: a nil slice and an empty slice are equivalent, with and without room behind the end.
func TestNone(t *testing.T) {
	for _, c := range [][]int{nil, {}, make([]int, 0, 70), []int{filler, filler}[:0]} {
		if got := clock.At(c, 0); got != 0 {
			t.Errorf("P12.1: At of none = %d", got)
		}
		if got := clock.Tick(c, -1); len(got) != 0 {
			t.Errorf("P12.1: Tick of none, for no worker = %v", got)
		}
		if got := clock.Tick(c, 1); !slices.Equal(got, []int{0, 1}) {
			t.Errorf("P12.1: Tick of none = %v", got)
		}
		if got := clock.Join(c, nil); len(got) != 0 {
			t.Errorf("P12.1: Join of none = %v", got)
		}
		if !clock.Leq(c, nil) || !clock.Leq(nil, c) || clock.Cmp(c, nil) != 0 {
			t.Error("P12.2: none is not equivalent to none")
		}
	}
}
