package tour_test

import (
	"math"
	"testing"

	"weighbridge/api"
	"weighbridge/tour"
)

func item(key uint64, id int) api.Item { return api.Item{Key: key, ID: id} }

// precedes is the order of items, said apart from the program.
func precedes(a, b api.Item) bool {
	if a.Key != b.Key {
		return a.Key < b.Key
	}
	return a.ID < b.ID
}

// within brings a number of leaves into its range.
func within(n int) int {
	switch {
	case n < 1:
		return 1
	case n > 16:
		return 16
	}
	return n
}

// sizes holds the size for each number of leaves, from 1 on.
func sizes() []int {
	return []int{1: 1, 2: 2, 3: 4, 4: 4, 5: 8, 6: 8, 7: 8, 8: 8, 9: 16, 10: 16, 11: 16, 12: 16, 13: 16, 14: 16, 15: 16, 16: 16}
}

// plain is what a tournament is to be: leaves with an item or none.
type plain struct {
	items []api.Item
	has   []bool
}

func (p *plain) size() int { return sizes()[len(p.items)] }

// below reports whether leaf i lies below node k, by going from the leaf to the root.
func (p *plain) below(i, k int) bool {
	for at := p.size() + i; at > 0; at /= 2 {
		if at == k {
			return true
		}
	}
	return false
}

// best returns the winner below node k by asking all leaves.
func (p *plain) best(k int) int {
	best := -1
	for i, x := range p.items {
		if p.has[i] && p.below(i, k) && (best < 0 || precedes(x, p.items[best])) {
			best = i
		}
	}
	return best
}

// pair is a tournament beside what it is to be: whatever is done to the one is done to the other, and every answer is compared.
type pair struct {
	t *testing.T
	x *tour.Tour
	p *plain
}

func newPair(t *testing.T, n int) *pair {
	t.Helper()
	a := &pair{t, tour.New(n), &plain{make([]api.Item, within(n)), make([]bool, within(n))}}
	a.same("New")
	return a
}

// same asks everything of the tournament, at every node and at numbers that are none.
func (a *pair) same(after string) {
	a.t.Helper()
	n, size := len(a.p.items), a.p.size()
	if got := a.x.Len(); got != n {
		a.t.Fatalf("P7.1: Len after %s = %d; want %d", after, got, n)
	}
	for k := 1; k < 2*size; k++ {
		if got, want := a.x.Node(k), a.p.best(k); got != want {
			a.t.Fatalf("P7.1: %d leaves: Node(%d) after %s = %d; want %d, of %v, %v", n, k, after, got, want, a.p.items, a.p.has)
		}
	}
	for _, k := range []int{math.MinInt, math.MinInt + 1, -2 * size, -size, -2, -1, 0, 2 * size, 2*size + 1, 4 * size, 1 << 32, 1<<32 + 1, math.MaxInt - 1, math.MaxInt} {
		if got := a.x.Node(k); got != -1 {
			a.t.Fatalf("P7.1: %d leaves: Node(%d) after %s = %d; want -1", n, k, after, got)
		}
	}
	leaf, x, is := 0, api.Item{}, false
	if best := a.p.best(1); best >= 0 {
		leaf, x, is = best, a.p.items[best], true
	}
	got, y, ok := a.x.Win()
	if got != leaf || y != x || ok != is {
		a.t.Fatalf("P7.1: %d leaves: Win after %s = %d, %v, %v; want %d, %v, %v", n, after, got, y, ok, leaf, x, is)
	}
	if root := a.x.Node(1); ok && root != got || !ok && root != -1 {
		a.t.Fatalf("P7.1: %d leaves: after %s, Win = %d, %v, but Node(1) = %d", n, after, got, ok, root)
	}
}

func (a *pair) set(i int, x api.Item) bool {
	a.t.Helper()
	want := i >= 0 && i < len(a.p.items)
	if want {
		a.p.items[i], a.p.has[i] = x, true
	}
	got := a.x.Set(i, x)
	if got != want {
		a.t.Fatalf("P7.1: %d leaves: Set(%d, %v) = %v; want %v", len(a.p.items), i, x, got, want)
	}
	a.same("Set")
	return got
}

func (a *pair) unset(i int) bool {
	a.t.Helper()
	want := i >= 0 && i < len(a.p.items)
	if want {
		a.p.has[i] = false
	}
	got := a.x.Unset(i)
	if got != want {
		a.t.Fatalf("P7.1: %d leaves: Unset(%d) = %v; want %v", len(a.p.items), i, got, want)
	}
	a.same("Unset")
	return got
}

// drain unsets the winner until nothing is left, and returns how many there were.
func (a *pair) drain() int {
	a.t.Helper()
	for count := 0; ; count++ {
		i, x, ok := a.x.Win()
		if !ok {
			return count
		}
		a.unset(i)
		if _, y, again := a.x.Win(); again && precedes(y, x) {
			a.t.Fatalf("P7.1: Win after Unset of %v = %v, which precedes it", x, y)
		}
	}
}

// next returns a small generator of numbers below n, the same at every run.
func next(seed uint64) func(n int) int {
	return func(n int) int {
		seed = seed*6364136223846793005 + 1442695040888963407
		return int((seed >> 20) % uint64(n))
	}
}

// counts are numbers of leaves of every kind: all in range, and out of it on both sides.
func counts() []int {
	return []int{math.MinInt, math.MinInt + 1, -1 << 32, -16, -2, -1, 0, 1, 2, 3, 4, 5, 6, 7, 8, 9, 10, 11, 12, 13, 14, 15, 16, 17, 18, 31, 32, 33, 64, 1 << 32, 1<<32 + 1, math.MaxInt - 1, math.MaxInt}
}

// strangers are numbers that are no leaf of a tournament with n leaves.
func strangers(n int) []int {
	list := []int{math.MinInt, math.MinInt + 1, -1 << 32, -17, -16, -2, -1, 1 << 32, 1<<32 + 1, math.MaxInt - 1, math.MaxInt}
	for i := n; i <= 2*sizes()[n]+1; i++ {
		list = append(list, i, -i)
	}
	return list
}

// edges are items at the ends of what keys and IDs can be, in their order.
func edges() []api.Item {
	return []api.Item{
		item(0, math.MinInt), item(0, -1), item(0, 0), item(0, 1), item(0, math.MaxInt),
		item(1, math.MinInt), item(1<<63-1, 0), item(1<<63, 0),
		item(api.Top-1, math.MaxInt), item(api.Top, math.MinInt), item(api.Top, -1), item(api.Top, 0), item(api.Top, math.MaxInt),
	}
}

func TestExample(t *testing.T) {
	x := tour.New(3)
	if !x.Set(2, item(5, 0)) || !x.Set(0, item(5, 1)) {
		t.Errorf("P7.1: Set of the leaves 2 and 0 is not true")
	}
	if i, y, ok := x.Win(); i != 2 || y != item(5, 0) || !ok {
		t.Errorf("P7.1: Win = %d, %v, %v; want 2, (5, 0)", i, y, ok)
	}
	if got := x.Node(2); got != 0 {
		t.Errorf("P7.1: Node(2) = %d; want 0", got)
	}
	if got := x.Node(3); got != 2 {
		t.Errorf("P7.1: Node(3) = %d; want 2", got)
	}
}

// TestNodesByHand tells the winner of each node of a tree of three levels under the root, one leaf of which is missing.
func TestNodesByHand(t *testing.T) {
	x := tour.New(7)
	for i, key := range []uint64{7, 3, 9, 5, 4, 4, 8} {
		x.Set(i, item(key, 10-i))
	}
	for k, want := range []int{-1, 1, 1, 5, 1, 3, 5, 6, 0, 1, 2, 3, 4, 5, 6, -1, -1} {
		if got := x.Node(k); got != want {
			t.Errorf("P7.1: Node(%d) = %d; want %d", k, got, want)
		}
	}
	x.Unset(1)
	for k, want := range []int{-1, 5, 3, 5, 0, 3, 5, 6, 0, -1, 2, 3, 4, 5, 6, -1, -1} {
		if got := x.Node(k); got != want {
			t.Errorf("P7.1: Node(%d) after Unset(1) = %d; want %d", k, got, want)
		}
	}
}

// TestNew holds numbers of leaves that are out of range against those of the nearest one in range.
func TestNew(t *testing.T) {
	for _, n := range counts() {
		a := newPair(t, n)
		last := within(n) - 1
		if i, y, ok := a.x.Win(); i != 0 || y != (api.Item{}) || ok {
			t.Errorf("P7.1: Win after New(%d) = %d, %v, %v", n, i, y, ok)
		}
		if a.set(last+1, item(1, 1)) || a.unset(last+1) || !a.set(last, item(1, 1)) || !a.unset(last) {
			t.Errorf("P7.1: New(%d): Set and Unset of the last leaf, %d, and of the one after it", n, last)
		}
	}
}

// TestEachLeaf sets and unsets each leaf alone, and each leaf among all others.
func TestEachLeaf(t *testing.T) {
	for _, n := range counts() {
		for i := range within(n) {
			a := newPair(t, n)
			if !a.unset(i) || !a.set(i, item(9, 9)) || !a.unset(i) || !a.unset(i) {
				t.Fatalf("P7.1: New(%d): Set and Unset of leaf %d is false", n, i)
			}
			for j := range within(n) {
				a.set(j, item(uint64(j*7%5), j))
			}
			a.unset(i)
			a.unset(i)
			a.set(i, item(0, -1))
			if got, _, _ := a.x.Win(); got != i {
				t.Fatalf("P7.1: New(%d): Win = %d; want %d, which has the first item", n, got, i)
			}
		}
	}
}

// TestNoLeaf asks for leaves that are not there, of a tournament without items, and of one with an item at each leaf.
func TestNoLeaf(t *testing.T) {
	for n := 1; n <= 16; n++ {
		empty, full := newPair(t, n), newPair(t, n)
		for i := range n {
			full.set(i, item(5, -i))
		}
		for _, i := range strangers(n) {
			for _, a := range []*pair{empty, full} {
				if a.set(i, item(0, math.MinInt)) || a.set(i, item(api.Top, 3)) || a.unset(i) {
					t.Fatalf("P7.1: New(%d): Set or Unset of leaf %d = true", n, i)
				}
			}
		}
		if empty.drain() != 0 || full.drain() != n {
			t.Fatalf("P7.1: New(%d): Set or Unset of what is no leaf has changed how many items there are", n)
		}
	}
}

// TestSetAgain gives a leaf that has an item another one, before and behind those of the other leaves.
func TestSetAgain(t *testing.T) {
	for n := 1; n <= 16; n++ {
		for i := range n {
			a := newPair(t, n)
			for j := range n {
				a.set(j, item(50, 2*j))
			}
			for _, x := range []api.Item{item(50, 2*i), item(50, 2*i-1), item(50, 2*i+1), item(49, 99), item(49, 99), item(51, -99), item(0, 0), item(api.Top, 0), item(50, 0), item(50, -1), item(50, 2*n)} {
				a.set(i, x)
			}
			if got := a.drain(); got != n {
				t.Fatalf("P7.1: New(%d): after many times Set of leaf %d, there were %d items", n, i, got)
			}
		}
	}
}

// TestZeroItem holds a leaf with the zero item apart from a leaf without an item.
func TestZeroItem(t *testing.T) {
	for n := 1; n <= 16; n++ {
		for i := range n {
			a := newPair(t, n)
			a.set(i, api.Item{})
			if got, x, ok := a.x.Win(); got != i || x != (api.Item{}) || !ok {
				t.Fatalf("P7.1: New(%d): Win = %d, %v, %v; want %d with the zero item", n, got, x, ok, i)
			}
			a.set((i+1)%n, item(api.Top, math.MaxInt))
			a.unset(i)
			if got, _, ok := a.x.Win(); n > 1 && (got != (i+1)%n || !ok) || n == 1 && ok {
				t.Fatalf("P7.1: New(%d): Win after Unset of the zero item = %d, %v", n, got, ok)
			}
		}
	}
}

// TestEqualItems gives every two leaves the same item, in both orders, beside later ones at all others: the smaller leaf wins.
func TestEqualItems(t *testing.T) {
	for _, n := range []int{2, 3, 4, 5, 8, 11, 16} {
		for _, x := range []api.Item{item(0, math.MinInt), item(0, 0), item(5, -3), item(api.Top, math.MaxInt)} {
			for i := range n {
				for j := range i {
					a := newPair(t, n)
					a.set(i, x)
					a.set(j, x)
					a.set(i, x)
					if got, y, ok := a.x.Win(); got != j || y != x || !ok {
						t.Fatalf("P7.1: New(%d): Win of %v at the leaves %d and %d = %d, %v, %v", n, x, j, i, got, y, ok)
					}
					a.unset(j)
					if got, y, ok := a.x.Win(); got != i || y != x || !ok {
						t.Fatalf("P7.1: New(%d): Win after Unset(%d) = %d, %v, %v; want %d", n, j, got, y, ok, i)
					}
					a.set(j, x)
					a.drain()
				}
			}
		}
	}
}

// TestAllEqual unsets leaves with one and the same item: they win from the first to the last.
func TestAllEqual(t *testing.T) {
	for n := 1; n <= 16; n++ {
		a := newPair(t, n)
		for i := n - 1; i >= 0; i-- {
			a.set(i, item(api.Top, -1))
		}
		for i := range n {
			if got, _, ok := a.x.Win(); got != i || !ok {
				t.Fatalf("P7.1: New(%d): Win of equal items = %d, %v; want %d", n, got, ok, i)
			}
			a.unset(i)
		}
	}
}

// TestEdges holds every two items at the ends of keys and IDs against each other, at leaves in either order.
func TestEdges(t *testing.T) {
	list := edges()
	for first := range list {
		for second := range first {
			for _, n := range []int{2, 3, 16} {
				a := newPair(t, n)
				a.set(0, list[first])
				a.set(n-1, list[second])
				if got, y, ok := a.x.Win(); got != n-1 || y != list[second] || !ok {
					t.Fatalf("P7.1: Win of %v and %v = %d, %v, %v", list[first], list[second], got, y, ok)
				}
				a.set(0, list[second])
				a.set(n-1, list[first])
				if got, y, ok := a.x.Win(); got != 0 || y != list[second] || !ok {
					t.Fatalf("P7.1: Win of %v and %v = %d, %v, %v", list[second], list[first], got, y, ok)
				}
			}
		}
	}
}

// TestDrainInOrder lays the items of edges in turned orders, and unsets the winner again and again.
func TestDrainInOrder(t *testing.T) {
	list := edges()
	for _, stride := range []int{1, 2, 5, 12} {
		a := newPair(t, len(list))
		for i := range list {
			a.set(i*stride%len(list), list[i])
		}
		for i, want := range list {
			got, y, ok := a.x.Win()
			if got != i*stride%len(list) || y != want || !ok {
				t.Fatalf("P7.1: stride %d: Win = %d, %v, %v; want %v", stride, got, y, ok, want)
			}
			a.unset(got)
		}
		if i, y, ok := a.x.Win(); i != 0 || y != (api.Item{}) || ok || a.drain() != 0 {
			t.Errorf("P7.1: stride %d: Win after all were unset = %d, %v, %v", stride, i, y, ok)
		}
	}
}

// TestLeavesWithoutAnyBehind asks for the nodes of leaves from n to the size, which are nodes, but of no leaf.
func TestLeavesWithoutAnyBehind(t *testing.T) {
	for n := 1; n <= 16; n++ {
		a, size := newPair(t, n), sizes()[n]
		for i := range n {
			a.set(i, item(uint64(i), 0))
		}
		for i := range size {
			want := i
			if i >= n {
				want = -1
			}
			if got := a.x.Node(size + i); got != want {
				t.Errorf("P7.1: New(%d): Node(%d) = %d; want %d", n, size+i, got, want)
			}
		}
		if got := a.x.Node(2 * size); got != -1 {
			t.Errorf("P7.1: New(%d): Node(%d) = %d; want -1", n, 2*size, got)
		}
	}
}

func TestAside(t *testing.T) {
	one, two, three := newPair(t, 5), newPair(t, 5), newPair(t, 16)
	all := []*pair{one, two, three}
	rand := next(3)
	for range 300 {
		a := all[rand(3)]
		if i := rand(16); rand(3) > 0 {
			a.set(i, item(uint64(rand(4)), rand(3)))
		} else {
			a.unset(i)
		}
		for _, b := range all {
			b.same("what was done to another tournament")
		}
	}
	one.drain()
	two.same("Unset of all leaves of another tournament")
	three.same("Unset of all leaves of another tournament")
}

// TestAsking asks many times, which must change nothing.
func TestAsking(t *testing.T) {
	a := newPair(t, 6)
	a.set(1, item(4, 1))
	a.set(5, item(4, 0))
	for range 5 {
		if i, x, ok := a.x.Win(); i != 5 || x != item(4, 0) || !ok {
			t.Errorf("P7.1: Win = %d, %v, %v; want 5, (4, 0)", i, x, ok)
		}
		a.same("asking")
	}
}

func TestWalk(t *testing.T) {
	for n := 1; n <= 16; n++ {
		a, rand, list := newPair(t, n), next(uint64(n)), edges()
		for range 1500 {
			i := rand(n+2) - 1
			switch rand(7) {
			case 0, 1:
				a.set(i, item(uint64(rand(4)), rand(5)-2))
			case 2:
				a.set(i, list[rand(len(list))])
			case 3:
				// The item of another leaf once more.
				a.set(i, a.p.items[rand(n)])
			case 4:
				a.unset(i)
			case 5:
				if win, _, ok := a.x.Win(); ok {
					a.unset(win)
				}
			case 6:
				if win, x, ok := a.x.Win(); ok {
					a.set(win, item(x.Key+uint64(rand(3)), x.ID))
				}
			}
		}
		a.drain()
	}
}
