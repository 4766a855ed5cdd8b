package queue_test

import (
	"math"
	"slices"
	"testing"

	"weighbridge/api"
	"weighbridge/heap"
	"weighbridge/queue"
)

func item(key uint64, id int) api.Item { return api.Item{Key: key, ID: id} }

// precedes is the order of items, said apart from the program.
func precedes(a, b api.Item) bool {
	if a.Key != b.Key {
		return a.Key < b.Key
	}
	return a.ID < b.ID
}

// ordered returns the items in their order, in new memory.
func ordered(list []api.Item) []api.Item {
	list = slices.Clone(list)
	slices.SortFunc(list, func(a, b api.Item) int {
		if precedes(a, b) {
			return -1
		}
		return 1
	})
	return list
}

// within brings a number of shards into its range.
func within(n int) int {
	switch {
	case n < 1:
		return 1
	case n > 16:
		return 16
	}
	return n
}

// plain is what a queue is to be: a base for each shard, and the items of all shards in their order.
type plain struct {
	bases []uint64
	items []api.Item
}

func (p *plain) home(id int) int { return id % len(p.bases) }

func (p *plain) index(id int) int {
	return slices.IndexFunc(p.items, func(x api.Item) bool { return x.ID == id })
}

func (p *plain) push(x api.Item) bool {
	if x.ID < 0 || p.index(x.ID) >= 0 || x.Key < p.bases[p.home(x.ID)] {
		return false
	}
	p.items = ordered(append(p.items, x))
	return true
}

func (p *plain) min() (api.Item, bool) {
	if len(p.items) == 0 {
		return api.Item{}, false
	}
	return p.items[0], true
}

func (p *plain) pop() (api.Item, bool) {
	x, ok := p.min()
	if ok {
		p.items = slices.Delete(p.items, 0, 1)
		p.bases[p.home(x.ID)] = x.Key
	}
	return x, ok
}

func (p *plain) drop(id int) (api.Item, bool) {
	i := p.index(id)
	if i < 0 {
		return api.Item{}, false
	}
	x := p.items[i]
	p.items = slices.Delete(p.items, i, i+1)
	return x, true
}

func (p *plain) shard(i int) []api.Item {
	var list []api.Item
	for _, x := range p.items {
		if p.home(x.ID) == i {
			list = append(list, x)
		}
	}
	return list
}

// pair is a queue beside what it is to be: whatever is done to the one is done to the other, and every answer is compared.
type pair struct {
	t *testing.T
	q *queue.Queue
	p *plain
}

func newPair(t *testing.T, shards, width int) *pair {
	t.Helper()
	a := &pair{t, queue.New(shards, width), &plain{bases: make([]uint64, within(shards))}}
	a.same("New")
	return a
}

// strangers are numbers that are no shard of a queue with n shards.
func strangers(n int) []int {
	return []int{math.MinInt, math.MinInt + 1, -1 << 32, -n - 1, -n, -2, -1, n, n + 1, 2 * n, 16, 17, 1 << 32, 1<<32 + 1, math.MaxInt - 1, math.MaxInt}
}

// same asks everything of the queue that can be asked without changing it.
func (a *pair) same(after string) {
	a.t.Helper()
	n := len(a.p.bases)
	// Asked twice, as asking must change nothing.
	for range 2 {
		x, is := a.p.min()
		if got, ok := a.q.Min(); got != x || ok != is {
			a.t.Fatalf("P8.1: %d shards: Min after %s = %v, %v; want %v, %v", n, after, got, ok, x, is)
		}
		if got := a.q.Bases(); !slices.Equal(got, a.p.bases) {
			a.t.Fatalf("P8.1: %d shards: Bases after %s = %v; want %v", n, after, got, a.p.bases)
		}
		if got := a.q.Len(); got != len(a.p.items) {
			a.t.Fatalf("P8.1: %d shards: Len after %s = %d; want %d", n, after, got, len(a.p.items))
		}
		if got := a.q.All(); !slices.Equal(got, a.p.items) {
			a.t.Fatalf("P8.1: %d shards: All after %s = %v; want %v", n, after, got, a.p.items)
		}
		for i := range n {
			if got, want := a.q.Shard(i), a.p.shard(i); !slices.Equal(got, want) {
				a.t.Fatalf("P8.1: %d shards: Shard(%d) after %s = %v; want %v", n, i, after, got, want)
			}
		}
		for _, x := range a.p.items {
			if !a.q.Has(x.ID) {
				a.t.Fatalf("P8.1: %d shards: Has(%d) after %s = false", n, x.ID, after)
			}
		}
	}
}

func (a *pair) push(x api.Item) bool {
	a.t.Helper()
	got, want := a.q.Push(x), a.p.push(x)
	if got != want {
		a.t.Fatalf("P8.1: bases %v: Push(%v) = %v; want %v", a.p.bases, x, got, want)
	}
	a.same("Push")
	return got
}

func (a *pair) pop() (api.Item, bool) {
	a.t.Helper()
	got, ok := a.q.Pop()
	want, is := a.p.pop()
	if got != want || ok != is {
		a.t.Fatalf("P8.1: %d shards: Pop = %v, %v; want %v, %v", len(a.p.bases), got, ok, want, is)
	}
	if ok && a.q.Has(got.ID) {
		a.t.Fatalf("P8.1: %d shards: Has(%d) after Pop of %v = true", len(a.p.bases), got.ID, got)
	}
	a.same("Pop")
	return got, ok
}

func (a *pair) drop(id int) bool {
	a.t.Helper()
	got, ok := a.q.Drop(id)
	want, is := a.p.drop(id)
	if got != want || ok != is {
		a.t.Fatalf("P8.1: %d shards: Drop(%d) = %v, %v; want %v, %v", len(a.p.bases), id, got, ok, want, is)
	}
	if a.q.Has(id) {
		a.t.Fatalf("P8.1: %d shards: Has(%d) after Drop = true", len(a.p.bases), id)
	}
	a.same("Drop")
	return ok
}

// fill pushes what must all be taken.
func (a *pair) fill(list ...api.Item) {
	a.t.Helper()
	for _, x := range list {
		if !a.push(x) {
			a.t.Fatalf("P8.1: %d shards: Push(%v) = false after the others of %v", len(a.p.bases), x, list)
		}
	}
}

// drain pops until nothing is left.
func (a *pair) drain() {
	a.t.Helper()
	for ok := true; ok; {
		_, ok = a.pop()
	}
}

// next returns a small generator of numbers below n, the same at every run.
func next(seed uint64) func(n uint64) uint64 {
	return func(n uint64) uint64 {
		seed = seed*6364136223846793005 + 1442695040888963407
		return (seed >> 20) % n
	}
}

// orders calls f with every order of the list.
func orders(list []api.Item, f func([]api.Item)) {
	var walk func(done, rest []api.Item)
	walk = func(done, rest []api.Item) {
		if len(rest) == 0 {
			f(done)
		}
		for i, x := range rest {
			walk(append(slices.Clone(done), x), slices.Delete(slices.Clone(rest), i, i+1))
		}
	}
	walk(nil, list)
}

// counts are numbers of shards of every kind: in range, and out of it on both sides.
func counts() []int {
	return []int{math.MinInt, math.MinInt + 1, -1 << 32, -16, -2, -1, 0, 1, 2, 3, 4, 5, 7, 8, 15, 16, 17, 18, 32, 1 << 32, 1<<32 + 1, math.MaxInt - 1, math.MaxInt}
}

// widths are widths of every kind: in range, and out of it on both sides.
func widths() []int {
	return []int{math.MinInt, math.MinInt + 1, -64, -1, 0, 1, 6, 13, 39, 40, 41, 46, 63, 64, 1 << 32, math.MaxInt - 1, math.MaxInt}
}

// negatives are IDs that no queue takes.
func negatives() []int { return []int{math.MinInt, math.MinInt + 1, -1 << 32, -17, -16, -3, -2, -1} }

func TestExample(t *testing.T) {
	q := queue.New(2, 0)
	for _, x := range []api.Item{item(9, 0), item(3, 1), item(3, 2)} {
		if !q.Push(x) {
			t.Errorf("P8.1: Push(%v) = false", x)
		}
	}
	if x, ok := q.Pop(); x != item(3, 1) || !ok {
		t.Errorf("P8.1: Pop = %v, %v; want (3, 1)", x, ok)
	}
	if got := q.Bases(); !slices.Equal(got, []uint64{0, 3}) {
		t.Errorf("P8.1: Bases = %v; want 0, 3", got)
	}
}

// TestNew takes numbers of shards and widths of every kind: each queue is empty, has the shards that it must have, and puts every ID in its own.
func TestNew(t *testing.T) {
	for _, n := range counts() {
		for _, width := range widths() {
			a, want := newPair(t, n, width), within(n)
			if got := a.q.Bases(); len(got) != want || slices.Max(got) != 0 {
				t.Fatalf("P8.1: New(%d, %d): Bases = %v; want %d times 0", n, width, got, want)
			}
			for id := range 2*want + 1 {
				if !a.q.Push(item(uint64(100-id)<<(id%50), id)) {
					t.Fatalf("P8.1: New(%d, %d): Push of the ID %d = false", n, width, id)
				}
				if got := a.q.Shard(id % want); !slices.ContainsFunc(got, func(x api.Item) bool { return x.ID == id }) {
					t.Fatalf("P8.1: New(%d, %d): Shard(%d) = %v, without the ID %d", n, width, id%want, got, id)
				}
			}
			last := item(0, 0)
			for range 2*want + 1 {
				x, ok := a.q.Pop()
				if !ok || precedes(x, last) || a.q.Bases()[x.ID%want] != x.Key {
					t.Fatalf("P8.1: New(%d, %d): Pop after %v = %v, %v, Bases %v", n, width, last, x, ok, a.q.Bases())
				}
				last = x
			}
			if a.q.Len() != 0 {
				t.Fatalf("P8.1: New(%d, %d): Len after all were popped = %d", n, width, a.q.Len())
			}
		}
	}
}

// TestEmpty asks an empty queue, before it had items and after.
func TestEmpty(t *testing.T) {
	for _, n := range counts() {
		a := newPair(t, n, 0)
		for range 2 {
			if x, ok := a.pop(); x != (api.Item{}) || ok {
				t.Fatalf("P8.1: New(%d): Pop of an empty queue = %v, %v", n, x, ok)
			}
			for _, id := range append(negatives(), 0, 1, 15, 16, 17, math.MaxInt-1, math.MaxInt) {
				if a.drop(id) || a.q.Has(id) {
					t.Fatalf("P8.1: New(%d): Drop or Has of %d in an empty queue = true", n, id)
				}
			}
			a.fill(item(5, 2), item(7, 3))
			a.drop(3)
			a.pop()
		}
	}
}

// TestSingle puts in one item, of each shard, and takes it out again in both ways.
func TestSingle(t *testing.T) {
	for _, n := range counts() {
		for id := range within(n) + 1 {
			for _, key := range []uint64{0, 1, 63, 1 << 18, 1 << 58, api.Top} {
				a := newPair(t, n, 0)
				x := item(key, id)
				a.fill(x)
				if !a.drop(id) || a.drop(id) || !a.push(x) {
					t.Fatalf("P8.1: New(%d): Drop of the single item %v, and Push again", n, x)
				}
				if got, ok := a.pop(); got != x || !ok {
					t.Fatalf("P8.1: New(%d): Pop of the single item %v = %v, %v", n, x, got, ok)
				}
				if got := a.q.Bases(); got[id%within(n)] != key || len(got) > 1 && got[(id+1)%within(n)] != 0 {
					t.Fatalf("P8.1: New(%d): Bases after Pop of %v = %v", n, x, got)
				}
			}
		}
	}
}

// TestOneShard has all items in one shard, among others that stay empty.
func TestOneShard(t *testing.T) {
	for _, n := range []int{1, 2, 3, 5, 16} {
		for i := range n {
			a := newPair(t, n, 1)
			for k, key := range []uint64{1 << 30, 7, 7, 0, 1 << 19, 64, api.Top, 7} {
				a.fill(item(key, i+k*n))
			}
			if got := a.q.Shard(i); len(got) != 8 {
				t.Fatalf("P8.1: %d shards: Shard(%d) = %v; want all 8 items", n, i, got)
			}
			a.drop(i + 3*n)
			a.drop(i + 4*n)
			a.drain()
			want := make([]uint64, n)
			want[i] = api.Top
			if got := a.q.Bases(); !slices.Equal(got, want) {
				t.Fatalf("P8.1: %d shards: Bases after all of shard %d were popped = %v", n, i, got)
			}
		}
	}
}

// TestPushTwice pushes an ID that is there already, with keys before, at and behind its own.
func TestPushTwice(t *testing.T) {
	for _, n := range counts() {
		a := newPair(t, n, 0)
		ids := []int{0, 1, 2, 16, 17, math.MaxInt - 1, math.MaxInt}
		for _, id := range ids {
			a.fill(item(50, id))
		}
		for _, id := range ids {
			for _, key := range []uint64{0, 49, 50, 51, 1 << 18, api.Top} {
				if a.push(item(key, id)) {
					t.Fatalf("P8.1: New(%d): Push of the ID %d again, with the key %d = true", n, id, key)
				}
			}
		}
		// What was popped or dropped may come again.
		a.pop()
		a.drop(math.MaxInt)
		a.fill(item(50, 0), item(0xffff, math.MaxInt))
		a.drain()
	}
}

// TestNegative pushes, drops and asks for negative IDs, also those that would fall on an ID of the queue if their sign, or a part of their bits, were lost.
func TestNegative(t *testing.T) {
	for _, n := range counts() {
		a := newPair(t, n, 0)
		for range 2 {
			for _, id := range negatives() {
				for _, key := range []uint64{0, 5, api.Top} {
					if a.push(item(key, id)) {
						t.Fatalf("P8.1: New(%d): Push(%v) = true", n, item(key, id))
					}
				}
				if a.q.Has(id) || a.drop(id) {
					t.Fatalf("P8.1: New(%d): Has or Drop of %d = true", n, id)
				}
			}
			a.fill(item(5, 0), item(5, 1), item(5, 2), item(5, 3), item(5, 16), item(5, 17), item(5, 1<<32), item(5, math.MaxInt))
			a.same("Push, Drop and Has of negative IDs")
			a.drain()
		}
	}
}

// TestGreatIDs has the shard of the greatest IDs told by hand.
func TestGreatIDs(t *testing.T) {
	// 2^63 - 1 is divisible by 7, and 2^63 is 2 modulo 3, 3 modulo 5 and 0 modulo 16.
	for n, want := range map[int]int{1: 0, 2: 1, 3: 1, 5: 2, 7: 0, 16: 15, 17: 15} {
		a := newPair(t, n, 0)
		x := item(api.Top, math.MaxInt)
		a.fill(x)
		if got := a.q.Shard(want); !slices.Equal(got, []api.Item{x}) {
			t.Errorf("P8.1: %d shards: Shard(%d) = %v; want %v", n, want, got, x)
		}
		a.fill(item(api.Top, math.MaxInt-1), item(0, 0))
		a.drain()
	}
}

// TestBelowBase pushes keys around the base of one shard while those of the others are lower or higher.
func TestBelowBase(t *testing.T) {
	for _, n := range []int{2, 3, 4, 16} {
		for i := range n {
			a := newPair(t, n, 0)
			other := (i + 1) % n
			a.fill(item(10, other), item(1<<18+70, i))
			a.pop()
			a.pop()
			base := uint64(1<<18 + 70)
			for _, key := range []uint64{0, 9, 10, 11, 1 << 18, base - 1} {
				if a.push(item(key, i+n)) {
					t.Fatalf("P8.1: %d shards: Push of the key %d below the base of its shard, %d = true", n, key, base)
				}
			}
			if a.push(item(9, other+n)) {
				t.Fatalf("P8.1: %d shards: Push of the key 9 below the base of its shard, 10 = true", n)
			}
			// The base itself, and keys between the bases of the two shards.
			a.fill(item(base, i+n), item(10, other+n), item(11, other+2*n), item(base-1, other+3*n), item(api.Top, i+2*n), item(api.Top, other+4*n))
			if n > 2 {
				a.fill(item(0, (i+2)%n))
			}
			a.drain()
		}
	}
}

// TestLesserKeyLater pops from a shard with a lower base what was pushed after a greater key had been popped: its own base becomes this lesser key, and no other changes.
func TestLesserKeyLater(t *testing.T) {
	q := queue.New(3, 0)
	q.Push(item(100, 1))
	q.Pop()
	if !q.Push(item(40, 2)) || !q.Push(item(100, 4)) || !q.Push(item(39, 5)) {
		t.Fatalf("P8.1: Push of keys from the base of their shard on = false")
	}
	for _, want := range []struct {
		x     api.Item
		bases []uint64
	}{{item(39, 5), []uint64{0, 100, 39}}, {item(40, 2), []uint64{0, 100, 40}}, {item(100, 4), []uint64{0, 100, 40}}} {
		x, ok := q.Pop()
		if got := q.Bases(); x != want.x || !ok || !slices.Equal(got, want.bases) {
			t.Fatalf("P8.1: Pop = %v, %v, Bases %v; want %v, %v", x, ok, got, want.x, want.bases)
		}
	}
}

// TestTop pushes the greatest key, at a base below it and at the base Top.
func TestTop(t *testing.T) {
	for _, n := range counts() {
		for _, width := range []int{math.MinInt, 0, 13, 40, math.MaxInt} {
			a := newPair(t, n, width)
			a.fill(item(api.Top, 0), item(api.Top, 1), item(api.Top-1, 2), item(api.Top, 16), item(api.Top, math.MaxInt))
			a.drain()
			m := within(n)
			a.fill(item(api.Top, 0), item(api.Top, m))
			if a.push(item(api.Top-1, 2*m)) || a.push(item(0, 3*m)) {
				t.Fatalf("P8.1: New(%d, %d): Push below the base Top = true", n, width)
			}
			a.drain()
		}
	}
}

// TestDropEach drops each item after each number of pops: the first of all, the first of a shard, and any other.
func TestDropEach(t *testing.T) {
	list := []api.Item{item(4, 0), item(4, 1), item(6, 2), item(9, 3), item(9, 4), item(70, 5), item(1<<18, 6), item(1<<18, 7), item(1<<30, 8), item(2, 9), item(api.Top, 10), item(0, 11)}
	for _, n := range []int{1, 2, 3, 5, 16} {
		for pops := range list {
			for _, x := range list {
				a := newPair(t, n, 0)
				a.fill(list...)
				for range pops {
					a.pop()
				}
				there := a.q.Has(x.ID)
				if a.drop(x.ID) != there || a.drop(x.ID) || a.drop(-1) || a.drop(12) || a.drop(x.ID+len(list)) {
					t.Fatalf("P8.1: %d shards: Drop of %v after %d times Pop", n, x, pops)
				}
				a.drain()
			}
		}
	}
}

// TestDropFirsts drops the first item of a shard, whatever place it has among all, until nothing is left.
func TestDropFirsts(t *testing.T) {
	for _, n := range []int{1, 2, 3, 7, 16} {
		for start := range n {
			a := newPair(t, n, 2)
			for id := range 3 * n {
				a.fill(item(uint64(id*37%11)<<(id%20), id))
			}
			for k := 0; a.q.Len() > 0; k++ {
				if list := a.q.Shard((start + k*5) % n); len(list) > 0 {
					a.drop(list[0].ID)
				} else if x, ok := a.q.Min(); ok {
					a.drop(x.ID)
				}
			}
			if got := a.q.Bases(); slices.Max(got) != 0 {
				t.Fatalf("P8.1: %d shards: Bases after Drop of all items = %v", n, got)
			}
		}
	}
}

// TestDropKeepsBase drops the first item, behind which its shard still takes lesser keys.
func TestDropKeepsBase(t *testing.T) {
	a := newPair(t, 2, 0)
	a.fill(item(10, 0), item(20, 1), item(1<<20, 2))
	a.pop()
	if !a.drop(1) || !a.push(item(3, 1)) || !a.drop(2) || !a.push(item(10, 2)) || a.push(item(9, 4)) {
		t.Errorf("P8.1: Drop has changed a base: %v", a.q.Bases())
	}
	a.drain()
}

// TestStrangers asks for shards that are not there, of an empty queue and of one with items in every shard.
func TestStrangers(t *testing.T) {
	for _, n := range counts() {
		empty, full := newPair(t, n, 0), newPair(t, n, 0)
		for id := range 32 {
			full.fill(item(3, id))
		}
		for _, a := range []*pair{empty, full} {
			for _, i := range strangers(within(n)) {
				if got := a.q.Shard(i); len(got) != 0 {
					t.Fatalf("P8.1: New(%d): Shard(%d) = %v; want none", n, i, got)
				}
			}
			a.same("asking for shards that are not there")
		}
	}
}

// TestEqualKeys has equal keys with different IDs, in one shard and in several: they come out by their IDs.
func TestEqualKeys(t *testing.T) {
	for _, n := range []int{1, 2, 3, 4, 16} {
		for _, key := range []uint64{0, 64, 1 << 18, api.Top} {
			for _, ids := range [][]int{{0, n, 2 * n, 5 * n, 4 * n, 3 * n}, {5, 3, 4, 1, 0, 2}, {math.MaxInt, 0, math.MaxInt - 1, 1, math.MaxInt - n, n + 1}} {
				a := newPair(t, n, 0)
				for _, id := range ids {
					a.push(item(key, id))
				}
				last := -1
				for x, ok := a.pop(); ok; x, ok = a.pop() {
					if x.Key != key || x.ID <= last {
						t.Fatalf("P8.1: %d shards: Pop of equal keys = %v after the ID %d", n, x, last)
					}
					last = x.ID
				}
			}
		}
	}
}

// TestOrders pushes the same items in every order, and pops them one by one.
func TestOrders(t *testing.T) {
	for _, list := range [][]api.Item{
		{item(3, 5), item(1<<18-1, 2), item(1<<18, 1), item(1<<18+200, 3), item(5<<18, 4), item(5<<18, 0)},
		{item(7, 0), item(7, 1), item(7, 2), item(7, 3), item(0, 4), item(api.Top, math.MaxInt)},
	} {
		want := ordered(list)
		for _, n := range []int{1, 2, 3, 4, 16} {
			orders(list, func(order []api.Item) {
				q := queue.New(n, n-1)
				for _, x := range order {
					if !q.Push(x) {
						t.Fatalf("P8.1: %d shards: Push(%v) = false in the order %v", n, x, order)
					}
				}
				if got := q.All(); !slices.Equal(got, want) {
					t.Fatalf("P8.1: %d shards: All of %v = %v", n, order, got)
				}
				for _, x := range want {
					if got, ok := q.Pop(); got != x || !ok {
						t.Fatalf("P8.1: %d shards: Pop after pushing %v = %v, %v; want %v", n, order, got, ok, x)
					}
				}
				if x, ok := q.Pop(); x != (api.Item{}) || ok || q.Len() != 0 {
					t.Fatalf("P8.1: %d shards: Pop after the last item = %v, %v", n, x, ok)
				}
			})
		}
	}
}

// TestLikeHeap holds queues against a heap, where no key is below the last one that was popped.
func TestLikeHeap(t *testing.T) {
	for n := 1; n <= 16; n++ {
		q, h, rand, last := queue.New(n, n%4), heap.New(), next(uint64(n)), uint64(0)
		for range 4000 {
			id := int(rand(60))
			switch rand(8) {
			case 0, 1, 2, 3:
				x := item(last+rand(1<<rand(22)), id)
				if got, want := q.Push(x), h.Push(x); got != want {
					t.Fatalf("P8.1: %d shards: Push(%v) = %v; a heap: %v", n, x, got, want)
				}
			case 4, 5:
				x, ok := q.Pop()
				if y, is := h.Pop(); x != y || ok != is {
					t.Fatalf("P8.1: %d shards: Pop = %v, %v; a heap: %v, %v", n, x, ok, y, is)
				}
				last = max(last, x.Key)
			case 6:
				x, ok := q.Drop(id)
				if y, is := h.Drop(id); x != y || ok != is {
					t.Fatalf("P8.1: %d shards: Drop(%d) = %v, %v; a heap: %v, %v", n, id, x, ok, y, is)
				}
			case 7:
				x, ok := q.Min()
				y, is := h.Min()
				if x != y || ok != is || q.Len() != h.Len() || q.Has(id) != h.Has(id) || !slices.Equal(q.All(), h.All()) {
					t.Fatalf("P8.1: %d shards: Min, Len, Has or All differ from those of a heap: %v, %v", n, q.All(), h.All())
				}
			}
		}
	}
}

func TestAside(t *testing.T) {
	one, two, three := newPair(t, 3, 0), newPair(t, 3, 0), newPair(t, 16, 3)
	all := []*pair{one, two, three}
	rand := next(5)
	for range 600 {
		a, id := all[rand(3)], int(rand(20))
		switch rand(4) {
		case 0, 1:
			a.push(item(rand(1<<rand(20)), id))
		case 2:
			a.pop()
		case 3:
			a.drop(id)
		}
		for _, b := range all {
			b.same("what was done to another queue")
		}
	}
	one.drain()
	two.same("Pop of all items of another queue")
	three.same("Pop of all items of another queue")
}

// TestAnswersAreNew writes into what All, Shard and Bases returned, and beyond its end.
func TestAnswersAreNew(t *testing.T) {
	list := []api.Item{item(5, 0), item(6, 1), item(7, 2), item(70, 3), item(1<<20, 4), item(1<<20, 5), item(1<<30, 6)}
	for _, n := range []int{1, 2, 3, 16} {
		a := newPair(t, n, 0)
		a.fill(list...)
		a.pop()
		lists := [][]api.Item{a.q.All()}
		kept := [][]api.Item{a.q.All()}
		for i := range n {
			lists, kept = append(lists, a.q.Shard(i)), append(kept, a.q.Shard(i))
		}
		bases, keptBases := a.q.Bases(), a.q.Bases()
		for _, l := range lists {
			l = l[:cap(l)]
			for i := range l {
				l[i] = item(1, 99)
			}
			_ = append(l, item(2, 98))
		}
		bases = bases[:cap(bases)]
		for i := range bases {
			bases[i] = 1 << 40
		}
		a.same("writing into what All, Shard and Bases returned")
		for i, l := range kept {
			want := a.p.items
			if i > 0 {
				want = a.p.shard(i - 1)
			}
			if !slices.Equal(l, want) {
				t.Fatalf("R3: %d shards: writing into one answer changes another: %v; want %v", n, l, want)
			}
		}
		if !slices.Equal(keptBases, a.p.bases) {
			t.Fatalf("R3: %d shards: writing into what Bases returned changes another answer: %v", n, keptBases)
		}
		all, first := slices.Clone(kept[0]), slices.Clone(keptBases)
		a.drain()
		a.fill(item(1<<40, 6), item(1<<40, 7))
		if !slices.Equal(kept[0], all) || !slices.Equal(keptBases, first) {
			t.Fatalf("R3: %d shards: Pop and Push change what All and Bases returned: %v, %v", n, kept[0], keptBases)
		}
	}
}

func TestWalk(t *testing.T) {
	for _, n := range []int{math.MinInt, 1, 2, 3, 4, 5, 8, 13, 16, math.MaxInt} {
		a, rand := newPair(t, n, int(uint64(n)%5)), next(uint64(within(n)))
		for range 2500 {
			id := int(rand(42)) - 2
			base := a.p.bases[max(id, 0)%within(n)]
			switch rand(9) {
			case 0, 1, 2:
				a.push(item(base+rand(1<<(rand(22)+1)), id))
			case 3:
				// Around the base, and as often below it as not.
				a.push(item(base+rand(5)-2, id))
			case 4:
				// By the base of another shard.
				a.push(item(a.p.bases[rand(uint64(within(n)))], id))
			case 5, 6:
				a.pop()
			case 7:
				a.drop(id)
			case 8:
				if list := a.q.Shard(int(rand(uint64(within(n))))); len(list) > 0 {
					a.drop(list[0].ID)
				}
			}
			// The keys that wrapped round below 0 have brought a base near Top: start anew below.
			if slices.Max(a.p.bases) > 1<<60 {
				a.drain()
				a = newPair(t, n, 1)
			}
		}
		a.drain()
	}
}
