package shard_test

import (
	"math"
	"slices"
	"testing"

	"weighbridge/api"
	"weighbridge/shard"
	"weighbridge/wheel"
)

func item(key uint64, id int) api.Item { return api.Item{Key: key, ID: id} }

// precedes is the order of items, said apart from the program.
func precedes(a, b api.Item) bool {
	if a.Key != b.Key {
		return a.Key < b.Key
	}
	return a.ID < b.ID
}

// within brings a width into its range.
func within(width int) int {
	switch {
	case width < 0:
		return 0
	case width > 40:
		return 40
	}
	return width
}

// stretch returns how many keys a wheel of that width reaches: those that share all bits from this power of two on.
func stretch(width int) uint64 { return 1 << (within(width) + 18) }

// beyond reports, by division, whether a key that is not below base is out of reach of it.
func beyond(base, key uint64, width int) bool { return base/stretch(width) != key/stretch(width) }

// plain is what a shard is to be: a base, and items in their order.
type plain struct {
	width int
	base  uint64
	items []api.Item
}

func (p *plain) index(id int) int {
	return slices.IndexFunc(p.items, func(x api.Item) bool { return x.ID == id })
}

func (p *plain) push(x api.Item) bool {
	if p.index(x.ID) >= 0 || x.Key < p.base {
		return false
	}
	i := 0
	for i < len(p.items) && precedes(p.items[i], x) {
		i++
	}
	p.items = slices.Insert(p.items, i, x)
	return true
}

func (p *plain) min() (api.Item, bool) {
	if len(p.items) == 0 {
		return api.Item{}, false
	}
	return p.items[0], true
}

func (p *plain) pop() (api.Item, bool) {
	x, ok := p.min()
	if ok {
		p.items, p.base = slices.Delete(p.items, 0, 1), x.Key
	}
	return x, ok
}

func (p *plain) drop(id int) (api.Item, bool) {
	i := p.index(id)
	if i < 0 {
		return api.Item{}, false
	}
	x := p.items[i]
	p.items = slices.Delete(p.items, i, i+1)
	return x, true
}

func (p *plain) move(to uint64) bool {
	if to < p.base || len(p.items) > 0 && to > p.items[0].Key {
		return false
	}
	p.base = to
	return true
}

func (p *plain) over() int {
	n := 0
	for _, x := range p.items {
		if beyond(p.base, x.Key, p.width) {
			n++
		}
	}
	return n
}

// pair is a shard beside what it is to be: whatever is done to the one is done to the other, and every answer is compared.
type pair struct {
	t *testing.T
	s *shard.Shard
	p *plain
}

func newPair(t *testing.T, width int) *pair {
	t.Helper()
	a := &pair{t, shard.New(width), &plain{width: width}}
	a.same("New")
	return a
}

// same asks everything of the shard that can be asked without changing it.
func (a *pair) same(after string) {
	a.t.Helper()
	if got, want := a.s.Base(), a.p.base; got != want {
		a.t.Fatalf("P6.1: width %d: Base after %s = %d; want %d", a.p.width, after, got, want)
	}
	if got, want := a.s.Len(), len(a.p.items); got != want {
		a.t.Fatalf("P6.1: width %d: Len after %s = %d; want %d", a.p.width, after, got, want)
	}
	if got, want := a.s.Over(), a.p.over(); got != want {
		a.t.Fatalf("P6.1: width %d, base %d: Over after %s = %d; want %d, of %v", a.p.width, a.p.base, after, got, want, a.p.items)
	}
	if got := a.s.All(); !slices.Equal(got, a.p.items) {
		a.t.Fatalf("P6.1: width %d: All after %s = %v; want %v", a.p.width, after, got, a.p.items)
	}
	x, is := a.p.min()
	if got, ok := a.s.Min(); got != x || ok != is {
		a.t.Fatalf("P6.1: width %d: Min after %s = %v, %v; want %v, %v", a.p.width, after, got, ok, x, is)
	}
	for _, x := range a.p.items {
		if !a.s.Has(x.ID) {
			a.t.Fatalf("P6.1: width %d: Has(%d) after %s = false", a.p.width, x.ID, after)
		}
	}
}

func (a *pair) push(x api.Item) bool {
	a.t.Helper()
	got, want := a.s.Push(x), a.p.push(x)
	if got != want {
		a.t.Fatalf("P6.1: width %d, base %d: Push(%v) = %v; want %v", a.p.width, a.p.base, x, got, want)
	}
	a.same("Push")
	return got
}

func (a *pair) pop() bool {
	a.t.Helper()
	got, ok := a.s.Pop()
	want, is := a.p.pop()
	if got != want || ok != is {
		a.t.Fatalf("P6.1: width %d: Pop = %v, %v; want %v, %v", a.p.width, got, ok, want, is)
	}
	if ok && a.s.Has(got.ID) {
		a.t.Fatalf("P6.1: width %d: Has(%d) after Pop of %v = true", a.p.width, got.ID, got)
	}
	a.same("Pop")
	return ok
}

func (a *pair) drop(id int) bool {
	a.t.Helper()
	got, ok := a.s.Drop(id)
	want, is := a.p.drop(id)
	if got != want || ok != is {
		a.t.Fatalf("P6.1: width %d: Drop(%d) = %v, %v; want %v, %v", a.p.width, id, got, ok, want, is)
	}
	if a.s.Has(id) {
		a.t.Fatalf("P6.1: width %d: Has(%d) after Drop = true", a.p.width, id)
	}
	a.same("Drop")
	return ok
}

func (a *pair) move(to uint64) bool {
	a.t.Helper()
	got, want := a.s.Move(to), a.p.move(to)
	if got != want {
		a.t.Fatalf("P6.1: width %d, base %d: Move(%d) = %v; want %v", a.p.width, a.p.base, to, got, want)
	}
	a.same("Move")
	return got
}

// fill pushes what must all be taken.
func (a *pair) fill(list []api.Item) {
	a.t.Helper()
	for _, x := range list {
		if !a.push(x) {
			a.t.Fatalf("P6.1: Push(%v) = false after the others of %v", x, list)
		}
	}
}

// drain pops until nothing is left, and once more.
func (a *pair) drain() {
	a.t.Helper()
	for a.pop() {
	}
}

// next returns a small generator of numbers below n, the same at every run.
func next(seed uint64) func(n uint64) uint64 {
	return func(n uint64) uint64 {
		seed = seed*6364136223846793005 + 1442695040888963407
		return (seed >> 20) % n
	}
}

// orders calls f with every order of list, which f must not keep.
func orders(list []api.Item, f func([]api.Item)) {
	if len(list) == 0 {
		f(nil)
		return
	}
	for i, x := range list {
		orders(slices.Delete(slices.Clone(list), i, i+1), func(rest []api.Item) { f(append(rest, x)) })
	}
}

// widths are some of every kind: in range, at both its ends, and out of it on both sides.
func widths() []int {
	return []int{math.MinInt, math.MinInt + 1, -64, -1, 0, 1, 6, 20, 39, api.MaxWidth, api.MaxWidth + 1, 63, 64, 1 << 32, math.MaxInt - 18, math.MaxInt - 1, math.MaxInt}
}

func TestExample(t *testing.T) {
	s := shard.New(0)
	if !s.Push(item(1<<18, 1)) || s.Over() != 1 {
		t.Errorf("P6.1: after Push of (2^18, 1), Over = %d; want 1", s.Over())
	}
	if x, ok := s.Pop(); x != item(1<<18, 1) || !ok || s.Base() != 1<<18 {
		t.Errorf("P6.1: Pop = %v, %v, the base %d", x, ok, s.Base())
	}
	if !s.Push(item(1<<18, 2)) || s.Over() != 0 {
		t.Errorf("P6.1: after Pop and Push of (2^18, 2), Over = %d; want 0", s.Over())
	}
}

func TestEmpty(t *testing.T) {
	for _, width := range widths() {
		fresh, emptied, moved := newPair(t, width), newPair(t, width), newPair(t, width)
		emptied.fill([]api.Item{item(3, -1), item(api.Top, 0), item(5, 1), item(stretch(width)+5, 2)})
		emptied.pop()
		emptied.drop(1)
		emptied.drop(0)
		emptied.pop()
		moved.move(stretch(width) + 9)
		for _, a := range []*pair{fresh, emptied, moved} {
			if x, ok := a.s.Min(); x != (api.Item{}) || ok {
				t.Errorf("P6.1: Min of an empty shard = %v, %v", x, ok)
			}
			for _, id := range []int{math.MinInt, -1, 0, 1, math.MaxInt} {
				if a.s.Has(id) {
					t.Errorf("P6.1: Has(%d) of an empty shard = true", id)
				}
				if a.drop(id) {
					t.Errorf("P6.1: Drop(%d) of an empty shard = true", id)
				}
			}
			if a.pop() {
				t.Errorf("P6.1: Pop of an empty shard = true")
			}
			base := a.s.Base()
			if !a.push(item(base, 0)) || a.push(item(base, 0)) {
				t.Errorf("P6.1: Push at the base of an empty shard is false, or true twice")
			}
			a.drain()
		}
	}
}

// TestReach pushes around the base and around the end of what the wheel reaches from it.
func TestReach(t *testing.T) {
	for _, width := range widths() {
		reach := stretch(width)
		for _, base := range []uint64{0, 1, 63, 64, reach - 1, reach, 5*reach + 77, 0x123456789abcdef0, api.Top - reach, api.Top - 1, api.Top} {
			a := newPair(t, width)
			if !a.move(base) {
				t.Fatalf("P6.1: Move of an empty shard to %d = false", base)
			}
			last := base - base%reach + (reach - 1)
			for id, key := range []uint64{base - 1, base, base + 1, last - 1, last, last + 1, 0, api.Top - 1, api.Top} {
				over := a.s.Over()
				if a.push(item(key, id)) != (key >= base) {
					t.Fatalf("P6.1: width %d, base %d: Push of %d", width, base, key)
				}
				if far := a.s.Over() != over; far != (key > last) {
					t.Fatalf("P6.1: width %d, base %d: Over counts %d: %v", width, base, key, far)
				}
			}
			a.drain()
		}
	}
}

// TestOverByLevel holds Over against the words of the promise: the items whose wheel.Level is 3.
func TestOverByLevel(t *testing.T) {
	for _, width := range widths() {
		s, rand := shard.New(width), next(7)
		for step := range 400 {
			s.Push(item(s.Base()+rand(stretch(width)*2), step))
			if step%3 == 2 {
				s.Pop()
			}
			want := 0
			for _, x := range s.All() {
				if wheel.Level(s.Base(), x.Key, width) == 3 {
					want++
				}
			}
			if got := s.Over(); got != want {
				t.Fatalf("P6.1: width %d, base %d: Over = %d; want %d", width, s.Base(), got, want)
			}
		}
	}
}

// TestPushTwice pushes IDs that are in the wheel and in the heap, with keys that belong into either.
func TestPushTwice(t *testing.T) {
	list := []api.Item{item(9, 4), item(64, -1), item(5000, 7), item(1<<18, 0), item(1<<18, 8), item(api.Top, -9)}
	for _, x := range list {
		for _, key := range []uint64{x.Key, 0, 9, 10, 5001, 1<<18 - 1, 1 << 18, 1<<18 + 1, api.Top} {
			a := newPair(t, 0)
			a.fill(list)
			if a.push(item(key, x.ID)) {
				t.Errorf("P6.1: Push(%v) = true, with %v in the shard", item(key, x.ID), x)
			}
			if !a.drop(x.ID) || a.drop(x.ID) {
				t.Errorf("P6.1: Drop(%d) is false, or true twice", x.ID)
			}
			if !a.push(item(key, x.ID)) {
				t.Errorf("P6.1: Push(%v), whose ID was dropped, = false", item(key, x.ID))
			}
			a.drain()
			if !a.push(item(a.s.Base(), x.ID)) {
				t.Errorf("P6.1: Push of the ID %d, which was popped, = false", x.ID)
			}
		}
	}
}

// TestPushTwiceOverLaterBase pushes an ID again that the base has brought from the heap into the wheel.
func TestPushTwiceOverLaterBase(t *testing.T) {
	a := newPair(t, 0)
	a.fill([]api.Item{item(1<<18+1, 1), item(1<<18+2, 2), item(1<<19, 3)})
	a.move(1 << 18)
	for _, id := range []int{1, 2, 3} {
		for _, key := range []uint64{0, 1<<18 - 1, 1 << 18, 1<<18 + 1, 1<<19 - 1, 1 << 19, api.Top} {
			if a.push(item(key, id)) {
				t.Errorf("P6.1: Push(%v) = true, with that ID in the shard", item(key, id))
			}
		}
	}
	a.drain()
}

// TestAllBeyond asks a shard whose wheel is empty.
func TestAllBeyond(t *testing.T) {
	for _, width := range widths() {
		reach := stretch(width)
		list := []api.Item{item(3*reach+1, 1), item(reach+7, 2), item(api.Top, 3), item(reach+7, -2), item(2*reach-1, 4)}
		a := newPair(t, width)
		a.fill(list)
		if got := a.s.Over(); got != len(list) {
			t.Fatalf("P6.1: width %d: Over = %d; want %d", width, got, len(list))
		}
		if x, ok := a.s.Min(); x != item(reach+7, -2) || !ok {
			t.Errorf("P6.1: width %d: Min of items beyond the wheel = %v, %v", width, x, ok)
		}
		if a.drop(0) || !a.drop(3) || a.s.Has(3) || a.s.Base() != 0 {
			t.Errorf("P6.1: width %d: Drop of items beyond the wheel, the base %d", width, a.s.Base())
		}
		a.pop()
		if a.s.Base() != reach+7 || a.s.Over() != 1 || a.s.Len() != 3 {
			t.Errorf("P6.1: width %d: after Pop, the base is %d, Over %d, Len %d", width, a.s.Base(), a.s.Over(), a.s.Len())
		}
		a.drain()
	}
}

// TestPopRows tells by hand which items come into reach, pop by pop.
func TestPopRows(t *testing.T) {
	s := shard.New(0)
	for _, x := range []api.Item{item(3, 1), item(1<<18-1, 2), item(1<<18, 3), item(1<<18+5, 4), item(1<<19-1, 5), item(1<<19, 6), item(1<<20, 7), item(api.Top, 8)} {
		if !s.Push(x) {
			t.Fatalf("P6.1: Push(%v) = false", x)
		}
	}
	if s.Over() != 6 {
		t.Errorf("P6.1: Over after Push = %d; want 6", s.Over())
	}
	for _, want := range []struct {
		x    api.Item
		over int
	}{
		{item(3, 1), 6},
		// The last of a stretch leaves the base in it, though nothing is left there.
		{item(1<<18-1, 2), 6},
		{item(1<<18, 3), 3},
		{item(1<<18+5, 4), 3},
		{item(1<<19-1, 5), 3},
		{item(1<<19, 6), 2},
		{item(1<<20, 7), 1},
		{item(api.Top, 8), 0},
	} {
		x, ok := s.Pop()
		if x != want.x || !ok || s.Base() != want.x.Key || s.Over() != want.over {
			t.Errorf("P6.1: Pop = %v, %v, the base %d, Over %d; want %v, Over %d", x, ok, s.Base(), s.Over(), want.x, want.over)
		}
	}
	if x, ok := s.Pop(); x != (api.Item{}) || ok || s.Base() != api.Top {
		t.Errorf("P6.1: Pop of none = %v, %v, the base %d", x, ok, s.Base())
	}
}

// TestMoveRows tells by hand which items come into reach as the base is moved.
func TestMoveRows(t *testing.T) {
	s := shard.New(0)
	for _, x := range []api.Item{item(1<<18+5, 1), item(1<<19-1, 2), item(1<<19, 3)} {
		if !s.Push(x) {
			t.Fatalf("P6.1: Push(%v) = false", x)
		}
	}
	for _, x := range []struct {
		to   uint64
		may  bool
		over int
	}{
		{0, true, 3}, {1<<18 - 1, true, 3}, {1<<18 - 2, false, 3}, {1<<18 + 6, false, 3}, {1 << 19, false, 3}, {api.Top, false, 3},
		{1 << 18, true, 1}, {1 << 18, true, 1}, {1<<18 - 1, false, 1}, {0, false, 1}, {1<<18 + 6, false, 1}, {1<<18 + 5, true, 1}, {1<<18 + 4, false, 1},
	} {
		before := s.Base()
		if s.Move(x.to) != x.may || s.Over() != x.over {
			t.Errorf("P6.1: Move from %d to %d is not %v, or Over = %d; want %d", before, x.to, x.may, s.Over(), x.over)
		}
		if want := map[bool]uint64{true: x.to, false: before}[x.may]; s.Base() != want {
			t.Errorf("P6.1: Base after Move(%d) = %d; want %d", x.to, s.Base(), want)
		}
	}
}

// TestMoveUnder moves the base towards a first item that is in the wheel, or beyond it.
func TestMoveUnder(t *testing.T) {
	for _, width := range widths() {
		reach := stretch(width)
		for _, key := range []uint64{1, 64, reach - 1, reach, reach + 1, 2*reach - 1, 2 * reach, 5*reach + 70, api.Top - 1} {
			others := []api.Item{item(key, 2), item(key+1, 3), item(key|63, 4), item(key|(reach-1), 5), item(key-key%reach+(reach-1), 6), item(api.Top, 7)}
			for _, to := range []uint64{0, 1, key / 2, key &^ (reach - 1), key &^ 63, key - 1, key} {
				a := newPair(t, width)
				a.fill(append(others, item(key, 1)))
				if !a.move(to) || !a.move(to) || a.move(key+1) || a.move(api.Top) || to > 0 && (a.move(to-1) || a.move(0)) {
					t.Fatalf("P6.1: width %d: Move to %d under %d, and back, and beyond", width, to, key)
				}
				if to > 0 && a.push(item(to-1, 9)) || !a.push(item(to, 9)) {
					t.Fatalf("P6.1: width %d: Push below the base %d, and at it", width, to)
				}
				if a.drop(9); !a.move(key) {
					t.Fatalf("P6.1: width %d: Move to the key of Min, %d", width, key)
				}
				a.drain()
			}
		}
	}
}

func TestMoveEmpty(t *testing.T) {
	for _, width := range []int{-1, 0, 3, 40, 41} {
		a := newPair(t, width)
		last := uint64(0)
		for _, to := range []uint64{0, 1, 63, 64, 1<<18 - 1, 1 << 18, 1 << 40, 1 << 58, 1<<63 - 1, 1 << 63, api.Top - 1, api.Top} {
			if !a.move(to) || to > last && (a.move(last) || a.move(0)) {
				t.Fatalf("P6.1: Move of an empty shard to %d, and back", to)
			}
			if !a.push(item(to, 1)) || a.s.Over() != 0 || !a.drop(1) {
				t.Fatalf("P6.1: Push and Drop at the base %d", to)
			}
			last = to
		}
		if !a.push(item(api.Top, 1)) || !a.push(item(api.Top, -1)) || a.push(item(0, 2)) {
			t.Fatalf("P6.1: Push at the base Top")
		}
		a.drain()
	}
}

// TestDropEach drops each item, whether it is in the wheel, in the heap, or came from the one into the other.
func TestDropEach(t *testing.T) {
	for _, width := range []int{0, 1, 6, 40} {
		reach := stretch(width)
		list := []api.Item{item(0, 0), item(1, 1), item(1, 2), item(reach-1, 3), item(reach, 4), item(reach, 5), item(reach+66, 6), item(2*reach-1, 7), item(2*reach, 8), item(9*reach, 9), item(api.Top, 10)}
		for pops := range list {
			for _, x := range list {
				a := newPair(t, width)
				a.fill(list)
				for range pops {
					a.pop()
				}
				there := a.s.Has(x.ID)
				if a.drop(x.ID) != there || a.drop(x.ID) || a.s.Has(-1) || a.drop(-1) || a.drop(11) {
					t.Fatalf("P6.1: Drop of %v after %d times Pop", x, pops)
				}
				a.drain()
			}
		}
	}
}

// TestDropOpensTheWay drops the first item, so that the base may move to the next one.
func TestDropOpensTheWay(t *testing.T) {
	a := newPair(t, 0)
	a.fill([]api.Item{item(1<<18, 1), item(1<<19, 2), item(1<<19+9, 3)})
	if a.move(1<<18 + 1) {
		t.Errorf("P6.1: Move beyond an item of the heap = true")
	}
	if !a.drop(1) || a.s.Base() != 0 || a.s.Over() != 2 || !a.move(1<<19) || a.s.Over() != 0 {
		t.Errorf("P6.1: Move to the item behind one that was dropped: the base %d, Over %d", a.s.Base(), a.s.Over())
	}
}

func TestIDs(t *testing.T) {
	ids := []int{0, math.MaxInt, -1, math.MinInt, 1, math.MinInt + 1, math.MaxInt - 1}
	for _, width := range []int{0, 3, 40} {
		reach := stretch(width)
		for _, key := range []uint64{0, 64, reach - 1, reach, reach + 64, api.Top} {
			for _, gone := range ids {
				a := newPair(t, width)
				for _, id := range ids {
					a.fill([]api.Item{item(key, id)})
				}
				a.drop(gone)
				a.pop()
				a.push(item(key, gone))
				a.drain()
			}
		}
	}
}

// TestOrders pushes the same items in every order, and pops them one by one.
func TestOrders(t *testing.T) {
	const reach = 1 << 18
	for _, list := range [][]api.Item{
		{item(3, 5), item(reach-1, 2), item(reach, 1), item(reach+200, 3), item(5*reach, 4), item(5*reach, -4)},
		{item(reach, math.MinInt), item(reach, -1), item(reach, 0), item(reach, math.MaxInt), item(0, 1), item(0, -1<<40)},
		{item(api.Top, 1), item(api.Top, 2), item(api.Top-reach, 3), item(0, 4), item(2*reach, 5), item(2*reach-1, 6)},
	} {
		want := slices.Clone(list)
		slices.SortFunc(want, func(a, b api.Item) int {
			if precedes(a, b) {
				return -1
			}
			return 1
		})
		for _, width := range []int{0, 1, 5, 40} {
			orders(list, func(order []api.Item) {
				s := shard.New(width)
				for _, x := range order {
					if !s.Push(x) {
						t.Fatalf("P6.1: width %d: Push(%v) = false in the order %v", width, x, order)
					}
				}
				if got := s.All(); !slices.Equal(got, want) {
					t.Fatalf("P6.1: width %d: All of %v = %v", width, order, got)
				}
				for _, x := range want {
					if got, ok := s.Pop(); got != x || !ok || s.Base() != x.Key {
						t.Fatalf("P6.1: width %d: Pop after pushing %v = %v, %v, the base %d; want %v", width, order, got, ok, s.Base(), x)
					}
				}
			})
		}
	}
}

// TestWidthsClamped holds shards of widths out of range against those of the nearest width in range.
func TestWidthsClamped(t *testing.T) {
	for _, width := range widths() {
		one, two := shard.New(width), shard.New(within(width))
		for n := range 64 {
			x := item(1<<n, n)
			if one.Push(x) != two.Push(x) || one.Over() != two.Over() {
				t.Fatalf("P6.1: width %d: after Push(%v), Over = %d; want %d", width, x, one.Over(), two.Over())
			}
		}
		for range 64 {
			one.Pop()
			two.Pop()
			if one.Base() != two.Base() || one.Over() != two.Over() {
				t.Fatalf("P6.1: width %d, base %d: Over = %d; want %d", width, one.Base(), one.Over(), two.Over())
			}
		}
	}
}

func TestAside(t *testing.T) {
	one, two := newPair(t, 0), newPair(t, 3)
	one.fill([]api.Item{item(1, 1), item(70, 2), item(1<<18, 3), item(1<<20, 4)})
	two.same("Push into another shard")
	two.fill([]api.Item{item(70, 1), item(3, 2), item(1<<30, 3), item(1<<30+1, 4)})
	one.same("Push into another shard")
	two.move(2)
	two.drop(1)
	two.drop(3)
	two.pop()
	two.pop()
	one.same("Move, Drop and Pop of another shard")
	one.drain()
	two.same("Pop of another shard")
}

func TestAllIsNew(t *testing.T) {
	list := []api.Item{item(1, 1), item(1, 2), item(70, 3), item(1<<20, 4), item(1<<20, 5), item(1<<30, 6)}
	for from := range list {
		a := newPair(t, 1)
		a.fill(list[from:])
		first, second := a.s.All(), a.s.All()
		for i := range first {
			first[i] = item(7, -7)
		}
		_ = append(first[:1], item(8, -8), item(8, -9))
		_ = append(second, item(9, -9))
		if !slices.Equal(second, list[from:]) {
			t.Errorf("R3: writing into what All returned changes another answer: %v", second)
		}
		a.same("writing into what All returned")
		a.drain()
		if !slices.Equal(second, list[from:]) {
			t.Errorf("R3: Pop changes what All returned: %v", second)
		}
	}
}

func TestWalk(t *testing.T) {
	for _, width := range []int{math.MinInt, 0, 1, 2, 6, 13, 40, math.MaxInt} {
		a, rand := newPair(t, width), next(uint64(within(width))+1)
		for range 6000 {
			id := int(rand(40)) - 20
			far := rand(1<<(rand(22)+1))<<within(width) + rand(1<<within(width))
			switch rand(8) {
			case 0, 1, 2, 3:
				a.push(item(a.p.base+far, id))
			case 4, 5:
				a.pop()
			case 6:
				a.drop(id)
			case 7:
				if x, ok := a.p.min(); ok && rand(2) == 0 {
					// Near the first item, on either side.
					a.move(x.Key - rand(3) + 1)
				} else if a.p.base < 1<<63 {
					a.move(a.p.base + far)
				}
			}
			// The base has climbed near Top: start anew below.
			if a.p.base > api.Top-4*stretch(width) {
				a.drain()
				a = newPair(t, width)
			}
		}
		a.drain()
	}
}
