package heap_test

import (
	"math"
	"slices"
	"testing"

	"weighbridge/api"
	"weighbridge/heap"
)

func item(key uint64, id int) api.Item { return api.Item{Key: key, ID: id} }

// precedes is the order of items, said apart from the program.
func precedes(a, b api.Item) bool {
	if a.Key != b.Key {
		return a.Key < b.Key
	}
	return a.ID < b.ID
}

// ordered returns a copy of list in the order of items, sorted by insertion.
func ordered(list []api.Item) []api.Item {
	var sorted []api.Item
	for _, x := range list {
		i := 0
		for i < len(sorted) && precedes(sorted[i], x) {
			i++
		}
		sorted = slices.Insert(sorted, i, x)
	}
	return sorted
}

// edges are items with the keys and IDs at the edges, in their order.
func edges() []api.Item {
	var list []api.Item
	for k, key := range []uint64{0, 1, 1<<63 - 1, 1 << 63, api.Top - 1, api.Top} {
		// Each ID stands once: six by six of them, near the ends of int and round 0.
		for _, base := range []int{math.MinInt, math.MinInt + 10, -20, 20, math.MaxInt - 19, math.MaxInt - 5} {
			list = append(list, item(key, base+k))
		}
	}
	return list
}

// filled returns a heap into which the items of list were pushed one by one.
func filled(t *testing.T, list []api.Item) *heap.Heap {
	t.Helper()
	h := heap.New()
	for _, x := range list {
		if !h.Push(x) {
			t.Fatalf("P4.1: Push(%v) = false after the others of %v", x, list)
		}
	}
	return h
}

// holds asks everything of h that can be asked without changing it; want is in the order of items.
func holds(t *testing.T, h *heap.Heap, want []api.Item, after string) {
	t.Helper()
	if got := h.Len(); got != len(want) {
		t.Fatalf("P4.1: Len after %s = %d; want %d", after, got, len(want))
	}
	if got := h.All(); !slices.Equal(got, want) {
		t.Fatalf("P4.1: All after %s = %v; want %v", after, got, want)
	}
	var first api.Item
	if len(want) > 0 {
		first = want[0]
	}
	if got, ok := h.Min(); got != first || ok != (len(want) > 0) {
		t.Fatalf("P4.1: Min after %s = %v, %v; want %v, %v", after, got, ok, first, len(want) > 0)
	}
	for _, x := range want {
		if !h.Has(x.ID) {
			t.Fatalf("P4.1: Has(%d) after %s = false", x.ID, after)
		}
	}
}

// drain pops until nothing is left; want is in the order of items.
func drain(t *testing.T, h *heap.Heap, want []api.Item, after string) {
	t.Helper()
	for i, x := range want {
		if got, ok := h.Pop(); got != x || !ok {
			t.Fatalf("P4.1: Pop %d after %s = %v, %v; want %v", i, after, got, ok, x)
		}
		if h.Has(x.ID) || h.Len() != len(want)-i-1 {
			t.Fatalf("P4.1: after %s, Pop of %v leaves it, or %d items", after, x, h.Len())
		}
	}
	if got, ok := h.Pop(); got != (api.Item{}) || ok {
		t.Fatalf("P4.1: Pop of what is emptied after %s = %v, %v", after, got, ok)
	}
}

// orders calls f with every order of list, which f must not keep.
func orders(list []api.Item, f func([]api.Item)) {
	if len(list) == 0 {
		f(nil)
		return
	}
	for i, x := range list {
		orders(slices.Delete(slices.Clone(list), i, i+1), func(rest []api.Item) { f(append(rest, x)) })
	}
}

func TestEmpty(t *testing.T) {
	h := heap.New()
	emptied := filled(t, []api.Item{item(0, 0), item(3, -1)})
	emptied.Pop()
	emptied.Drop(-1)
	for _, h := range []*heap.Heap{h, emptied} {
		for _, id := range []int{math.MinInt, -1, 0, 1, math.MaxInt} {
			if h.Has(id) {
				t.Errorf("P4.1: Has(%d) of an empty heap = true", id)
			}
			if x, ok := h.Drop(id); x != (api.Item{}) || ok {
				t.Errorf("P4.1: Drop(%d) of an empty heap = %v, %v", id, x, ok)
			}
		}
		if x, ok := h.Pop(); x != (api.Item{}) || ok {
			t.Errorf("P4.1: Pop of an empty heap = %v, %v", x, ok)
		}
		holds(t, h, nil, "calls on an empty heap")
		if !h.Push(item(0, 0)) {
			t.Errorf("P4.1: Push after calls on an empty heap = false")
		}
		holds(t, h, []api.Item{item(0, 0)}, "Push into an empty heap")
	}
}

func TestPushTwice(t *testing.T) {
	list := []api.Item{item(0, 4), item(5, -1), item(5, 0), item(api.Top, 7)}
	for _, x := range list {
		for _, key := range []uint64{x.Key, 0, 1, 5, 6, api.Top - 1, api.Top} {
			h := filled(t, list)
			if h.Push(item(key, x.ID)) {
				t.Errorf("P4.1: Push(%v) = true, with %v in the heap", item(key, x.ID), x)
			}
			holds(t, h, list, "Push of an ID that is there")
			drain(t, h, list, "Push of an ID that is there")
			if y := item(key, x.ID); !h.Push(y) || h.Push(y) {
				t.Errorf("P4.1: Push of %v, which was popped, is false, or true twice", y)
			}
		}
	}
}

// drainLater pushes items behind all others before it pops: they keep an item in its place that Drop may have left where it must not stand.
func drainLater(t *testing.T, h *heap.Heap, want []api.Item, after string) {
	t.Helper()
	want = slices.Clone(want)
	for i := range 8 {
		x := item(100, 100+i)
		h.Push(x)
		want = append(want, x)
	}
	drain(t, h, want, after)
}

// Every item of every heap of six is dropped: wherever it stands in the order, and wherever it was put.
func TestDrop(t *testing.T) {
	list := []api.Item{item(1, 9), item(2, 8), item(2, 11), item(4, -3), item(4, 0), item(7, 1)}
	orders(list, func(pushed []api.Item) {
		for i, x := range list {
			h := filled(t, pushed)
			if got, ok := h.Drop(x.ID); got != x || !ok {
				t.Fatalf("P4.1: Drop(%d) of %v = %v, %v; want %v", x.ID, pushed, got, ok, x)
			}
			rest := slices.Delete(slices.Clone(list), i, i+1)
			if h.Has(x.ID) {
				t.Fatalf("P4.1: Has(%d) after Drop = true", x.ID)
			}
			holds(t, h, rest, "Drop")
			if got, ok := h.Drop(x.ID); got != (api.Item{}) || ok {
				t.Fatalf("P4.1: Drop(%d) again = %v, %v", x.ID, got, ok)
			}
			holds(t, h, rest, "Drop again")
			drainLater(t, h, rest, "Drop")
		}
	})
}

// An item that fills a gap in another branch must move up: 6 (or 3, if it is the last) in the gap of 11 or 12, below 10.
func TestDropMovesUp(t *testing.T) {
	whole := []api.Item{item(1, 1), item(10, 10), item(2, 2), item(11, 11), item(12, 12), item(3, 3), item(6, 6)}
	for n := range len(whole) + 1 {
		list := whole[:n]
		for _, x := range list {
			h := filled(t, list)
			h.Drop(x.ID)
			rest := ordered(slices.DeleteFunc(slices.Clone(list), func(y api.Item) bool { return x == y }))
			holds(t, h, rest, "Drop")
			drainLater(t, h, rest, "Drop")
		}
	}
}

func TestAbsent(t *testing.T) {
	list := edges()
	h := filled(t, list)
	for _, id := range []int{math.MinInt + 6, -21, -14, -1, 0, 1, 26, math.MaxInt - 13, math.MaxInt - 6} {
		if h.Has(id) {
			t.Errorf("P4.1: Has(%d) = true", id)
		}
		if x, ok := h.Drop(id); x != (api.Item{}) || ok {
			t.Errorf("P4.1: Drop(%d) = %v, %v", id, x, ok)
		}
	}
	holds(t, h, list, "Drop of what is not there")
}

func TestEdges(t *testing.T) {
	list := edges()
	if !slices.Equal(list, ordered(list)) || list[0].ID != math.MinInt || list[len(list)-1].ID != math.MaxInt {
		t.Fatalf("the edges are not laid out as meant: %v", list)
	}
	h := filled(t, list)
	holds(t, h, list, "Push of the edges")
	drain(t, h, list, "Push of the edges")
	back := slices.Clone(list)
	slices.Reverse(back)
	h = filled(t, back)
	holds(t, h, list, "Push of the edges backward")
	for i := len(list) - 1; i >= 0; i-- {
		if got, ok := h.Drop(list[i].ID); got != list[i] || !ok {
			t.Errorf("P4.1: Drop(%d) = %v, %v; want %v", list[i].ID, got, ok, list[i])
		}
		holds(t, h, list[:i], "Drop of the edges")
	}
}

// What follows: the same items in every order of pushing.
func TestOrders(t *testing.T) {
	for _, list := range [][]api.Item{
		{item(0, 5), item(1, 4), item(2, 3), item(3, 2), item(4, 1), item(5, 0), item(6, -1)},
		{item(3, math.MinInt), item(3, -2), item(3, -1), item(3, 0), item(3, 1), item(3, 2), item(3, math.MaxInt)},
		{item(0, 0), item(0, 9), item(5, -9), item(5, 3), item(5, 4), item(api.Top, -1), item(api.Top, 1)},
	} {
		orders(list, func(pushed []api.Item) {
			drain(t, filled(t, pushed), list, "Push in another order")
		})
	}
}

func TestExample(t *testing.T) {
	h := filled(t, []api.Item{item(5, 1), item(5, 0)})
	if x, ok := h.Pop(); x != item(5, 0) || !ok {
		t.Errorf("P4.1: the example: Pop = %v, %v; want (5, 0)", x, ok)
	}
}

// R2: two heaps with the same IDs do not touch each other.
func TestSideBySide(t *testing.T) {
	list := []api.Item{item(1, 1), item(2, 2), item(3, 3)}
	other := []api.Item{item(4, 3), item(5, 2), item(6, 1)}
	a, b := heap.New(), heap.New()
	for i := range list {
		if !a.Push(list[i]) || !b.Push(other[i]) {
			t.Fatalf("R2: Push into two heaps by turns, turn %d", i)
		}
	}
	holds(t, a, list, "Push into another heap")
	holds(t, b, other, "Push into another heap")
	a.Drop(2)
	a.Pop()
	holds(t, a, list[2:], "Drop and Pop")
	holds(t, b, other, "Drop and Pop of another heap")
	drain(t, b, other, "Drop and Pop of another heap")
	holds(t, a, list[2:], "Pop of another heap")
}

// R3: what All returned belongs to its reader, within its length and beyond it.
func TestAllIsNew(t *testing.T) {
	list := []api.Item{item(1, 1), item(2, 2), item(3, 3), item(4, 4), item(5, 5)}
	h := filled(t, list)
	first, second := h.All(), h.All()
	for i := range first {
		first[i] = item(9, 9)
	}
	_ = append(first, item(9, 9))
	if !slices.Equal(second, list) {
		t.Errorf("R3: writing to one answer of All changes another: %v", second)
	}
	holds(t, h, list, "writing to what All returned")
	h.Push(item(0, 0))
	h.Drop(3)
	if !slices.Equal(second, list) {
		t.Errorf("R3: Push and Drop change what All returned before: %v", second)
	}
}

// A long walk, against a list that is kept in order.
func TestWalk(t *testing.T) {
	h := heap.New()
	var list []api.Item
	seed := uint64(1)
	next := func(n int) int {
		seed = seed*6364136223846793005 + 1442695040888963407
		return int(seed>>33) % n
	}
	for range 20000 {
		id := next(70) - 35
		at := slices.IndexFunc(list, func(x api.Item) bool { return x.ID == id })
		var after string
		switch next(5) {
		case 0, 1, 2:
			x := item(uint64(next(40)), id)
			after = "Push"
			if got := h.Push(x); got != (at < 0) {
				t.Fatalf("P4.1: Push(%v) = %v, with %v", x, got, list)
			}
			if at < 0 {
				list = ordered(append(list, x))
			}
		case 3:
			after = "Drop"
			x, ok := h.Drop(id)
			if at < 0 {
				if ok || x != (api.Item{}) {
					t.Fatalf("P4.1: Drop(%d) = %v, %v, with %v", id, x, ok, list)
				}
				break
			}
			if !ok || x != list[at] {
				t.Fatalf("P4.1: Drop(%d) = %v, %v, with %v", id, x, ok, list)
			}
			list = slices.Delete(list, at, at+1)
		case 4:
			after = "Pop"
			x, ok := h.Pop()
			if ok != (len(list) > 0) || ok && x != list[0] {
				t.Fatalf("P4.1: Pop = %v, %v, with %v", x, ok, list)
			}
			list = list[min(1, len(list)):]
		}
		holds(t, h, list, after)
	}
	drain(t, h, list, "the walk")
}
