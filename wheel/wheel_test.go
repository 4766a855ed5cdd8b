package wheel_test

import (
	"math"
	"slices"
	"testing"

	"weighbridge/api"
	"weighbridge/wheel"
)

func item(key uint64, id int) api.Item { return api.Item{Key: key, ID: id} }

// precedes is the order of items, said apart from the program.
func precedes(a, b api.Item) bool {
	if a.Key != b.Key {
		return a.Key < b.Key
	}
	return a.ID < b.ID
}

// size returns 2 to the power n.
func size(n int) uint64 {
	p := uint64(1)
	for range n {
		p *= 2
	}
	return p
}

// within brings a width into its range.
func within(width int) int {
	switch {
	case width < 0:
		return 0
	case width > 40:
		return 40
	}
	return width
}

// level is what Level is to be, by division.
func level(base, key uint64, width int) int {
	if key < base {
		return -1
	}
	for l := range 3 {
		if p := size(within(width) + 6*l + 6); base/p == key/p {
			return l
		}
	}
	return 3
}

// bucket is what Bucket is to be, by division.
func bucket(key uint64, level, width int) int {
	if level < 0 || level > 2 {
		return -1
	}
	return int(key / size(within(width)+6*level) % 64)
}

// plain is what a wheel is to be: a base, and items in their order.
type plain struct {
	width int
	base  uint64
	items []api.Item
}

func (p *plain) index(id int) int {
	return slices.IndexFunc(p.items, func(x api.Item) bool { return x.ID == id })
}

func (p *plain) push(x api.Item) bool {
	if l := level(p.base, x.Key, p.width); p.index(x.ID) >= 0 || l < 0 || l > 2 {
		return false
	}
	i := 0
	for i < len(p.items) && precedes(p.items[i], x) {
		i++
	}
	p.items = slices.Insert(p.items, i, x)
	return true
}

func (p *plain) min() (api.Item, bool) {
	if len(p.items) == 0 {
		return api.Item{}, false
	}
	return p.items[0], true
}

func (p *plain) pop() (api.Item, bool) {
	x, ok := p.min()
	if ok {
		p.items, p.base = slices.Delete(p.items, 0, 1), x.Key
	}
	return x, ok
}

func (p *plain) drop(id int) (api.Item, bool) {
	i := p.index(id)
	if i < 0 {
		return api.Item{}, false
	}
	x := p.items[i]
	p.items = slices.Delete(p.items, i, i+1)
	return x, true
}

func (p *plain) move(to uint64) bool {
	if to < p.base || len(p.items) > 0 && to > p.items[0].Key {
		return false
	}
	p.base = to
	return true
}

func (p *plain) bitmap(at int) uint64 {
	var m uint64
	for _, x := range p.items {
		if at >= 0 && at <= 2 && level(p.base, x.Key, p.width) == at {
			m |= size(bucket(x.Key, at, p.width))
		}
	}
	return m
}

// pair is a wheel beside what it is to be: whatever is done to the one is done to the other, and every answer is compared.
type pair struct {
	t *testing.T
	w *wheel.Wheel
	p *plain
}

func newPair(t *testing.T, width int) *pair {
	t.Helper()
	a := &pair{t, wheel.New(width), &plain{width: width}}
	a.same("New")
	return a
}

// same asks everything of the wheel that can be asked without changing it.
func (a *pair) same(after string) {
	a.t.Helper()
	if got, want := a.w.Base(), a.p.base; got != want {
		a.t.Fatalf("P5.2: Base after %s = %d; want %d", after, got, want)
	}
	if got, want := a.w.Len(), len(a.p.items); got != want {
		a.t.Fatalf("P5.2: Len after %s = %d; want %d", after, got, want)
	}
	if got := a.w.All(); !slices.Equal(got, a.p.items) {
		a.t.Fatalf("P5.2: All after %s = %v; want %v", after, got, a.p.items)
	}
	x, is := a.p.min()
	if got, ok := a.w.Min(); got != x || ok != is {
		a.t.Fatalf("P5.2: Min after %s = %v, %v; want %v, %v", after, got, ok, x, is)
	}
	for _, x := range a.p.items {
		if !a.w.Has(x.ID) {
			a.t.Fatalf("P5.2: Has(%d) after %s = false", x.ID, after)
		}
	}
	for _, at := range []int{math.MinInt, -64, -1, 0, 1, 2, 3, 4, 64, math.MaxInt} {
		if got, want := a.w.Map(at), a.p.bitmap(at); got != want {
			a.t.Fatalf("P5.3: width %d, base %d: Map(%d) after %s = %b; want %b", a.p.width, a.p.base, at, after, got, want)
		}
	}
}

func (a *pair) push(x api.Item) bool {
	a.t.Helper()
	got, want := a.w.Push(x), a.p.push(x)
	if got != want {
		a.t.Fatalf("P5.2: width %d, base %d: Push(%v) = %v; want %v", a.p.width, a.p.base, x, got, want)
	}
	a.same("Push")
	return got
}

func (a *pair) pop() bool {
	a.t.Helper()
	got, ok := a.w.Pop()
	want, is := a.p.pop()
	if got != want || ok != is {
		a.t.Fatalf("P5.2: width %d: Pop = %v, %v; want %v, %v", a.p.width, got, ok, want, is)
	}
	if ok && a.w.Has(got.ID) {
		a.t.Fatalf("P5.2: Has(%d) after Pop of %v = true", got.ID, got)
	}
	a.same("Pop")
	return ok
}

func (a *pair) drop(id int) bool {
	a.t.Helper()
	got, ok := a.w.Drop(id)
	want, is := a.p.drop(id)
	if got != want || ok != is {
		a.t.Fatalf("P5.2: width %d: Drop(%d) = %v, %v; want %v, %v", a.p.width, id, got, ok, want, is)
	}
	if a.w.Has(id) {
		a.t.Fatalf("P5.2: Has(%d) after Drop = true", id)
	}
	a.same("Drop")
	return ok
}

func (a *pair) move(to uint64) bool {
	a.t.Helper()
	got, want := a.w.Move(to), a.p.move(to)
	if got != want {
		a.t.Fatalf("P5.2: width %d, base %d: Move(%d) = %v; want %v", a.p.width, a.p.base, to, got, want)
	}
	a.same("Move")
	return got
}

// fill pushes what must all be taken.
func (a *pair) fill(list []api.Item) {
	a.t.Helper()
	for _, x := range list {
		if !a.push(x) {
			a.t.Fatalf("P5.2: Push(%v) = false after the others of %v", x, list)
		}
	}
}

// drain pops until nothing is left, and once more.
func (a *pair) drain() {
	a.t.Helper()
	for a.pop() {
	}
}

// next returns a small generator of numbers below n, the same at every run.
func next(seed uint64) func(n uint64) uint64 {
	return func(n uint64) uint64 {
		seed = seed*6364136223846793005 + 1442695040888963407
		return (seed >> 20) % n
	}
}

// orders calls f with every order of list, which f must not keep.
func orders(list []api.Item, f func([]api.Item)) {
	if len(list) == 0 {
		f(nil)
		return
	}
	for i, x := range list {
		orders(slices.Delete(slices.Clone(list), i, i+1), func(rest []api.Item) { f(append(rest, x)) })
	}
}

func widths() []int {
	return []int{math.MinInt, math.MinInt + 1, -64, -1, 0, 1, 2, 3, 6, 20, 39, api.MaxWidth, api.MaxWidth + 1, 63, 64, 1 << 32, math.MaxInt - 18, math.MaxInt - 1, math.MaxInt}
}

func TestExamples(t *testing.T) {
	for _, x := range []struct {
		key  uint64
		want int
	}{{63, 0}, {64, 1}, {262144, 3}} {
		if got := wheel.Level(0, x.key, 0); got != x.want {
			t.Errorf("P5.1: Level(0, %d, 0) = %d; want %d", x.key, got, x.want)
		}
	}
	w := wheel.New(0)
	if !w.Push(item(64, 7)) || w.Map(1) != 2 || w.Map(0) != 0 || w.Map(2) != 0 {
		t.Errorf("P5.3: after Push of (64, 7), Map is %b, %b, %b", w.Map(0), w.Map(1), w.Map(2))
	}
}

func TestLevelRows(t *testing.T) {
	for _, x := range []struct {
		base, key uint64
		width     int
		want      int
	}{
		{0, 0, 0, 0}, {0, 1, 0, 0}, {0, 63, 0, 0}, {0, 64, 0, 1}, {0, 4095, 0, 1}, {0, 4096, 0, 2}, {0, 262143, 0, 2}, {0, 262144, 0, 3}, {0, api.Top, 0, 3},
		// What is near may differ in a high bit, and what is farther may not.
		{63, 64, 0, 1}, {64, 127, 0, 0}, {4095, 4096, 0, 2}, {4032, 4095, 0, 0}, {262143, 262144, 0, 3}, {1<<63 - 1, 1 << 63, 0, 3}, {1<<63 - 1, 1 << 63, 40, 3},
		{1, 0, 0, -1}, {64, 63, 0, -1}, {262144, 0, 0, -1}, {api.Top, api.Top - 1, 0, -1}, {api.Top, 0, 40, -1}, {3, 2, 40, -1},
		{api.Top, api.Top, 0, 0}, {api.Top - 63, api.Top, 0, 0}, {api.Top - 64, api.Top, 0, 1}, {api.Top - 4095, api.Top, 0, 1}, {api.Top - 4096, api.Top, 0, 2}, {api.Top - 262143, api.Top, 0, 2}, {api.Top - 262144, api.Top, 0, 3},
		{0, 127, 1, 0}, {0, 128, 1, 1}, {0, 1<<46 - 1, 40, 0}, {0, 1 << 46, 40, 1}, {0, 1<<52 - 1, 40, 1}, {0, 1 << 52, 40, 2}, {0, 1<<58 - 1, 40, 2}, {0, 1 << 58, 40, 3}, {api.Top - 1<<58 + 1, api.Top, 40, 2}, {api.Top - 1<<58, api.Top, 40, 3},
		{0, 63, -1, 0}, {0, 64, -1, 1}, {0, 64, math.MinInt, 1}, {0, 1<<46 - 1, 41, 0}, {0, 1 << 46, 41, 1}, {0, 1 << 58, 41, 3}, {0, 1 << 58, math.MaxInt, 3}, {0, 1<<58 - 1, math.MaxInt, 2},
	} {
		if got := wheel.Level(x.base, x.key, x.width); got != x.want {
			t.Errorf("P5.1: Level(%d, %d, %d) = %d; want %d", x.base, x.key, x.width, got, x.want)
		}
	}
}

func TestLevelEdges(t *testing.T) {
	for _, width := range widths() {
		bases := []uint64{0, 1, 63, 64, 1<<63 - 1, 1 << 63, api.Top - 1, api.Top, 0x123456789abcdef0, 0xfedcba9876543210}
		for n := range 64 {
			bases = append(bases, 1<<n-1, 1<<n, 1<<n+1)
		}
		for _, base := range bases {
			keys := []uint64{0, base - 1, base, base + 1, api.Top}
			for n := range 64 {
				// The last key that agrees with the base but for n bits, and the next one.
				last := base | (1<<n - 1)
				keys = append(keys, last, last+1, base^1<<n)
			}
			for _, key := range keys {
				if got, want := wheel.Level(base, key, width), level(base, key, width); got != want {
					t.Fatalf("P5.1: Level(%d, %d, %d) = %d; want %d", base, key, width, got, want)
				}
			}
		}
	}
}

func TestBucketRows(t *testing.T) {
	for _, x := range []struct {
		key          uint64
		level, width int
		want         int
	}{
		{0, 0, 0, 0}, {63, 0, 0, 63}, {64, 0, 0, 0}, {64, 1, 0, 1}, {4095, 1, 0, 63}, {4096, 1, 0, 0}, {4096, 2, 0, 1}, {262143, 2, 0, 63}, {262144, 2, 0, 0}, {api.Top, 0, 0, 63}, {api.Top, 1, 0, 63}, {api.Top, 2, 0, 63},
		{0b101101, 0, 1, 0b10110}, {1 << 40, 0, 40, 1}, {1 << 46, 1, 40, 1}, {1 << 57, 2, 40, 32}, {1 << 58, 2, 40, 0}, {api.Top, 2, 40, 63},
		{64, 1, -1, 1}, {64, 1, math.MinInt, 1}, {1 << 40, 0, 41, 1}, {1 << 57, 2, math.MaxInt, 32},
		{64, 3, 0, -1}, {64, -1, 0, -1}, {1 << 58, 3, 40, -1}, {64, math.MaxInt, 0, -1}, {64, math.MinInt, 0, -1}, {0, 3, -9, -1}, {0, -1, 99, -1}, {api.Top, 1 << 40, 40, -1},
	} {
		if got := wheel.Bucket(x.key, x.level, x.width); got != x.want {
			t.Errorf("P5.1: Bucket(%d, %d, %d) = %d; want %d", x.key, x.level, x.width, got, x.want)
		}
	}
}

func TestBucketEdges(t *testing.T) {
	keys := []uint64{0, api.Top, 0x123456789abcdef0, 0xfedcba9876543210}
	for n := range 64 {
		keys = append(keys, 1<<n-1, 1<<n, 1<<n+1, ^uint64(1<<n))
	}
	for _, width := range widths() {
		for _, at := range []int{math.MinInt, -7, -1, 0, 1, 2, 3, 4, 10, math.MaxInt / 6, math.MaxInt} {
			for _, key := range keys {
				if got, want := wheel.Bucket(key, at, width), bucket(key, at, width); got != want {
					t.Fatalf("P5.1: Bucket(%d, %d, %d) = %d; want %d", key, at, width, got, want)
				}
			}
		}
	}
}

func TestEmpty(t *testing.T) {
	for _, width := range widths() {
		fresh, emptied := newPair(t, width), newPair(t, width)
		emptied.fill([]api.Item{item(3, -1), item(1, 0), item(5, 1)})
		emptied.pop()
		emptied.drop(1)
		emptied.pop()
		for _, a := range []*pair{fresh, emptied} {
			for _, id := range []int{math.MinInt, -1, 0, 1, math.MaxInt} {
				if a.w.Has(id) {
					t.Errorf("P5.2: Has(%d) of an empty wheel = true", id)
				}
				if a.drop(id) {
					t.Errorf("P5.2: Drop(%d) of an empty wheel = true", id)
				}
			}
			if a.pop() {
				t.Errorf("P5.2: Pop of an empty wheel = true")
			}
			base := a.w.Base()
			if !a.push(item(base, 0)) || a.push(item(base, 0)) {
				t.Errorf("P5.2: Push at the base of an empty wheel is false, or true twice")
			}
			a.drain()
		}
	}
}

func TestReach(t *testing.T) {
	for _, width := range widths() {
		reach := size(within(width) + 18)
		for _, base := range []uint64{0, 1, 63, 64, reach - 1, reach, 5*reach + 77, 0x123456789abcdef0, api.Top - reach, api.Top - 1, api.Top} {
			a := newPair(t, width)
			if !a.move(base) {
				t.Fatalf("P5.2: Move of an empty wheel to %d = false", base)
			}
			last := base - base%reach + (reach - 1)
			id := 0
			for _, key := range []uint64{base - 1, base, base + 1, last - 1, last, last + 1, 0, api.Top} {
				if a.push(item(key, id)) != (base <= key && key <= last) {
					t.Fatalf("P5.2: width %d, base %d: Push of %d", width, base, key)
				}
				id++
			}
			a.drain()
		}
	}
}

func TestPushTwice(t *testing.T) {
	list := []api.Item{item(9, 4), item(64, -1), item(64, 0), item(5000, 7)}
	for _, x := range list {
		for _, key := range []uint64{x.Key, 0, 9, 10, 64, 5000, 5001, 262143, 262144, api.Top} {
			a := newPair(t, 0)
			a.fill(list)
			if a.push(item(key, x.ID)) {
				t.Errorf("P5.2: Push(%v) = true, with %v in the wheel", item(key, x.ID), x)
			}
			if !a.drop(x.ID) || a.drop(x.ID) {
				t.Errorf("P5.2: Drop(%d) is false, or true twice", x.ID)
			}
			if a.push(item(key, x.ID)) != (key < 262144) {
				t.Errorf("P5.2: Push(%v), whose ID was dropped", item(key, x.ID))
			}
			a.drain()
			if !a.push(item(a.w.Base(), x.ID)) {
				t.Errorf("P5.2: Push of the ID %d, which was popped, = false", x.ID)
			}
		}
	}
}

func TestOrders(t *testing.T) {
	for _, list := range [][]api.Item{
		{item(3, 5), item(65, 2), item(70, 1), item(200, 3), item(5000, 4), item(5000, -4)},
		{item(0, math.MinInt), item(0, -1), item(0, 0), item(0, 1), item(0, math.MaxInt), item(262143, 7)},
		{item(4096, 1), item(4097, 2), item(4160, 3), item(4160, 4), item(8191, 5), item(8192, 6)},
	} {
		for _, width := range []int{0, 1, 5, 40} {
			orders(list, func(order []api.Item) {
				w := wheel.New(width)
				for _, x := range order {
					if !w.Push(x) {
						t.Fatalf("P5.2: width %d: Push(%v) = false in the order %v", width, x, order)
					}
				}
				want := slices.Clone(list)
				slices.SortFunc(want, func(a, b api.Item) int {
					if precedes(a, b) {
						return -1
					}
					return 1
				})
				if got := w.All(); !slices.Equal(got, want) {
					t.Fatalf("P5.2: width %d: All of %v = %v", width, order, got)
				}
				for _, x := range want {
					if got, ok := w.Pop(); got != x || !ok || w.Base() != x.Key {
						t.Fatalf("P5.2: width %d: Pop after pushing %v = %v, %v, the base %d; want %v", width, order, got, ok, w.Base(), x)
					}
				}
			})
		}
	}
}

func TestIDs(t *testing.T) {
	ids := []int{0, math.MaxInt, -1, math.MinInt, 1, math.MinInt + 1, math.MaxInt - 1}
	for _, width := range []int{0, 3, 40} {
		for _, key := range []uint64{0, 64, 4096, 262143} {
			for _, gone := range ids {
				a := newPair(t, width)
				for _, id := range ids {
					a.fill([]api.Item{item(key, id)})
				}
				a.drop(gone)
				a.pop()
				a.push(item(key, gone))
				a.drain()
			}
		}
	}
}

func TestDropEach(t *testing.T) {
	list := []api.Item{item(0, 0), item(1, 1), item(1, 2), item(65, 3), item(66, 4), item(66, 5), item(4096, 6), item(4099, 7), item(4160, 8), item(8192, 9), item(262143, 10)}
	for _, width := range []int{0, 1, 6, 40} {
		for pops := range list {
			for _, x := range list {
				a := newPair(t, width)
				a.fill(list)
				for range pops {
					a.pop()
				}
				there := a.w.Has(x.ID)
				if a.drop(x.ID) != there || a.drop(x.ID) || a.drop(-1) || a.drop(11) {
					t.Fatalf("P5.2: Drop of %v after %d times Pop", x, pops)
				}
				a.drain()
			}
		}
	}
}

func TestMove(t *testing.T) {
	for _, width := range []int{0, 1, 6, 40} {
		for _, key := range []uint64{64, 100, 4095, 4096, 5000, 262142} {
			key := key << within(width)
			// The other items share a bucket with the first one at some level, or do not.
			others := []api.Item{item(key, 2), item(key+1, 3), item(key|63, 4), item(key|4095, 5), item((262144<<within(width))-1, 6)}
			for _, to := range []uint64{0, 1, 63, 64, key / 2, key &^ 4095, key &^ 63, key - 1, key} {
				a := newPair(t, width)
				a.fill(append(others, item(key, 1)))
				if !a.move(to) || !a.move(to) || a.move(key+1) || a.move(api.Top) || to > 0 && (a.move(to-1) || a.move(0)) {
					t.Fatalf("P5.2: width %d: Move to %d under %d, and back, and beyond", width, to, key)
				}
				if to > 0 && a.push(item(to-1, 9)) || !a.push(item(to, 9)) {
					t.Fatalf("P5.2: width %d: Push below the base %d, and at it", width, to)
				}
				if a.drop(9); !a.move(key) {
					t.Fatalf("P5.2: width %d: Move to the key of Min, %d", width, key)
				}
				a.drain()
			}
		}
	}
}

func TestMoveEmpty(t *testing.T) {
	for _, width := range []int{0, 3, 40} {
		a := newPair(t, width)
		last := uint64(0)
		for _, to := range []uint64{0, 1, 63, 64, 4096, 262143, 262144, 1 << 40, 1 << 58, 1<<63 - 1, 1 << 63, api.Top - 1, api.Top} {
			if !a.move(to) || last > 0 && to > last && (a.move(last) || a.move(0)) {
				t.Fatalf("P5.2: Move of an empty wheel to %d, and back", to)
			}
			if !a.push(item(to, 1)) || !a.drop(1) {
				t.Fatalf("P5.2: Push and Drop at the base %d", to)
			}
			last = to
		}
		if !a.push(item(api.Top, 1)) || !a.push(item(api.Top, -1)) || a.push(item(0, 2)) {
			t.Fatalf("P5.2: Push at the base Top")
		}
		a.drain()
	}
}

// TestMapRows tells bitmaps by hand: an item comes down level by level as the base comes nearer.
func TestMapRows(t *testing.T) {
	w := wheel.New(0)
	for _, x := range []api.Item{item(4096+64+5, 1), item(4096+64+6, 2), item(4096+128, 3), item(8192, 4)} {
		if !w.Push(x) {
			t.Fatalf("P5.2: Push(%v) = false", x)
		}
	}
	maps := func(after string, want [3]uint64) {
		t.Helper()
		if got := [3]uint64{w.Map(0), w.Map(1), w.Map(2)}; got != want {
			t.Errorf("P5.3: Map after %s = %b; want %b", after, got, want)
		}
	}
	maps("Push", [3]uint64{0, 0, 0b110})
	w.Move(4095)
	maps("Move within the level below", [3]uint64{0, 0, 0b110})
	w.Move(4096)
	maps("Move to the bucket of level 2", [3]uint64{0, 0b110, 0b100})
	w.Move(4096 + 64)
	maps("Move to the bucket of level 1", [3]uint64{0b1100000, 0b100, 0b100})
	w.Push(item(4096+65, 5))
	maps("Push over the later base", [3]uint64{0b1100010, 0b100, 0b100})
	w.Drop(1)
	maps("Drop of one of level 0", [3]uint64{0b1000010, 0b100, 0b100})
	w.Pop()
	maps("Pop of one of level 0", [3]uint64{0b1000000, 0b100, 0b100})
	w.Pop()
	maps("Pop of the last of level 0", [3]uint64{0, 0b100, 0b100})
	w.Pop()
	maps("Pop of the last of level 1", [3]uint64{0, 0, 0b100})
	w.Pop()
	maps("Pop of the last", [3]uint64{})
}

// TestPopOver pops items that were pushed over several bases.
func TestPopOver(t *testing.T) {
	for _, width := range []int{0, 2, 7, 40} {
		a := newPair(t, width)
		id := 0
		for round := range 12 {
			for _, far := range []uint64{0, 1, 3, 63, 64, 130, 4095, 4096, 9000} {
				a.push(item(a.w.Base()+far<<width+uint64(round%3), id))
				id++
			}
			for range 7 {
				a.pop()
			}
		}
		a.drain()
	}
}

// TestPrecede asks what follows: levels, and buckets within them, stand in the order of their items.
func TestPrecede(t *testing.T) {
	for _, width := range []int{0, 4, 40} {
		rand := next(uint64(width) + 9)
		for range 200 {
			w := wheel.New(width)
			for id := range 30 {
				w.Push(item(rand(1<<(rand(18)+1))<<width+rand(1<<width), id))
			}
			for range rand(10) {
				w.Pop()
			}
			last := -1
			for _, x := range w.All() {
				l := wheel.Level(w.Base(), x.Key, width)
				at := 64*l + wheel.Bucket(x.Key, l, width)
				if l < 0 || l > 2 || at < last {
					t.Fatalf("What follows of layer 5: width %d, base %d: %v at level %d stands behind a greater level or bucket", width, w.Base(), x, l)
				}
				last = at
			}
		}
	}
}

func TestAside(t *testing.T) {
	one, two := newPair(t, 0), newPair(t, 40)
	list := []api.Item{item(1, 1), item(70, 2), item(5000, 3)}
	one.fill(list)
	two.same("Push into another wheel")
	two.fill([]api.Item{item(70, 1), item(3, 2)})
	one.same("Push into another wheel")
	two.move(2)
	two.drop(1)
	two.pop()
	one.same("Move, Drop and Pop of another wheel")
	one.drain()
	two.same("Pop of another wheel")
}

func TestAllIsNew(t *testing.T) {
	a := newPair(t, 1)
	a.fill([]api.Item{item(1, 1), item(1, 2), item(70, 3), item(9000, 4)})
	first, second := a.w.All(), a.w.All()
	for i := range first {
		first[i] = item(7, -7)
	}
	_ = append(first[:1], item(8, -8), item(8, -9))
	if !slices.Equal(second, a.p.items) {
		t.Errorf("R3: writing into what All returned changes another answer: %v", second)
	}
	a.same("writing into what All returned")
	a.drain()
	if !slices.Equal(second, []api.Item{item(1, 1), item(1, 2), item(70, 3), item(9000, 4)}) {
		t.Errorf("R3: Pop changes what All returned: %v", second)
	}
}

func TestWalk(t *testing.T) {
	for _, width := range []int{math.MinInt, 0, 1, 2, 6, 13, 40, math.MaxInt} {
		a, rand := newPair(t, width), next(uint64(within(width))+1)
		for range 6000 {
			id := int(rand(40)) - 20
			far := rand(1<<(rand(22)+1))<<within(width) + rand(size(within(width)))
			switch rand(8) {
			case 0, 1, 2, 3:
				a.push(item(a.p.base+far, id))
			case 4, 5:
				a.pop()
			case 6:
				a.drop(id)
			case 7:
				if x, ok := a.p.min(); ok && rand(2) == 0 {
					// Near the first item, on either side.
					a.move(x.Key - rand(3) + 1)
				} else {
					a.move(a.p.base + far)
				}
			}
		}
		a.drain()
	}
}
