package flow_test

import (
	"math"
	"math/big"
	"slices"
	"testing"

	"weighbridge/api"
	"weighbridge/flow"
)

func packet(size, mark int) api.Packet { return api.Packet{Flow: 7, Len: size, Mark: mark} }

// within brings a number of packets into its range.
func within(most int) int {
	switch {
	case most < 1:
		return 1
	case most > 8:
		return 8
	}
	return most
}

// after returns start + size * r, but at most Top, where a negative size counts as 0; it is said apart from the program, with numbers of any size.
func after(start uint64, size int, r uint64) uint64 {
	sum := new(big.Int)
	if size > 0 {
		sum.Mul(big.NewInt(int64(size)), new(big.Int).SetUint64(r))
	}
	sum.Add(sum, new(big.Int).SetUint64(start))
	if !sum.IsUint64() {
		return api.Top
	}
	return sum.Uint64()
}

// plain is what a flow is to be: start holds while there are packets.
type plain struct {
	r             uint64
	most          int
	start, finish uint64
	packets       []api.Packet
}

func (p *plain) arrive(v uint64, x api.Packet) bool {
	if len(p.packets) >= p.most {
		return false
	}
	if len(p.packets) == 0 {
		p.start = p.finish
		if v > p.finish {
			p.start = v
		}
	}
	p.packets = append(slices.Clone(p.packets), x)
	return true
}

func (p *plain) serve() (api.Packet, uint64, bool) {
	if len(p.packets) == 0 {
		return api.Packet{}, 0, false
	}
	x := p.packets[0]
	p.packets = slices.Clone(p.packets[1:])
	p.finish = after(p.start, x.Len, p.r)
	p.start = p.finish
	return x, p.finish, true
}

// pair is a flow beside what it is to be: whatever is done to the one is done to the other, and every answer is compared.
type pair struct {
	t                     *testing.T
	f                     *flow.Flow
	p                     *plain
	lastStart, lastFinish uint64
}

func newPair(t *testing.T, r uint64, most int) *pair {
	t.Helper()
	a := &pair{t: t, f: flow.New(r, most), p: &plain{r: r, most: within(most)}}
	a.same("New")
	return a
}

// copied returns a pair of copies.
func (a *pair) copied() *pair {
	a.t.Helper()
	p := *a.p
	b := &pair{t: a.t, f: a.f.Copy(), p: &p, lastStart: a.lastStart, lastFinish: a.lastFinish}
	b.same("Copy, in the copy")
	a.same("Copy")
	return b
}

// same asks everything of the flow that can be asked without changing it.
func (a *pair) same(behind string) {
	a.t.Helper()
	var head api.Packet
	var start uint64
	some := len(a.p.packets) > 0
	if some {
		head, start = a.p.packets[0], a.p.start
	}
	// Asked twice, as asking must change nothing.
	for range 2 {
		if got, ok := a.f.Head(); got != head || ok != some {
			a.t.Fatalf("P9.1: Head behind %s = %v, %v; want %v, %v", behind, got, ok, head, some)
		}
		if got, ok := a.f.Start(); got != start || ok != some {
			a.t.Fatalf("P9.1: Start behind %s = %d, %v; want %d, %v", behind, got, ok, start, some)
		}
		if got := a.f.Finish(); got != a.p.finish {
			a.t.Fatalf("P9.1: Finish behind %s = %d; want %d", behind, got, a.p.finish)
		}
		if got := a.f.Len(); got != len(a.p.packets) {
			a.t.Fatalf("P9.2: Len behind %s = %d; want %d", behind, got, len(a.p.packets))
		}
	}
	a.rises(behind)
}

// rises holds the tags against those that were told before.
func (a *pair) rises(behind string) {
	a.t.Helper()
	if finish := a.f.Finish(); finish < a.lastFinish {
		a.t.Fatalf("What follows: Finish behind %s = %d, and %d before", behind, finish, a.lastFinish)
	} else {
		a.lastFinish = finish
	}
	start, ok := a.f.Start()
	if !ok {
		return
	}
	if start < a.lastStart || start < a.lastFinish {
		a.t.Fatalf("What follows: Start behind %s = %d, with %d before, and the finish tag %d", behind, start, a.lastStart, a.lastFinish)
	}
	a.lastStart = start
}

func (a *pair) arrive(v uint64, x api.Packet) bool {
	a.t.Helper()
	got, want := a.f.Arrive(v, x), a.p.arrive(v, x)
	if got != want {
		a.t.Fatalf("P9.1: Arrive(%d, %v) = %v with %d packets of at most %d; want %v", v, x, got, len(a.p.packets), a.p.most, want)
	}
	a.same("Arrive")
	return got
}

func (a *pair) serve() (api.Packet, uint64, bool) {
	a.t.Helper()
	got, finish, ok := a.f.Serve()
	want, n, is := a.p.serve()
	if got != want || finish != n || ok != is {
		a.t.Fatalf("P9.2: r of %d: Serve = %v, %d, %v; want %v, %d, %v", a.p.r, got, finish, ok, want, n, is)
	}
	a.same("Serve")
	return got, finish, ok
}

// drain serves until nothing is left, and once more.
func (a *pair) drain() {
	a.t.Helper()
	for ok := true; ok; {
		_, _, ok = a.serve()
	}
}

// next returns a small generator of numbers below n, the same at every run.
func next(seed uint64) func(n uint64) uint64 {
	return func(n uint64) uint64 {
		seed = seed*6364136223846793005 + 1442695040888963407
		return (seed >> 20) % n
	}
}

// rooms are numbers of packets of every kind: in range, and out of it on both sides.
func rooms() []int {
	return []int{math.MinInt, math.MinInt + 1, -1 << 32, -8, -1, 0, 1, 2, 3, 4, 5, 6, 7, 8, 9, 10, 16, 256, 257, 1 << 32, 1<<32 + 1, math.MaxInt - 1, math.MaxInt}
}

// times are virtual times and tags at the edges.
func times() []uint64 {
	return []uint64{0, 1, 2, 1<<32 - 1, 1 << 32, 1<<63 - 1, 1 << 63, 1<<63 + 1, api.Top - 1, api.Top}
}

// prices are what a unit of length costs.
func prices() []uint64 {
	return []uint64{0, 1, 2, 3, 333, 1<<32 - 1, 1 << 32, 1<<48 + 5, 1 << 62, 1 << 63, api.Top - 1, api.Top}
}

// sizes are lengths at the edges, wrong ones among them.
func sizes() []int {
	return []int{math.MinInt, math.MinInt + 1, -1 << 32, -2, -1, 0, 1, 2, 3, 1500, 65535, 65536, 65537, 1<<32 - 1, 1 << 32, math.MaxInt - 1, math.MaxInt}
}

// marks are values of Flow and Mark of every kind.
func marks() []int {
	return []int{math.MinInt, -1 << 32, -1, 0, 1, 1 << 20, 1<<20 + 1, 1 << 32, math.MaxInt}
}

func TestExample(t *testing.T) {
	f := flow.New(10, 2)
	if !f.Arrive(7, packet(3, 0)) {
		t.Fatal("P9.1: Arrive = false")
	}
	if v, ok := f.Start(); v != 7 || !ok {
		t.Errorf("P9.1: Start = %d, %v; want 7", v, ok)
	}
	if x, finish, ok := f.Serve(); x != packet(3, 0) || finish != 37 || !ok {
		t.Errorf("P9.2: Serve = %v, %d, %v; want the finish tag 37", x, finish, ok)
	}
}

// TestNew has flows of every price and room without packets, of which nothing can be had.
func TestNew(t *testing.T) {
	for _, r := range prices() {
		for _, most := range rooms() {
			a := newPair(t, r, most)
			if a.f.Len() != 0 || a.f.Finish() != 0 {
				t.Fatalf("P9.1: New(%d, %d): Len %d, Finish %d; want 0", r, most, a.f.Len(), a.f.Finish())
			}
			for range 3 {
				if x, finish, ok := a.serve(); x != (api.Packet{}) || finish != 0 || ok {
					t.Fatalf("P9.2: New(%d, %d): Serve without packets = %v, %d, %v", r, most, x, finish, ok)
				}
			}
			a.arrive(9, packet(4, 1))
			a.drain()
		}
	}
}

// TestMost fills flows, turns away what comes then, and takes one more behind each Serve.
func TestMost(t *testing.T) {
	for _, most := range rooms() {
		a := newPair(t, 5, most)
		for mark := range within(most) {
			if !a.arrive(uint64(mark), packet(mark, mark)) {
				t.Fatalf("P9.1: New(5, %d): Arrive with %d packets = false", most, mark)
			}
		}
		for round := range 20 {
			for _, v := range times() {
				if a.arrive(v, packet(1, -1)) {
					t.Fatalf("P9.1: New(5, %d): Arrive(%d) with %d packets = true", most, v, a.f.Len())
				}
			}
			if x, _, ok := a.serve(); x.Mark != round || !ok {
				t.Fatalf("P9.2: New(5, %d): Serve = %v, %v; want the mark %d", most, x, ok, round)
			}
			if !a.arrive(3, packet(1, round+within(most))) {
				t.Fatalf("P9.1: New(5, %d): Arrive behind Serve = false", most)
			}
		}
		a.drain()
	}
}

// TestTimes has a packet come at each virtual time to a flow with each finish tag, with no packets and with some.
func TestTimes(t *testing.T) {
	for _, finish := range times() {
		for _, v := range append(times(), finish-1, finish, finish+1) {
			for _, r := range prices() {
				a := newPair(t, r, 3)
				a.arrive(finish, packet(0, 1))
				if _, got, _ := a.serve(); got != finish {
					t.Fatalf("P9.2: Serve of a packet of length 0 = %d; want %d", got, finish)
				}
				a.arrive(v, packet(2, 2))
				if got, ok := a.f.Start(); got != max(v, finish) || !ok {
					t.Fatalf("P9.1: Start behind Arrive(%d) at the finish tag %d = %d, %v", v, finish, got, ok)
				}
				for _, w := range []uint64{0, v, api.Top} {
					a.arrive(w, packet(1, 3))
				}
				a.drain()
				a.arrive(v, packet(1, 4))
				a.drain()
			}
		}
	}
}

// TestLengths has packets of every length at every price: each alone, and behind another one.
func TestLengths(t *testing.T) {
	for _, size := range sizes() {
		for _, r := range prices() {
			for _, v := range times() {
				a := newPair(t, r, 8)
				for mark := range 3 {
					a.arrive(v, packet(size, mark))
				}
				a.drain()
			}
		}
	}
}

// TestTop has sums and products that reach Top by one, and that miss it by one.
func TestTop(t *testing.T) {
	for _, c := range []struct {
		v, r uint64
		size int
		want uint64
	}{
		{0, api.Top, 0, 0},
		{0, api.Top, 1, api.Top},
		{1, api.Top, 1, api.Top},
		{0, api.Top, -1, 0},
		{0, api.Top, math.MinInt, 0},
		{0, 1, math.MaxInt, math.MaxInt},
		{0, 2, math.MaxInt, api.Top - 1},
		{1, 2, math.MaxInt, api.Top},
		{2, 2, math.MaxInt, api.Top},
		{0, 3, math.MaxInt, api.Top},
		{0, api.Top, math.MaxInt, api.Top},
		{0, 1<<32 - 1, 1<<32 + 1, api.Top},
		{0, 1 << 32, 1<<32 - 1, api.Top - 1<<32 + 1},
		{0, 1 << 32, 1 << 32, api.Top},
		{api.Top - 6, 3, 2, api.Top},
		{api.Top - 7, 3, 2, api.Top - 1},
		{api.Top - 5, 3, 2, api.Top},
		{api.Top, 0, math.MaxInt, api.Top},
		{api.Top, 3, -2, api.Top},
		{api.Top - 1, 0, math.MaxInt, api.Top - 1},
		{5, 3, -2, 5},
	} {
		a := newPair(t, c.r, 2)
		a.arrive(c.v, packet(c.size, 1))
		if _, got, ok := a.serve(); got != c.want || !ok {
			t.Errorf("P9.2: Serve of the length %d, with the start tag %d and r of %d = %d, %v; want %d", c.size, c.v, c.r, got, ok, c.want)
		}
		// What has reached Top stays there.
		a.arrive(0, packet(1, 2))
		a.arrive(0, packet(1, 3))
		a.drain()
	}
}

// TestBacklogged has a flow that is never without packets: its finish tags are sums of costs, whatever the virtual times are.
func TestBacklogged(t *testing.T) {
	lens := []int{3, 0, 1, -4, 7, 65536, 2, 2}
	for most := 2; most <= 8; most++ {
		for _, r := range []uint64{0, 1, 10, 1 << 20} {
			a := newPair(t, r, most)
			sum, came := uint64(100), 0
			for ; came < most; came++ {
				a.arrive(uint64(100+1000*came), packet(lens[came], came))
			}
			for i := range 40 {
				size := lens[i%len(lens)]
				if start, ok := a.f.Start(); start != sum || !ok {
					t.Fatalf("P9.2: packet %d of a flow with room for %d: Start = %d, %v; want %d", i, most, start, ok, sum)
				}
				sum += uint64(max(size, 0)) * r
				if x, finish, ok := a.serve(); x != packet(size, i) || finish != sum || !ok {
					t.Fatalf("P9.2: packet %d of a flow with room for %d: Serve = %v, %d, %v; want the finish tag %d", i, most, x, finish, ok, sum)
				}
				if came < 40 {
					a.arrive(api.Top-uint64(i), packet(lens[came%len(lens)], came))
					came++
				}
			}
			if a.f.Len() != 0 || a.f.Finish() != sum {
				t.Fatalf("P9.2: behind the last packet: Len %d, Finish %d; want 0, %d", a.f.Len(), a.f.Finish(), sum)
			}
			a.drain()
		}
	}
}

// TestAsTheyCame has packets with Flow, Len and Mark of any value, which are told just so, in their order.
func TestAsTheyCame(t *testing.T) {
	var list []api.Packet
	for _, id := range marks() {
		for _, mark := range marks() {
			for _, size := range sizes() {
				list = append(list, api.Packet{Flow: id, Len: size, Mark: mark})
			}
		}
	}
	for _, most := range []int{1, 2, 3, 8} {
		a := newPair(t, 1, most)
		came := 0
		for i, want := range list {
			for came < len(list) && a.arrive(0, list[came]) {
				came++
			}
			if x, ok := a.f.Head(); x != want || !ok {
				t.Fatalf("P9.1: Head of packet %d = %v, %v; want %v", i, x, ok, want)
			}
			if x, _, ok := a.serve(); x != want || !ok {
				t.Fatalf("P9.2: Serve of packet %d = %v, %v; want %v", i, x, ok, want)
			}
		}
		a.drain()
	}
}

// TestBehindTheLast asks a flow for which packets have come and gone.
func TestBehindTheLast(t *testing.T) {
	for _, most := range rooms() {
		a := newPair(t, 4, most)
		for round := range uint64(5) {
			a.arrive(10*round, packet(2, 1))
			a.drain()
			want := 10*round + 8
			if got := a.f.Finish(); got != want || a.f.Len() != 0 {
				t.Fatalf("P9.2: New(4, %d): behind the last packet: Finish %d, Len %d; want %d, 0", most, got, a.f.Len(), want)
			}
			if x, ok := a.f.Head(); x != (api.Packet{}) || ok {
				t.Fatalf("P9.1: New(4, %d): Head behind the last packet = %v, %v", most, x, ok)
			}
			if v, ok := a.f.Start(); v != 0 || ok {
				t.Fatalf("P9.1: New(4, %d): Start behind the last packet = %d, %v", most, v, ok)
			}
			if x, finish, ok := a.f.Serve(); x != (api.Packet{}) || finish != 0 || ok || a.f.Finish() != want {
				t.Fatalf("P9.2: New(4, %d): Serve behind the last packet = %v, %d, %v; Finish %d", most, x, finish, ok, a.f.Finish())
			}
		}
	}
}

// TestCopy copies flows with each number of packets, served or not, and lets the copy, the flow and a copy of the copy go their own ways.
func TestCopy(t *testing.T) {
	for _, most := range []int{0, 1, 2, 3, 8, 9} {
		for came := range within(most) + 1 {
			for gone := range came + 1 {
				a := newPair(t, 3, most)
				for mark := range came {
					a.arrive(20, packet(mark+1, mark))
				}
				for range gone {
					a.serve()
				}
				b := a.copied()
				c := b.copied()
				for round := range 3 {
					a.arrive(30, packet(5, 100+round))
					b.same("Arrive at the flow it was copied from")
					b.arrive(1000, packet(7, 200+round))
					a.same("Arrive at its copy")
					c.same("Arrive at the copy it was copied from")
					c.serve()
					c.arrive(40, packet(9, 300+round))
					b.serve()
					a.same("Serve of its copy")
				}
				b.drain()
				a.same("Serve of all packets of its copy")
				a.drain()
				c.same("Serve of all packets of the flows it was copied from")
				c.drain()
			}
		}
	}
}

// TestCopyTakesAsMuch has a copy with the price and the room of the flow, and its finish tag.
func TestCopyTakesAsMuch(t *testing.T) {
	for _, most := range rooms() {
		for _, r := range prices() {
			a := newPair(t, r, most)
			a.arrive(11, packet(2, 0))
			a.serve()
			b := a.copied()
			if b.f.Finish() != after(11, 2, r) {
				t.Fatalf("P9.2: Copy: Finish = %d; want %d", b.f.Finish(), after(11, 2, r))
			}
			for mark := range within(most) + 1 {
				if b.arrive(0, packet(1, mark)) != (mark < within(most)) {
					t.Fatalf("P9.2: Copy of a flow of New(%d, %d): Arrive with %d packets", r, most, mark)
				}
			}
			b.drain()
			a.same("Serve of its copy")
		}
	}
}

func TestAside(t *testing.T) {
	all := []*pair{newPair(t, 3, 4), newPair(t, 3, 4), newPair(t, 1<<40, 8), newPair(t, 0, 1)}
	rand := next(3)
	for range 3000 {
		a := all[rand(4)]
		switch rand(5) {
		case 0, 1, 2:
			a.arrive(rand(500), packet(int(rand(20))-2, int(rand(1000))))
		default:
			a.serve()
		}
		for _, b := range all {
			b.same("what was done to another flow")
		}
	}
}

func TestWalk(t *testing.T) {
	for i, most := range rooms() {
		for j, r := range prices() {
			rand := next(uint64(100*i + j))
			a := newPair(t, r, most)
			for range 300 {
				v := a.p.finish + rand(7) - 3
				if rand(3) == 0 {
					v = rand(1 << (1 + rand(40)))
				}
				switch rand(9) {
				case 0, 1, 2, 3:
					a.arrive(v, api.Packet{Flow: int(rand(9)) - 4, Len: int(rand(1<<(1+rand(30)))) - 1, Mark: int(rand(99))})
				case 4, 5, 6, 7:
					a.serve()
				case 8:
					b := a.copied()
					if rand(2) == 0 {
						a, b = b, a
					}
					b.arrive(v, packet(1, -1))
					b.drain()
					a.same("what was done to a flow it was copied from or to")
				}
			}
			a.drain()
		}
	}
}
