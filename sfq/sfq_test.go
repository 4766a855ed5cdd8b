package sfq_test

import (
	"math"
	"math/big"
	"slices"
	"testing"

	"weighbridge/api"
	"weighbridge/sfq"
)

func packet(id, size, mark int) api.Packet { return api.Packet{Flow: id, Len: size, Mark: mark} }

// within brings a number of packets into its range.
func within(most int) int {
	switch {
	case most < 1:
		return 1
	case most > 8:
		return 8
	}
	return most
}

// after returns start + size * r, but at most Top, where a negative size counts as 0; it is said apart from the program, with numbers of any size.
func after(start uint64, size int, r uint64) uint64 {
	sum := new(big.Int)
	if size > 0 {
		sum.Mul(big.NewInt(int64(size)), new(big.Int).SetUint64(r))
	}
	sum.Add(sum, new(big.Int).SetUint64(start))
	if !sum.IsUint64() {
		return api.Top
	}
	return sum.Uint64()
}

// lane is what a flow is to be: start holds while there are packets.
type lane struct {
	r             uint64
	most          int
	start, finish uint64
	packets       []api.Packet
}

// plain is what a scheduler is to be.
type plain struct {
	v, most uint64
	lanes   map[int]*lane
}

func (p *plain) ids() []int {
	list := []int{}
	for id := range p.lanes {
		list = append(list, id)
	}
	slices.Sort(list)
	return list
}

func (p *plain) starts() []api.Item {
	list := []api.Item{}
	for id, l := range p.lanes {
		if len(l.packets) > 0 {
			list = append(list, api.Item{Key: l.start, ID: id})
		}
	}
	slices.SortFunc(list, func(a, b api.Item) int {
		if a.Key < b.Key || a.Key == b.Key && a.ID < b.ID {
			return -1
		}
		return 1
	})
	return list
}

func (p *plain) add(id int, r uint64, most int) bool {
	if p.lanes[id] != nil {
		return false
	}
	p.lanes[id] = &lane{r: r, most: within(most)}
	return true
}

func (p *plain) remove(id int) api.Errno {
	switch l := p.lanes[id]; {
	case l == nil:
		return api.ErrNoFlow
	case len(l.packets) > 0:
		return api.ErrBusy
	}
	delete(p.lanes, id)
	return api.OK
}

func (p *plain) arrive(x api.Packet) api.Errno {
	l := p.lanes[x.Flow]
	if l == nil {
		return api.ErrNoFlow
	}
	if len(l.packets) == l.most {
		return api.ErrFull
	}
	if len(l.packets) == 0 {
		l.start = max(p.v, l.finish)
	}
	l.packets = append(slices.Clone(l.packets), x)
	return api.OK
}

func (p *plain) serve() (api.Packet, bool) {
	list := p.starts()
	if len(list) == 0 {
		p.v = max(p.v, p.most)
		return api.Packet{}, false
	}
	l := p.lanes[list[0].ID]
	p.v = l.start
	x := l.packets[0]
	l.packets = slices.Clone(l.packets[1:])
	l.finish = after(l.start, x.Len, l.r)
	l.start = l.finish
	p.most = max(p.most, l.finish)
	return x, true
}

func (p *plain) copied() *plain {
	c := &plain{v: p.v, most: p.most, lanes: map[int]*lane{}}
	for id, l := range p.lanes {
		m := *l
		c.lanes[id] = &m
	}
	return c
}

// pair is a scheduler beside what it is to be: whatever is done to the one is done to the other, and every answer is compared.
type pair struct {
	t     *testing.T
	s     *sfq.Sfq
	p     *plain
	lastV uint64
}

func newPair(t *testing.T) *pair {
	t.Helper()
	a := &pair{t: t, s: sfq.New(), p: &plain{lanes: map[int]*lane{}}}
	a.same("New")
	return a
}

// copied returns a pair of copies.
func (a *pair) copied() *pair {
	a.t.Helper()
	b := &pair{t: a.t, s: a.s.Copy(), p: a.p.copied(), lastV: a.lastV}
	b.same("Copy, in the copy")
	a.same("Copy")
	return b
}

// same asks everything of the scheduler that can be asked without changing it.
func (a *pair) same(behind string) {
	a.t.Helper()
	ids, starts := a.p.ids(), a.p.starts()
	// Asked twice, as neither asking nor writing into the lists may change anything.
	for range 2 {
		if got := a.s.V(); got != a.p.v {
			a.t.Fatalf("P10.2: V behind %s = %d; want %d", behind, got, a.p.v)
		}
		if got := a.s.Most(); got != a.p.most {
			a.t.Fatalf("P10.2: Most behind %s = %d; want %d", behind, got, a.p.most)
		}
		gotStarts, gotIDs := a.s.Starts(), a.s.Flows()
		if !slices.Equal(gotStarts, starts) {
			a.t.Fatalf("P10.3: Starts behind %s = %v; want %v", behind, gotStarts, starts)
		}
		if !slices.Equal(gotIDs, ids) {
			a.t.Fatalf("P10.3: Flows behind %s = %v; want %v", behind, gotIDs, ids)
		}
		scribble(gotStarts, api.Item{Key: 5, ID: -77})
		scribble(gotIDs, -77)
	}
	a.follows(behind)
}

// scribble writes into a list, and into the room beyond its end.
func scribble[T any](list []T, x T) {
	list = list[:cap(list)]
	for i := range list {
		list[i] = x
	}
}

// follows holds the virtual time against the one before, and against the start tags.
func (a *pair) follows(behind string) {
	a.t.Helper()
	v := a.s.V()
	if v < a.lastV {
		a.t.Fatalf("What follows: V behind %s = %d, and %d before", behind, v, a.lastV)
	}
	a.lastV = v
	for _, x := range a.s.Starts() {
		if x.Key < v {
			a.t.Fatalf("What follows: behind %s, flow %d has the start tag %d, and V = %d", behind, x.ID, x.Key, v)
		}
	}
}

func (a *pair) add(id int, r uint64, most int) bool {
	a.t.Helper()
	got, want := a.s.Add(id, r, most), a.p.add(id, r, most)
	if got != want {
		a.t.Fatalf("P10.1: Add(%d, %d, %d) = %v; want %v", id, r, most, got, want)
	}
	a.same("Add")
	return got
}

func (a *pair) remove(id int) api.Errno {
	a.t.Helper()
	got, want := a.s.Remove(id), a.p.remove(id)
	if got != want {
		a.t.Fatalf("P10.1: Remove(%d): error %d; want %d", id, got, want)
	}
	a.same("Remove")
	return got
}

func (a *pair) arrive(x api.Packet) api.Errno {
	a.t.Helper()
	got, want := a.s.Arrive(x), a.p.arrive(x)
	if got != want {
		a.t.Fatalf("P10.1: Arrive(%v): error %d; want %d", x, got, want)
	}
	a.same("Arrive")
	return got
}

func (a *pair) serve() (api.Packet, bool) {
	a.t.Helper()
	got, ok := a.s.Serve()
	want, is := a.p.serve()
	if got != want || ok != is {
		a.t.Fatalf("P10.2: Serve = %v, %v; want %v, %v", got, ok, want, is)
	}
	a.same("Serve")
	return got, ok
}

// drain serves until nothing is left, and once more, and returns what was served.
func (a *pair) drain() []api.Packet {
	a.t.Helper()
	var list []api.Packet
	for x, ok := a.serve(); ok; x, ok = a.serve() {
		list = append(list, x)
	}
	a.serve()
	return list
}

// errno fails unless an error is the one that is wanted.
func errno(t *testing.T, what string, got, want api.Errno) {
	t.Helper()
	if got != want {
		t.Fatalf("P10.1: %s: error %d; want %d", what, got, want)
	}
}

// tags fails unless the virtual time and the greatest finish tag are those that are wanted.
func (a *pair) tags(v, most uint64) {
	a.t.Helper()
	if a.s.V() != v || a.s.Most() != most {
		a.t.Fatalf("P10.2: V = %d, Most = %d; want %d, %d", a.s.V(), a.s.Most(), v, most)
	}
}

// served fails unless Serve returns the packet that is wanted, with these tags behind it.
func (a *pair) served(want api.Packet, v, most uint64) {
	a.t.Helper()
	if got, ok := a.serve(); got != want || !ok {
		a.t.Fatalf("P10.2: Serve = %v, %v; want %v", got, ok, want)
	}
	a.tags(v, most)
}

// none fails unless Serve returns nothing, with these tags behind it.
func (a *pair) none(v, most uint64) {
	a.t.Helper()
	if got, ok := a.serve(); got != (api.Packet{}) || ok {
		a.t.Fatalf("P10.2: Serve without packets = %v, %v", got, ok)
	}
	a.tags(v, most)
}

// next returns a small generator of numbers below n, the same at every run.
func next(seed uint64) func(n uint64) uint64 {
	return func(n uint64) uint64 {
		seed = seed*6364136223846793005 + 1442695040888963407
		return (seed >> 20) % n
	}
}

// names are numbers of flows of every kind, in ascending order.
func names() []int {
	return []int{math.MinInt, math.MinInt + 1, -1 << 32, -3, -1, 0, 1, 2, 1 << 20, 1<<20 + 1, 1 << 32, math.MaxInt - 1, math.MaxInt}
}

// rooms are numbers of packets of every kind: in range, and out of it on both sides.
func rooms() []int {
	return []int{math.MinInt, math.MinInt + 1, -1 << 32, -8, -1, 0, 1, 2, 3, 4, 5, 6, 7, 8, 9, 10, 256, 257, 1 << 32, 1<<32 + 1, math.MaxInt - 1, math.MaxInt}
}

// prices are what a unit of length costs.
func prices() []uint64 {
	return []uint64{0, 1, 2, 333, 1<<32 - 1, 1 << 32, 1 << 62, 1 << 63, api.Top - 1, api.Top}
}

// sizes are lengths at the edges, wrong ones among them.
func sizes() []int {
	return []int{math.MinInt, math.MinInt + 1, -1 << 32, -1, 0, 1, 2, 1500, 65536, 65537, 1 << 32, math.MaxInt - 1, math.MaxInt}
}

// marks are values of Mark of every kind.
func marks() []int {
	return []int{math.MinInt, -1 << 32, -1, 0, 1, 1 << 32, math.MaxInt}
}

func TestExample(t *testing.T) {
	s := sfq.New()
	if !s.Add(1, 10, 8) || !s.Add(2, 5, 8) {
		t.Fatal("P10.1: Add = false")
	}
	for _, id := range []int{1, 1, 2, 2} {
		errno(t, "Arrive", s.Arrive(packet(id, 4, 0)), api.OK)
	}
	for i, id := range []int{1, 2, 2, 1} {
		if x, ok := s.Serve(); x != packet(id, 4, 0) || !ok {
			t.Errorf("P10.2: Serve %d = %v, %v; want a packet of flow %d", i, x, ok, id)
		}
	}
	if x, ok := s.Serve(); x != (api.Packet{}) || ok {
		t.Errorf("P10.2: Serve behind the last packet = %v, %v", x, ok)
	}
}

// TestNew asks a scheduler to which nothing has come.
func TestNew(t *testing.T) {
	a := newPair(t)
	if a.s.V() != 0 || a.s.Most() != 0 || len(a.s.Starts()) != 0 || len(a.s.Flows()) != 0 {
		t.Fatalf("P10.1: New: V %d, Most %d, Starts %v, Flows %v", a.s.V(), a.s.Most(), a.s.Starts(), a.s.Flows())
	}
	for range 3 {
		a.none(0, 0)
	}
	for _, id := range names() {
		errno(t, "Remove without flows", a.remove(id), api.ErrNoFlow)
		errno(t, "Arrive without flows", a.arrive(packet(id, 1, 1)), api.ErrNoFlow)
	}
}

// TestNames adds flows of every number in several orders, and removes them in others.
func TestNames(t *testing.T) {
	up := names()
	down := slices.Clone(up)
	slices.Reverse(down)
	mixed := []int{}
	for i := range up {
		mixed = append(mixed, up[i*5%len(up)])
	}
	for _, come := range [][]int{up, down, mixed} {
		for _, leave := range [][]int{up, down, mixed} {
			a := newPair(t)
			for _, id := range come {
				if !a.add(id, 3, 2) {
					t.Fatalf("P10.1: Add of %d = false", id)
				}
			}
			if got := a.s.Flows(); !slices.Equal(got, up) {
				t.Fatalf("P10.3: Flows = %v; want %v", got, up)
			}
			for _, id := range come {
				errno(t, "Arrive", a.arrive(packet(id, 1, 0)), api.OK)
			}
			for i, x := range a.s.Starts() {
				if x != (api.Item{Key: 0, ID: up[i]}) {
					t.Fatalf("P10.3: Starts = %v; want the numbers in their order", a.s.Starts())
				}
			}
			for _, id := range up {
				a.served(packet(id, 1, 0), 0, 3)
			}
			for _, id := range leave {
				errno(t, "Remove", a.remove(id), api.OK)
				errno(t, "Remove twice", a.remove(id), api.ErrNoFlow)
				errno(t, "Arrive behind Remove", a.arrive(packet(id, 1, 0)), api.ErrNoFlow)
			}
			a.none(3, 3)
		}
	}
}

// TestAddTwice adds a flow that exists, with another price and room: neither its price, its room, its packets nor its tags change.
func TestAddTwice(t *testing.T) {
	a := newPair(t)
	a.add(7, 10, 2)
	again := func() {
		t.Helper()
		for _, most := range rooms() {
			for _, r := range prices() {
				if a.add(7, r, most) {
					t.Fatalf("P10.1: Add(7, %d, %d) of a flow that exists = true", r, most)
				}
			}
		}
	}
	again()
	errno(t, "Arrive", a.arrive(packet(7, 4, 1)), api.OK)
	again()
	errno(t, "Arrive", a.arrive(packet(7, 4, 2)), api.OK)
	again()
	errno(t, "Arrive to a full flow", a.arrive(packet(7, 4, 3)), api.ErrFull)
	a.served(packet(7, 4, 1), 0, 40)
	again()
	a.served(packet(7, 4, 2), 40, 80)
	again()
	errno(t, "Arrive", a.arrive(packet(7, 1, 4)), api.OK)
	if got := a.s.Starts(); !slices.Equal(got, []api.Item{{Key: 80, ID: 7}}) {
		t.Fatalf("P10.1: Starts behind Add of a flow that exists = %v; want the finish tag 80", got)
	}
}

func TestRemove(t *testing.T) {
	a := newPair(t)
	errno(t, "Remove of a flow that does not exist", a.remove(1), api.ErrNoFlow)
	a.add(1, 10, 3)
	errno(t, "Remove of a neighbour", a.remove(2), api.ErrNoFlow)
	errno(t, "Remove of a flow that never had packets", a.remove(1), api.OK)
	errno(t, "Remove twice", a.remove(1), api.ErrNoFlow)
	a.add(1, 10, 3)
	a.add(2, 1, 3)
	a.arrive(packet(1, 1, 1))
	a.arrive(packet(1, 1, 2))
	errno(t, "Remove of a flow with two packets", a.remove(1), api.ErrBusy)
	a.served(packet(1, 1, 1), 0, 10)
	errno(t, "Remove of a flow with one packet", a.remove(1), api.ErrBusy)
	a.served(packet(1, 1, 2), 10, 20)
	errno(t, "Remove of a flow whose packets are all served", a.remove(1), api.OK)
	errno(t, "Remove twice", a.remove(1), api.ErrNoFlow)
	if got := a.s.Flows(); !slices.Equal(got, []int{2}) {
		t.Fatalf("P10.3: Flows = %v; want 2 alone", got)
	}
	errno(t, "Remove of the last flow", a.remove(2), api.OK)
	a.tags(10, 20)
}

// TestAnew removes a flow whose finish tag is far above the virtual time, and adds it anew, with another price and room: it starts at the virtual time.
func TestAnew(t *testing.T) {
	for _, id := range names() {
		a := newPair(t)
		a.add(id, 1000, 1)
		a.arrive(packet(id, 5, 1))
		a.served(packet(id, 5, 1), 0, 5000)
		a.arrive(packet(id, 5, 2))
		if got := a.s.Starts(); got[0].Key != 5000 {
			t.Fatalf("P10.1: Starts of a flow that stayed = %v; want 5000", got)
		}
		b := a.copied()
		b.drain()
		b.tags(10000, 10000)

		a = newPair(t)
		a.add(id, 1000, 1)
		a.arrive(packet(id, 5, 1))
		a.served(packet(id, 5, 1), 0, 5000)
		errno(t, "Remove", a.remove(id), api.OK)
		if !a.add(id, 2, 2) {
			t.Fatalf("P10.1: Add of %d behind Remove = false", id)
		}
		errno(t, "Arrive", a.arrive(packet(id, 5, 3)), api.OK)
		errno(t, "Arrive", a.arrive(packet(id, 5, 4)), api.OK)
		errno(t, "Arrive to a full flow", a.arrive(packet(id, 5, 5)), api.ErrFull)
		if got := a.s.Starts(); !slices.Equal(got, []api.Item{{Key: 0, ID: id}}) {
			t.Fatalf("P10.1: Starts of a flow that came anew = %v; want the virtual time 0", got)
		}
		a.served(packet(id, 5, 3), 0, 5000)
		a.served(packet(id, 5, 4), 10, 5000)
		a.none(5000, 5000)
		errno(t, "Remove", a.remove(id), api.OK)
		a.add(id, 1, 1)
		a.arrive(packet(id, 1, 6))
		a.served(packet(id, 1, 6), 5000, 5001)
	}
}

func TestArrive(t *testing.T) {
	for _, most := range rooms() {
		a := newPair(t)
		a.add(4, 2, most)
		a.add(5, 2, most)
		for _, id := range []int{math.MinInt, -4, 0, 3, 6, math.MaxInt} {
			errno(t, "Arrive to a flow that does not exist", a.arrive(packet(id, 1, 1)), api.ErrNoFlow)
		}
		for mark := range within(most) {
			errno(t, "Arrive", a.arrive(packet(4, 1, mark)), api.OK)
		}
		for round := range 12 {
			errno(t, "Arrive to a full flow", a.arrive(packet(4, 1, -1)), api.ErrFull)
			errno(t, "Arrive to a full flow", a.arrive(packet(4, math.MinInt, -1)), api.ErrFull)
			if x, ok := a.serve(); x != packet(4, 1, round) || !ok {
				t.Fatalf("P10.2: room for %d: Serve = %v, %v; want the mark %d", most, x, ok, round)
			}
			errno(t, "Arrive behind Serve", a.arrive(packet(4, 1, round+within(most))), api.OK)
		}
		errno(t, "Arrive to a flow beside a full one", a.arrive(packet(5, 1, 9)), api.OK)
		a.drain()
		errno(t, "Remove", a.remove(4), api.OK)
		errno(t, "Arrive to a flow that was removed", a.arrive(packet(4, 1, 1)), api.ErrNoFlow)
		errno(t, "Arrive to the flow beside it", a.arrive(packet(5, 1, 1)), api.OK)
	}
}

// TestNone serves with no flows, and with flows without packets, once and twice.
func TestNone(t *testing.T) {
	a := newPair(t)
	a.none(0, 0)
	a.add(1, 10, 2)
	a.add(2, 7, 2)
	a.none(0, 0)
	a.none(0, 0)
	a.arrive(packet(1, 3, 1))
	a.arrive(packet(2, 3, 2))
	a.served(packet(1, 3, 1), 0, 30)
	a.served(packet(2, 3, 2), 0, 30)
	a.none(30, 30)
	a.none(30, 30)
	// A packet without a cost leaves the virtual time where the greatest finish tag is.
	a.arrive(packet(2, 0, 3))
	a.served(packet(2, 0, 3), 30, 30)
	a.none(30, 30)
	a.arrive(packet(2, 1, 4))
	if got := a.s.Starts(); !slices.Equal(got, []api.Item{{Key: 30, ID: 2}}) {
		t.Fatalf("P10.2: Starts behind a busy period = %v; want 30", got)
	}
	a.served(packet(2, 1, 4), 30, 37)
	// The busy period has not ended by the last packet alone.
	a.arrive(packet(1, 1, 5))
	a.served(packet(1, 1, 5), 30, 40)
	a.none(40, 40)
}

// TestOne has a flow alone, which pays for what it sends.
func TestOne(t *testing.T) {
	for _, id := range names() {
		a := newPair(t)
		a.add(id, 3, 3)
		for mark, size := range []int{5, 0, 2} {
			a.arrive(packet(id, size, mark))
		}
		a.served(packet(id, 5, 0), 0, 15)
		a.served(packet(id, 0, 1), 15, 15)
		a.served(packet(id, 2, 2), 15, 21)
		a.none(21, 21)
		a.none(21, 21)
	}
}

// TestSelect has several flows whose start tags are equal and unequal.
func TestSelect(t *testing.T) {
	a := newPair(t)
	for _, id := range []int{3, -1, 8, 0} {
		a.add(id, 1, 4)
	}
	a.arrive(packet(8, 5, 0))
	a.arrive(packet(8, 5, 1))
	a.arrive(packet(0, 7, 2))
	a.arrive(packet(0, 7, 3))
	a.arrive(packet(-1, 7, 4))
	a.arrive(packet(-1, 7, 5))
	a.served(packet(-1, 7, 4), 0, 7)
	a.served(packet(0, 7, 2), 0, 7)
	a.served(packet(8, 5, 0), 0, 7)
	if got := a.s.Starts(); !slices.Equal(got, []api.Item{{Key: 5, ID: 8}, {Key: 7, ID: -1}, {Key: 7, ID: 0}}) {
		t.Fatalf("P10.3: Starts = %v", got)
	}
	a.served(packet(8, 5, 1), 5, 10)
	// The one that comes late starts at the virtual time, ahead of those that have sent.
	a.arrive(packet(3, 1, 6))
	a.arrive(packet(3, 1, 7))
	a.arrive(packet(3, 1, 8))
	a.served(packet(3, 1, 6), 5, 10)
	a.served(packet(3, 1, 7), 6, 10)
	a.served(packet(-1, 7, 5), 7, 14)
	a.served(packet(0, 7, 3), 7, 14)
	a.served(packet(3, 1, 8), 7, 14)
	a.none(14, 14)
}

// TestMostOfTheRemoved removes the flow with the greatest finish tag ahead of the end of a busy period.
func TestMostOfTheRemoved(t *testing.T) {
	a := newPair(t)
	a.add(1, 100, 1)
	a.add(2, 1, 1)
	a.arrive(packet(1, 9, 1))
	a.served(packet(1, 9, 1), 0, 900)
	errno(t, "Remove", a.remove(1), api.OK)
	a.tags(0, 900)
	a.arrive(packet(2, 9, 2))
	a.served(packet(2, 9, 2), 0, 900)
	errno(t, "Remove", a.remove(2), api.OK)
	a.tags(0, 900)
	a.none(900, 900)
	a.none(900, 900)
	a.add(2, 1, 1)
	a.arrive(packet(2, 9, 3))
	a.served(packet(2, 9, 3), 900, 909)
}

// TestLists asks for Starts and Flows with flows without packets and with some.
func TestLists(t *testing.T) {
	a := newPair(t)
	a.add(5, 1, 1)
	a.add(-5, 1, 1)
	if len(a.s.Starts()) != 0 || !slices.Equal(a.s.Flows(), []int{-5, 5}) {
		t.Fatalf("P10.3: Starts %v, Flows %v of flows without packets", a.s.Starts(), a.s.Flows())
	}
	a.arrive(packet(5, 1, 1))
	if !slices.Equal(a.s.Starts(), []api.Item{{Key: 0, ID: 5}}) || !slices.Equal(a.s.Flows(), []int{-5, 5}) {
		t.Fatalf("P10.3: Starts %v, Flows %v of a flow with packets beside one without", a.s.Starts(), a.s.Flows())
	}
	a.serve()
	if len(a.s.Starts()) != 0 || !slices.Equal(a.s.Flows(), []int{-5, 5}) {
		t.Fatalf("P10.3: Starts %v, Flows %v behind the last packet", a.s.Starts(), a.s.Flows())
	}
}

// TestOwnLists writes into lists that were returned before, and has them stay as they are whatever is done then.
func TestOwnLists(t *testing.T) {
	a := newPair(t)
	for _, id := range names() {
		a.add(id, 4, 2)
		a.arrive(packet(id, 1, 0))
	}
	starts, ids := a.s.Starts(), a.s.Flows()
	keptStarts, keptIDs := slices.Clone(starts), slices.Clone(ids)
	a.drain()
	a.remove(0)
	a.add(17, 1, 1)
	if !slices.Equal(starts, keptStarts) || !slices.Equal(ids, keptIDs) {
		t.Fatal("R3: what was returned changes with the scheduler")
	}
	scribble(starts, api.Item{})
	scribble(ids, 0)
	a.same("writing into what was returned")
	a.drain()
}

// TestPricesAndLengths has packets of every length at every price, in a flow beside one with the price 1.
func TestPricesAndLengths(t *testing.T) {
	for _, r := range prices() {
		for _, size := range sizes() {
			a := newPair(t)
			a.add(1, r, 8)
			a.add(0, 1, 8)
			for mark := range 3 {
				a.arrive(packet(1, size, mark))
				a.arrive(packet(0, size, mark))
			}
			if got := a.drain(); len(got) != 6 {
				t.Fatalf("P10.2: r of %d, length %d: %d packets served; want 6", r, size, len(got))
			}
			a.arrive(packet(1, size, 9))
			a.drain()
		}
	}
}

// TestTop has tags that reach Top, and stay there.
func TestTop(t *testing.T) {
	a := newPair(t)
	a.add(1, api.Top, 3)
	a.add(2, 1, 3)
	a.arrive(packet(1, 1, 1))
	a.arrive(packet(1, 1, 2))
	a.arrive(packet(1, 0, 3))
	a.arrive(packet(2, 1, 4))
	a.served(packet(1, 1, 1), 0, api.Top)
	a.served(packet(2, 1, 4), 0, api.Top)
	a.served(packet(1, 1, 2), api.Top, api.Top)
	a.arrive(packet(2, 1, 5))
	a.arrive(packet(2, 1, 6))
	if got := a.s.Starts(); !slices.Equal(got, []api.Item{{Key: api.Top, ID: 1}, {Key: api.Top, ID: 2}}) {
		t.Fatalf("P10.3: Starts at Top = %v", got)
	}
	a.served(packet(1, 0, 3), api.Top, api.Top)
	a.served(packet(2, 1, 5), api.Top, api.Top)
	a.served(packet(2, 1, 6), api.Top, api.Top)
	a.none(api.Top, api.Top)
	a.add(0, 0, 1)
	a.arrive(packet(0, 1, 7))
	a.served(packet(0, 1, 7), api.Top, api.Top)
	a.none(api.Top, api.Top)
}

// TestTopByOne has a finish tag that misses Top by one, and so is not it.
func TestTopByOne(t *testing.T) {
	a := newPair(t)
	a.add(1, 2, 2)
	a.arrive(packet(1, math.MaxInt, 1))
	a.arrive(packet(1, 1, 2))
	a.served(packet(1, math.MaxInt, 1), 0, api.Top-1)
	a.served(packet(1, 1, 2), api.Top-1, api.Top)
	a.none(api.Top, api.Top)
}

// TestAsTheyCame has packets of any Len and Mark in flows of every number, which are told just so, those of a flow in the order in which they came.
func TestAsTheyCame(t *testing.T) {
	a := newPair(t)
	came := map[int][]api.Packet{}
	for i, id := range names() {
		a.add(id, uint64(i), 8)
	}
	count := 0
	for _, size := range sizes() {
		for _, mark := range marks() {
			for _, id := range names() {
				x := packet(id, size, mark)
				for a.arrive(x) == api.ErrFull {
					y, ok := a.serve()
					if !ok || len(came[y.Flow]) == 0 || y != came[y.Flow][0] {
						t.Fatalf("P10.2: Serve = %v, %v; want the first one of its flow", y, ok)
					}
					came[y.Flow] = came[y.Flow][1:]
				}
				came[id] = append(came[id], x)
				count++
			}
		}
	}
	for _, y := range a.drain() {
		if len(came[y.Flow]) == 0 || y != came[y.Flow][0] {
			t.Fatalf("P10.2: Serve = %v; want the first one of its flow", y)
		}
		came[y.Flow] = came[y.Flow][1:]
	}
	for id, rest := range came {
		if len(rest) > 0 {
			t.Fatalf("P10.2: %d packets of flow %d are not served", len(rest), id)
		}
	}
}

// TestTurns has two flows that are never without packets: the one that pays half sends twice as many.
func TestTurns(t *testing.T) {
	a := newPair(t)
	a.add(1, 10, 2)
	a.add(2, 5, 2)
	refill := func() {
		for _, id := range []int{1, 2} {
			for a.arrive(packet(id, 1, 0)) == api.OK {
			}
		}
	}
	for i := range 60 {
		refill()
		want := 2
		if i%3 == 0 {
			want = 1
		}
		if x, ok := a.serve(); x.Flow != want || !ok {
			t.Fatalf("P10.2: Serve %d = %v, %v; want a packet of flow %d", i, x, ok, want)
		}
	}
}

// TestFair has two flows that are never without packets, of any lengths: what they pay differs, in every interval, by at most the sum of the greatest costs.
func TestFair(t *testing.T) {
	for seed := range uint64(20) {
		rand := next(seed)
		price := []uint64{1 + rand(20), 1 + rand(20)}
		a := newPair(t)
		a.add(0, price[0], 2)
		a.add(1, price[1], 2)
		paid := []int{}
		for range 80 {
			for id := range 2 {
				for a.arrive(packet(id, 1+int(rand(9)), 0)) == api.OK {
				}
			}
			x, _ := a.serve()
			cost := x.Len * int(price[x.Flow])
			paid = append(paid, cost*(1-2*x.Flow))
		}
		bound := 9 * int(price[0]+price[1])
		for i := range paid {
			sum := 0
			for _, cost := range paid[i:] {
				sum += cost
				if sum > bound || -sum > bound {
					t.Fatalf("P10.2: with the prices %v, the flows differ by %d from Serve %d on", price, sum, i)
				}
			}
		}
	}
}

// TestCopy copies schedulers without flows, with some, and with packets, served or not; the copy, the scheduler and a copy of the copy go their own ways.
func TestCopy(t *testing.T) {
	for flows := range 4 {
		for came := range 4 {
			for gone := range 5 {
				a := newPair(t)
				for id := range flows {
					a.add(id, uint64(id+2), 4)
					for mark := range came {
						a.arrive(packet(id, mark+1, mark))
					}
				}
				for range gone {
					a.serve()
				}
				ways(a)
			}
		}
	}
}

// ways does all kinds of things to a scheduler and to its copies.
func ways(a *pair) {
	b := a.copied()
	c := b.copied()
	all := []*pair{a, b, c}
	each := func(behind string) {
		for _, x := range all {
			x.same(behind)
		}
	}
	for round := range 3 {
		b.add(10+round, 7, 2)
		each("Add to a copy")
		b.arrive(packet(10+round, 3, 50))
		b.arrive(packet(0, 3, 51))
		each("Arrive at a copy")
		a.arrive(packet(0, 9, 52))
		a.add(10+round, 1, 1)
		each("Arrive and Add at what was copied")
		c.serve()
		each("Serve of a copy of a copy")
		c.add(-1-round, 1, 1)
		a.remove(10)
		each("Remove of what was copied")
		b.serve()
		each("Serve of a copy")
		c.remove(0)
		c.remove(-1)
		each("Remove of a copy of a copy")
		a.serve()
		each("Serve of what was copied")
	}
	for _, x := range []*pair{b, a, c} {
		x.drain()
		each("Serve of all packets")
	}
}

// TestCopyKeeps has a copy with the prices, the rooms and the tags of the flows, also of those without packets, and the greatest finish tag of one that was removed.
func TestCopyKeeps(t *testing.T) {
	for _, most := range rooms() {
		a := newPair(t)
		a.add(1, 10, most)
		a.add(2, 1000, 1)
		a.arrive(packet(1, 3, 1))
		a.arrive(packet(2, 3, 2))
		a.served(packet(1, 3, 1), 0, 30)
		a.served(packet(2, 3, 2), 0, 3000)
		a.remove(2)
		b := a.copied()
		b.tags(0, 3000)
		for mark := range within(most) + 1 {
			want := api.OK
			if mark == within(most) {
				want = api.ErrFull
			}
			errno(t, "Arrive at a copy", b.arrive(packet(1, 1, mark)), want)
		}
		if got := b.s.Starts(); !slices.Equal(got, []api.Item{{Key: 30, ID: 1}}) {
			t.Fatalf("P10.3: Starts of a copy = %v; want the finish tag 30", got)
		}
		b.served(packet(1, 1, 0), 30, 3000)
		b.drain()
		b.tags(3000, 3000)
		a.tags(0, 3000)
		a.none(3000, 3000)
	}
}

// TestAside has schedulers side by side, with flows of the same numbers.
func TestAside(t *testing.T) {
	all := []*pair{newPair(t), newPair(t), newPair(t)}
	rand := next(5)
	for range 3000 {
		step(all[rand(3)], rand)
		for _, b := range all {
			b.same("what was done to another scheduler")
		}
	}
}

// step does one thing to a scheduler.
func step(a *pair, rand func(uint64) uint64) {
	id := int(rand(6)) - 2
	switch rand(12) {
	case 0, 1:
		a.add(id, rand(1<<(1+rand(20))), int(rand(12))-1)
	case 2:
		a.remove(id)
	case 3, 4, 5, 6, 7:
		a.arrive(packet(id, int(rand(40))-2, int(rand(1000))))
	default:
		a.serve()
	}
}

func TestWalk(t *testing.T) {
	for seed := range uint64(60) {
		rand := next(1000 + seed)
		a := newPair(t)
		for range 300 {
			if rand(25) > 0 {
				step(a, rand)
				continue
			}
			b := a.copied()
			if rand(2) == 0 {
				a, b = b, a
			}
			for range 5 {
				step(b, rand)
			}
			b.drain()
			a.same("what was done to a scheduler it was copied from or to")
		}
		a.drain()
	}
}

// TestMany has more flows than any list starts with room for.
func TestMany(t *testing.T) {
	s := sfq.New()
	const n = 700
	for i := range n {
		id := (i*337)%n - n/2
		if !s.Add(id, uint64(n-i), 1) || s.Arrive(packet(id, 1, i)) != api.OK {
			t.Fatalf("P10.1: Add of %d", id)
		}
	}
	for i := range n {
		if x, ok := s.Serve(); x.Flow != i-n/2 || !ok {
			t.Fatalf("P10.2: Serve = %v, %v; want flow %d", x, ok, i-n/2)
		}
		errno(t, "Remove", s.Remove(i-n/2), api.OK)
	}
	if x, ok := s.Serve(); ok || s.V() != n {
		t.Fatalf("P10.2: Serve = %v, %v; V = %d; want %d", x, ok, s.V(), n)
	}
}
