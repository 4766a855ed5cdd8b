package model_test

import (
	"math"
	"math/big"
	"slices"
	"testing"

	"weighbridge/api"
	"weighbridge/model"
)

func call(op, flow, a, b int) api.Call { return api.Call{Op: op, Flow: flow, A: a, B: b} }

func packet(flow, size, mark int) api.Packet {
	return api.Packet{Flow: flow, Len: size, Mark: mark}
}

// config returns a configuration in which a flow of weight 1 pays 10 for a unit of length.
func config(shards, slots int) api.Config {
	return api.Config{Shards: shards, Slots: slots, Workers: 1, Unit: 10}
}

// after returns start + size * r, but at most Top; it is said apart from the program, with numbers of any size.
func after(start uint64, size int, r uint64) uint64 {
	sum := new(big.Int).Mul(big.NewInt(int64(size)), new(big.Int).SetUint64(r))
	sum.Add(sum, new(big.Int).SetUint64(start))
	if !sum.IsUint64() {
		return api.Top
	}
	return sum.Uint64()
}

// lane is what a flow is to be: start holds while there are packets.
type lane struct {
	r             uint64
	most          int
	start, finish uint64
	packets       []api.Packet
}

// plain is what a model is to be.
type plain struct {
	config  api.Config
	v, most uint64
	served  int
	lanes   map[int]*lane
}

func newPlain(c api.Config) *plain { return &plain{config: c, lanes: map[int]*lane{}} }

func (p *plain) copied() *plain {
	c := *p
	c.lanes = map[int]*lane{}
	for id, l := range p.lanes {
		m := *l
		c.lanes[id] = &m
	}
	return &c
}

func (p *plain) ids() []int {
	list := []int{}
	for id := range p.lanes {
		list = append(list, id)
	}
	slices.Sort(list)
	return list
}

func (p *plain) starts() []api.Item {
	list := []api.Item{}
	for id, l := range p.lanes {
		if len(l.packets) > 0 {
			list = append(list, api.Item{Key: l.start, ID: id})
		}
	}
	slices.SortFunc(list, func(a, b api.Item) int {
		if a.Key < b.Key || a.Key == b.Key && a.ID < b.ID {
			return -1
		}
		return 1
	})
	return list
}

func (p *plain) size(id int) int {
	if l := p.lanes[id]; l != nil {
		return len(l.packets)
	}
	return -1
}

// do performs a call.
func (p *plain) do(c api.Call) api.Ret {
	switch c.Op {
	case 1:
		return api.Ret{E: p.register(c.Flow, c.A, c.B)}
	case 2:
		return api.Ret{E: p.shut(c.Flow)}
	case 3:
		return api.Ret{E: p.enqueue(packet(c.Flow, c.A, c.B))}
	case 4:
		return p.dequeue()
	case 5:
		return p.batch(c.A)
	case 6:
		return api.Ret{N: p.served, V: p.v}
	}
	return api.Ret{E: api.ErrOp}
}

func (p *plain) register(id, weight, most int) api.Errno {
	if id < 0 || id > 1048576 {
		return api.ErrArg
	}
	if weight < 1 || weight > 65536 {
		return api.ErrBadWeight
	}
	if most < 1 || most > 8 {
		return api.ErrArg
	}
	if p.lanes[id] != nil {
		return api.ErrExists
	}
	room := p.config.Slots
	for other := range p.lanes {
		if (other-id)%p.config.Shards == 0 {
			room--
		}
	}
	if room == 0 {
		return api.ErrRoom
	}
	p.lanes[id] = &lane{r: max(p.config.Unit/uint64(weight), 1), most: most}
	return api.OK
}

func (p *plain) shut(id int) api.Errno {
	switch p.size(id) {
	case -1:
		return api.ErrNoFlow
	case 0:
		delete(p.lanes, id)
		return api.OK
	}
	return api.ErrBusy
}

func (p *plain) enqueue(x api.Packet) api.Errno {
	l := p.lanes[x.Flow]
	switch {
	case x.Len < 1 || x.Len > 65536:
		return api.ErrBadLen
	case l == nil:
		return api.ErrNoFlow
	case len(l.packets) == l.most:
		return api.ErrFull
	}
	if len(l.packets) == 0 {
		l.start = max(p.v, l.finish)
	}
	l.packets = append(slices.Clone(l.packets), x)
	return api.OK
}

func (p *plain) dequeue() api.Ret {
	list := p.starts()
	if len(list) == 0 {
		p.v = max(p.v, p.most)
		return api.Ret{E: api.Empty}
	}
	l := p.lanes[list[0].ID]
	x := l.packets[0]
	p.v = l.start
	l.packets = slices.Clone(l.packets[1:])
	l.finish = after(l.start, x.Len, l.r)
	l.start = l.finish
	p.most = max(p.most, l.finish)
	p.served++
	return api.Ret{Packets: []api.Packet{x}}
}

func (p *plain) batch(n int) api.Ret {
	if n < 1 || n > 16 {
		return api.Ret{E: api.ErrArg}
	}
	list := []api.Packet{}
	for range n {
		r := p.dequeue()
		if r.E == api.Empty {
			return api.Ret{E: api.Empty, Packets: list}
		}
		list = append(list, r.Packets[0])
	}
	return api.Ret{Packets: list}
}

func equal(a, b api.Ret) bool {
	return a.E == b.E && a.N == b.N && a.V == b.V && slices.Equal(a.Packets, b.Packets)
}

// scribble writes into a list, and into the room beyond its end.
func scribble[T any](list []T, x T) {
	list = list[:cap(list)]
	for i := range list {
		list[i] = x
	}
}

// picture is all that can be asked of a model without a call.
type picture struct {
	v      uint64
	served int
	starts []api.Item
	ids    []int
	lens   []int
}

func see(m *model.Model) picture {
	p := picture{v: m.V(), served: m.Served(), starts: m.Starts(), ids: m.Flows()}
	for _, id := range names() {
		p.lens = append(p.lens, m.Len(id))
	}
	return p
}

func (p picture) equal(q picture) bool {
	return p.v == q.v && p.served == q.served && slices.Equal(p.starts, q.starts) && slices.Equal(p.ids, q.ids) && slices.Equal(p.lens, q.lens)
}

// pair is a model beside what it is to be: whatever is done to the one is done to the other, and every answer is compared.
type pair struct {
	t *testing.T
	m *model.Model
	p *plain
}

func newPair(t *testing.T, c api.Config) *pair {
	t.Helper()
	m, e := model.New(c)
	if m == nil || e != api.OK {
		t.Fatalf("P11.1: New(%v): error %d", c, e)
	}
	a := &pair{t: t, m: m, p: newPlain(c)}
	a.same("New")
	return a
}

// copied returns a pair of copies.
func (a *pair) copied() *pair {
	a.t.Helper()
	b := &pair{t: a.t, m: a.m.Copy(), p: a.p.copied()}
	b.same("Copy, in the copy")
	a.same("Copy")
	return b
}

// same asks everything of the model that can be asked without changing it.
func (a *pair) same(behind string) {
	a.t.Helper()
	ids, starts := a.p.ids(), a.p.starts()
	// Asked twice, as neither asking nor writing into the lists may change anything.
	for range 2 {
		if a.m.V() != a.p.v || a.m.Served() != a.p.served {
			a.t.Fatalf("P11.3: behind %s: V %d, Served %d; want %d, %d", behind, a.m.V(), a.m.Served(), a.p.v, a.p.served)
		}
		gotStarts, gotIDs := a.m.Starts(), a.m.Flows()
		if !slices.Equal(gotStarts, starts) || !slices.Equal(gotIDs, ids) {
			a.t.Fatalf("P11.3: behind %s: Starts %v, Flows %v; want %v, %v", behind, gotStarts, gotIDs, starts, ids)
		}
		for _, id := range append(names(), ids...) {
			if got := a.m.Len(id); got != a.p.size(id) {
				a.t.Fatalf("P11.3: behind %s: Len(%d) = %d; want %d", behind, id, got, a.p.size(id))
			}
		}
		scribble(gotStarts, api.Item{Key: 5, ID: -77})
		scribble(gotIDs, -77)
		if got, want := a.m.Do(call(api.OpStats, -1, -1, -1)), (api.Ret{N: a.p.served, V: a.p.v}); !equal(got, want) {
			a.t.Fatalf("P11.2: OpStats behind %s = %v; want %v", behind, got, want)
		}
	}
}

// do performs a call, looks at all that can be seen behind it, and returns its result.
func (a *pair) do(c api.Call) api.Ret {
	a.t.Helper()
	before := see(a.m)
	got, want := a.m.Do(c), a.p.do(c)
	if !equal(got, want) {
		a.t.Fatalf("P11.2: Do(%v) = %v; want %v", c, got, want)
	}
	a.unchanged(c, got, before)
	a.same("a call")
	kept := got
	kept.Packets = slices.Clone(got.Packets)
	scribble(got.Packets, packet(-77, -77, -77))
	a.same("writing into what a call returned")
	return kept
}

// unchanged holds the model against what it was before a call that has returned an error.
func (a *pair) unchanged(c api.Call, r api.Ret, before picture) {
	a.t.Helper()
	behind := see(a.m)
	switch {
	case r.E == api.OK || len(r.Packets) > 0:
		return
	case r.E == api.Empty && behind.v >= before.v:
		behind.v = before.v
	}
	if !behind.equal(before) {
		a.t.Fatalf("What follows: Do(%v) = %v, and %v before is %v behind it", c, r, before, behind)
	}
}

// want performs a call, and fails unless its error is the one that is wanted.
func (a *pair) want(e api.Errno, c api.Call) {
	a.t.Helper()
	if got := a.do(c); got.E != e {
		a.t.Fatalf("P11.2: Do(%v): error %d; want %d", c, got.E, e)
	}
}

// served performs an OpDequeue, and fails unless it returns this packet, with this virtual time behind it.
func (a *pair) served(x api.Packet, v uint64) {
	a.t.Helper()
	if got := a.do(call(api.OpDequeue, 0, 0, 0)); !equal(got, api.Ret{Packets: []api.Packet{x}}) || a.m.V() != v {
		a.t.Fatalf("P11.2: OpDequeue = %v, V = %d; want %v, %d", got, a.m.V(), x, v)
	}
}

// none performs an OpDequeue, and fails unless it returns Empty, with this virtual time behind it.
func (a *pair) none(v uint64) {
	a.t.Helper()
	if got := a.do(call(api.OpDequeue, 0, 0, 0)); !equal(got, api.Ret{E: api.Empty}) || a.m.V() != v {
		a.t.Fatalf("P11.2: OpDequeue = %v, V = %d; want Empty, %d", got, a.m.V(), v)
	}
}

// drain dequeues until nothing is left, and once more, and returns what was served.
func (a *pair) drain() []api.Packet {
	a.t.Helper()
	var list []api.Packet
	for {
		r := a.do(call(api.OpDequeue, 0, 0, 0))
		list = append(list, r.Packets...)
		if r.E == api.Empty {
			a.want(api.Empty, call(api.OpDequeue, 0, 0, 0))
			return list
		}
	}
}

// deep looks, in a copy, at what can be seen only later on: the rooms, the prices and the finish tags of the flows, and the greatest finish tag.
func (a *pair) deep() {
	a.t.Helper()
	b := a.copied()
	for range 2 {
		for _, id := range b.m.Flows() {
			for b.do(call(api.OpEnqueue, id, 3, 1)).E == api.OK {
			}
		}
		b.do(call(api.OpDequeue, 0, 0, 0))
		for _, id := range b.m.Flows() {
			b.do(call(api.OpEnqueue, id, 1, 2))
		}
		b.drain()
	}
	a.same("what was done to a copy")
}

// names are numbers of flows of every kind, in ascending order.
func names() []int {
	return []int{math.MinInt, math.MinInt + 1, -1 << 32, -4, -3, -2, -1, 0, 1, 2, 3, 4, 5, 6, 7, 8, 1<<20 - 1, 1 << 20, 1<<20 + 1, 1 << 32, 1<<32 + 1, math.MaxInt - 1, math.MaxInt}
}

// edges are numbers about the range from 1 to most, and at both ends of int.
func edges(most int) []int {
	return []int{math.MinInt, math.MinInt + 1, -1 << 32, -1, 0, 1, 2, most - 1, most, most + 1, 1 << 32, 1<<32 + 1, math.MaxInt - 1, math.MaxInt}
}

// next returns a small generator of numbers below n, the same at every run.
func next(seed uint64) func(n uint64) uint64 {
	return func(n uint64) uint64 {
		seed = seed*6364136223846793005 + 1442695040888963407
		return (seed >> 20) % n
	}
}

func TestExample(t *testing.T) {
	m, e := model.New(config(1, 1))
	if e != api.OK {
		t.Fatalf("New: error %d", e)
	}
	for i, x := range []struct {
		c    api.Call
		want api.Ret
	}{
		{call(api.OpRegister, 1, 1, 2), api.Ret{}},
		{call(api.OpEnqueue, 1, 5, 9), api.Ret{}},
		{call(api.OpDequeue, 0, 0, 0), api.Ret{Packets: []api.Packet{packet(1, 5, 9)}}},
		{call(api.OpDequeue, 0, 0, 0), api.Ret{E: api.Empty}},
	} {
		if got := m.Do(x.c); !equal(got, x.want) {
			t.Fatalf("Example 1: the call %d, %v = %v; want %v", i, x.c, got, x.want)
		}
	}
}

// TestRight has each number of a configuration at its edges, with the others at their least and their greatest values.
func TestRight(t *testing.T) {
	least := api.Config{Shards: 1, Slots: 1, Workers: 1, Width: 0, Unit: 1}
	greatest := api.Config{Shards: 4, Slots: 4, Workers: 6, Width: 40, Unit: 1 << 62}
	for _, c := range []api.Config{least, greatest} {
		checkConfig(t, c, true)
		for _, x := range []struct {
			number         *int
			first, onePast int
		}{{&c.Shards, 1, 5}, {&c.Slots, 1, 5}, {&c.Workers, 1, 7}, {&c.Width, 0, 41}} {
			kept := *x.number
			for _, n := range append(edges(x.onePast-1), x.onePast+1, 3) {
				*x.number = n
				checkConfig(t, c, x.first <= n && n < x.onePast)
			}
			*x.number = kept
		}
		for _, unit := range []uint64{0, 1, 2, 1<<62 - 1, 1 << 62, 1<<62 + 1, 1 << 63, 1<<63 + 1, api.Top - 1, api.Top} {
			c.Unit = unit
			checkConfig(t, c, unit > 0 && unit <= 1<<62)
		}
	}
	checkConfig(t, api.Config{}, false)
	checkConfig(t, api.Config{Shards: -1, Slots: -1, Workers: -1, Width: -1, Unit: api.Top}, false)
}

func checkConfig(t *testing.T, c api.Config, right bool) {
	t.Helper()
	if got := model.Right(c); got != right {
		t.Fatalf("P11.1: Right(%v) = %v; want %v", c, got, right)
	}
	if right {
		newPair(t, c)
		return
	}
	if m, e := model.New(c); m != nil || e != api.ErrArg {
		t.Fatalf("P11.1: New(%v) = %v, error %d; want ErrArg", c, m, e)
	}
}

// loaded returns models of every kind: without flows, with flows without packets, with packets, behind some, and behind all of them.
func loaded(t *testing.T) []*pair {
	t.Helper()
	bare := newPair(t, config(2, 2))
	idle := bare.copied()
	idle.want(api.OK, call(api.OpRegister, 4, 2, 2))
	idle.want(api.OK, call(api.OpRegister, 1, 1, 3))
	full := idle.copied()
	for mark := range 2 {
		full.want(api.OK, call(api.OpEnqueue, 4, 3, mark))
		full.want(api.OK, call(api.OpEnqueue, 1, 5, mark))
	}
	some := full.copied()
	some.served(packet(1, 5, 0), 0)
	gone := full.copied()
	for range 4 {
		gone.want(api.OK, call(api.OpDequeue, 0, 0, 0))
	}
	over := gone.copied()
	over.drain()
	return []*pair{bare, idle, full, some, gone, over}
}

// TestOps has every Op that is none, in models of every kind.
func TestOps(t *testing.T) {
	ops := []int{math.MinInt, math.MinInt + 1, -1 << 32, -256, -6, -1, 0, 7, 8, 256 + 4, 1<<16 + 4, 1<<32 + 4, 1 << 62, math.MaxInt - 1, math.MaxInt}
	for _, a := range loaded(t) {
		for _, op := range ops {
			for _, n := range []int{math.MinInt, -1, 0, 1, 4, math.MaxInt} {
				a.want(api.ErrOp, call(op, 4, n, 1))
				a.want(api.ErrOp, call(op, n, 1, n))
			}
		}
		a.deep()
	}
}

// TestFields has every call with every kind of number in each of its fields, in models of every kind; those that a call does not name are of no weight.
func TestFields(t *testing.T) {
	for _, a := range loaded(t) {
		for op := range 8 {
			for _, flow := range []int{math.MinInt, -4, 0, 1, 4, math.MaxInt} {
				for _, x := range []int{math.MinInt, -1, 0, 1, 3, 16, 17, math.MaxInt} {
					for _, y := range []int{math.MinInt, 0, 2, 8, 9, math.MaxInt} {
						a.copied().do(call(op, flow, x, y))
					}
				}
			}
		}
	}
}

// TestErrorsChangeNothing has calls that return errors, in models of every kind.
func TestErrorsChangeNothing(t *testing.T) {
	for _, a := range loaded(t) {
		for _, c := range []api.Call{
			call(0, 4, 1, 1), call(api.OpRegister, -1, 1, 1), call(api.OpRegister, 2, 0, 1), call(api.OpRegister, 2, 1, 0), call(api.OpClose, 2, 0, 0), call(api.OpEnqueue, 2, 1, 1), call(api.OpEnqueue, 4, 0, 1), call(api.OpEnqueue, 4, 1<<16+1, 1), call(api.OpBatch, 4, 0, 1), call(api.OpBatch, 4, 17, 1),
		} {
			if r := a.do(c); r.E == api.OK || r.E == api.Empty {
				t.Fatalf("P11.2: Do(%v) = %v; want an error", c, r)
			}
			a.deep()
		}
	}
}

// TestRegister has all numbers of an OpRegister at their edges, and so several of them wrong at once.
func TestRegister(t *testing.T) {
	for _, flow := range append(edges(1<<20), 7) {
		for _, weight := range edges(1 << 16) {
			for _, most := range edges(8) {
				a := newPair(t, config(3, 1))
				e := api.OK
				switch {
				case flow < 0 || flow > 1<<20:
					e = api.ErrArg
				case weight < 1 || weight > 1<<16:
					e = api.ErrBadWeight
				case most < 1 || most > 8:
					e = api.ErrArg
				}
				a.want(e, call(api.OpRegister, flow, weight, most))
				if e == api.OK {
					a.want(api.ErrExists, call(api.OpRegister, flow, weight, most))
					a.deep()
				}
			}
		}
	}
}

// TestRegisterOrder has several errors apply at once, down to a flow that exists where there is no room.
func TestRegisterOrder(t *testing.T) {
	a := newPair(t, config(2, 1))
	a.want(api.OK, call(api.OpRegister, 4, 2, 2))
	for _, x := range []struct {
		e                  api.Errno
		flow, weight, most int
	}{
		{api.ErrArg, -1, 0, 0}, {api.ErrArg, 1<<20 + 1, 1<<16 + 1, 9}, {api.ErrArg, -2, 0, 1}, {api.ErrArg, -2, 1, 1},
		{api.ErrBadWeight, 4, 0, 0}, {api.ErrBadWeight, 6, 1<<16 + 1, 9}, {api.ErrBadWeight, 4, -1, 1}, {api.ErrBadWeight, 6, 0, 1},
		{api.ErrArg, 4, 1, 0}, {api.ErrArg, 6, 1, 9}, {api.ErrArg, 5, 1, 0},
		{api.ErrExists, 4, 1, 1}, {api.ErrExists, 4, 2, 2}, {api.ErrExists, 4, 1 << 16, 8},
		{api.ErrRoom, 6, 1, 1}, {api.ErrRoom, 0, 1, 1}, {api.ErrRoom, 1 << 20, 1 << 16, 8},
		{api.OK, 5, 1, 1}, {api.ErrRoom, 1<<20 - 1, 1, 1}, {api.ErrExists, 5, 1, 1},
	} {
		a.want(x.e, call(api.OpRegister, x.flow, x.weight, x.most))
	}
	a.deep()
}

// TestExists registers a flow that exists: what it was registered with stays.
func TestExists(t *testing.T) {
	a := newPair(t, config(1, 2))
	a.want(api.OK, call(api.OpRegister, 3, 1, 1))
	a.want(api.OK, call(api.OpEnqueue, 3, 4, 1))
	a.want(api.ErrExists, call(api.OpRegister, 3, 10, 8))
	a.want(api.ErrFull, call(api.OpEnqueue, 3, 4, 2))
	a.served(packet(3, 4, 1), 0)
	a.want(api.ErrExists, call(api.OpRegister, 3, 10, 8))
	a.none(40)
}

// TestRoom fills one shard, whatever the numbers of shards and slots are, with the others still open, and makes room again.
func TestRoom(t *testing.T) {
	for shards := 1; shards <= 4; shards++ {
		for slots := 1; slots <= 4; slots++ {
			for shard := range shards {
				a := newPair(t, config(shards, slots))
				for i := range slots {
					a.want(api.OK, call(api.OpRegister, shard+i*shards, 1, 1))
				}
				last := shard + slots*shards
				a.want(api.ErrRoom, call(api.OpRegister, last, 1, 1))
				for other := range shards {
					if other != shard {
						a.want(api.OK, call(api.OpRegister, other+9*shards, 1, 1))
					}
				}
				a.want(api.ErrRoom, call(api.OpRegister, last, 1, 1))
				a.want(api.OK, call(api.OpEnqueue, shard, 1, 1))
				a.want(api.ErrBusy, call(api.OpClose, shard, 0, 0))
				a.want(api.ErrRoom, call(api.OpRegister, last, 1, 1))
				a.want(api.OK, call(api.OpDequeue, 0, 0, 0))
				a.want(api.ErrRoom, call(api.OpRegister, last, 1, 1))
				a.want(api.OK, call(api.OpClose, shard, 0, 0))
				a.want(api.OK, call(api.OpRegister, last, 1, 1))
				a.want(api.ErrRoom, call(api.OpRegister, shard, 1, 1))
				a.want(api.ErrNoFlow, call(api.OpClose, shard, 0, 0))
				a.want(api.ErrRoom, call(api.OpRegister, shard, 1, 1))
			}
		}
	}
}

func TestClose(t *testing.T) {
	a := newPair(t, config(1, 3))
	for _, id := range names() {
		a.want(api.ErrNoFlow, call(api.OpClose, id, 1, 1))
	}
	a.want(api.OK, call(api.OpRegister, 4, 1, 2))
	a.want(api.OK, call(api.OpRegister, 5, 1, 2))
	a.want(api.OK, call(api.OpEnqueue, 4, 1, 1))
	a.want(api.OK, call(api.OpEnqueue, 4, 1, 2))
	for _, id := range names() {
		if id != 4 && id != 5 {
			a.want(api.ErrNoFlow, call(api.OpClose, id, 1, 1))
		}
	}
	a.want(api.ErrBusy, call(api.OpClose, 4, 0, 0))
	a.served(packet(4, 1, 1), 0)
	a.want(api.ErrBusy, call(api.OpClose, 4, 0, 0))
	a.served(packet(4, 1, 2), 10)
	a.want(api.OK, call(api.OpClose, 4, math.MinInt, math.MaxInt))
	a.want(api.ErrNoFlow, call(api.OpClose, 4, 0, 0))
	a.want(api.ErrNoFlow, call(api.OpEnqueue, 4, 1, 1))
	a.want(api.OK, call(api.OpClose, 5, 0, 0))
	a.none(20)
	a.want(api.OK, call(api.OpRegister, 4, 1, 1))
	a.want(api.OK, call(api.OpClose, 4, 0, 0))
	if len(a.m.Flows()) != 0 || a.m.Served() != 2 {
		t.Fatalf("P11.3: Flows %v, Served %d behind all", a.m.Flows(), a.m.Served())
	}
}

// TestAnew closes a flow whose finish tag is far above the virtual time, and registers it with another weight and room: it starts at the virtual time.
func TestAnew(t *testing.T) {
	c := config(2, 2)
	c.Unit = 1000
	a := newPair(t, c)
	a.want(api.OK, call(api.OpRegister, 4, 1, 1))
	a.want(api.OK, call(api.OpEnqueue, 4, 5, 1))
	a.served(packet(4, 5, 1), 0)
	a.want(api.OK, call(api.OpClose, 4, 0, 0))
	a.want(api.OK, call(api.OpRegister, 4, 500, 2))
	a.want(api.OK, call(api.OpEnqueue, 4, 5, 2))
	a.want(api.OK, call(api.OpEnqueue, 4, 5, 3))
	a.want(api.ErrFull, call(api.OpEnqueue, 4, 5, 4))
	if got := a.m.Starts(); !slices.Equal(got, []api.Item{{Key: 0, ID: 4}}) {
		t.Fatalf("P11.2: Starts of a flow that came anew = %v", got)
	}
	a.served(packet(4, 5, 2), 0)
	a.served(packet(4, 5, 3), 10)
	a.none(5000)
}

func TestEnqueue(t *testing.T) {
	for _, size := range edges(1 << 16) {
		right := size >= 1 && size <= 1<<16
		a := newPair(t, config(2, 2))
		want := map[bool]api.Errno{true: api.ErrNoFlow, false: api.ErrBadLen}[right]
		for _, id := range names() {
			a.want(want, call(api.OpEnqueue, id, size, 1))
		}
		a.want(api.OK, call(api.OpRegister, 4, 1, 1))
		if !right {
			a.want(api.ErrBadLen, call(api.OpEnqueue, 4, size, 1))
			a.want(api.OK, call(api.OpEnqueue, 4, 1, 1))
			a.want(api.ErrBadLen, call(api.OpEnqueue, 4, size, 1))
			a.want(api.ErrBadLen, call(api.OpEnqueue, 5, size, 1))
			continue
		}
		for mark := range 3 {
			a.want(api.OK, call(api.OpEnqueue, 4, size, mark))
			a.want(api.ErrFull, call(api.OpEnqueue, 4, size, -1))
			a.want(api.ErrNoFlow, call(api.OpEnqueue, 5, size, -1))
			a.served(packet(4, size, mark), uint64(10*mark*size))
		}
	}
}

// TestRooms has a flow that is full, and one that has room again, whatever the room.
func TestRooms(t *testing.T) {
	for most := 1; most <= 8; most++ {
		a := newPair(t, config(1, 2))
		a.want(api.OK, call(api.OpRegister, 0, 1, most))
		a.want(api.OK, call(api.OpRegister, 9, 1, 1))
		for mark := range most {
			a.want(api.OK, call(api.OpEnqueue, 0, 1, mark))
		}
		for round := range 10 {
			a.want(api.ErrFull, call(api.OpEnqueue, 0, 1, -1))
			a.served(packet(0, 1, round), uint64(10*round))
			a.want(api.OK, call(api.OpEnqueue, 0, 1, round+most))
		}
		if a.m.Len(0) != most || a.m.Len(9) != 0 {
			t.Fatalf("P11.3: Len = %d, %d; want %d, 0", a.m.Len(0), a.m.Len(9), most)
		}
	}
}

func TestMarks(t *testing.T) {
	a := newPair(t, config(1, 1))
	a.want(api.OK, call(api.OpRegister, 0, 10, 8))
	for i, mark := range edges(1 << 20) {
		a.want(api.OK, call(api.OpEnqueue, 0, 1, mark))
		a.served(packet(0, 1, mark), uint64(i))
	}
}

// TestDequeue has no flows, flows without packets, and packets of several flows, once and again.
func TestDequeue(t *testing.T) {
	a := newPair(t, config(2, 2))
	a.none(0)
	a.none(0)
	for _, x := range []struct{ flow, weight int }{{2, 2}, {0, 1}, {3, 5}} {
		a.want(api.OK, call(api.OpRegister, x.flow, x.weight, 4))
	}
	a.none(0)
	for mark := range 2 {
		for _, id := range []int{3, 2, 0} {
			a.want(api.OK, call(api.OpEnqueue, id, 4, mark))
		}
	}
	a.served(packet(0, 4, 0), 0)
	a.served(packet(2, 4, 0), 0)
	a.served(packet(3, 4, 0), 0)
	a.served(packet(3, 4, 1), 8)
	a.served(packet(2, 4, 1), 20)
	a.served(packet(0, 4, 1), 40)
	a.none(80)
	a.none(80)
	a.want(api.OK, call(api.OpEnqueue, 3, 4, 2))
	a.want(api.OK, call(api.OpEnqueue, 0, 4, 2))
	a.served(packet(0, 4, 2), 80)
	// The busy period has not ended by the last packet alone.
	a.served(packet(3, 4, 2), 80)
	a.want(api.OK, call(api.OpEnqueue, 2, 4, 3))
	a.served(packet(2, 4, 3), 80)
	a.none(120)
	if a.m.Served() != 9 {
		t.Fatalf("P11.3: Served = %d; want 9", a.m.Served())
	}
}

// TestBatch has fewer packets than a batch asks for, as many, and more, and holds it against so many OpDequeues one behind the other.
func TestBatch(t *testing.T) {
	for packets := range 20 {
		for _, n := range append(edges(16), 3, 8) {
			a := newPair(t, config(1, 4))
			for id := range 3 {
				a.want(api.OK, call(api.OpRegister, id, 1+id, 8))
			}
			for i := range packets {
				a.want(api.OK, call(api.OpEnqueue, i%3, 1+i%5, i))
			}
			b := a.copied()
			got := a.do(call(api.OpBatch, -9, n, -9))
			if n < 1 || n > 16 {
				if !equal(got, api.Ret{E: api.ErrArg}) {
					t.Fatalf("P11.2: OpBatch of %d = %v; want ErrArg", n, got)
				}
				a.deep()
				continue
			}
			if want := oneByOne(b, n); !equal(got, want) || a.m.V() != b.m.V() || a.m.Served() != b.m.Served() {
				t.Fatalf("P11.2: OpBatch of %d with %d packets = %v; want %v", n, packets, got, want)
			}
			if (got.E == api.Empty) != (packets < n) || len(got.Packets) != min(packets, n) {
				t.Fatalf("P11.2: OpBatch of %d with %d packets = %v", n, packets, got)
			}
			a.deep()
		}
	}
}

// oneByOne returns what a batch is to return, from OpDequeues.
func oneByOne(b *pair, n int) api.Ret {
	all := api.Ret{}
	for range n {
		r := b.do(call(api.OpDequeue, 0, 0, 0))
		all.Packets = append(all.Packets, r.Packets...)
		if r.E == api.Empty {
			all.E = api.Empty
			break
		}
	}
	return all
}

// TestBatchEnds has a batch that takes the last packet, and leaves the busy period as it is, and one that asks for one more, which ends it.
func TestBatchEnds(t *testing.T) {
	for n, v := range map[int]uint64{2: 30, 3: 50} {
		a := newPair(t, config(1, 1))
		a.want(api.OK, call(api.OpRegister, 0, 1, 2))
		a.want(api.OK, call(api.OpEnqueue, 0, 3, 1))
		a.want(api.OK, call(api.OpEnqueue, 0, 2, 2))
		a.do(call(api.OpBatch, 0, n, 0))
		if a.m.V() != v {
			t.Fatalf("P11.2: V behind an OpBatch of %d = %d; want %d", n, a.m.V(), v)
		}
	}
}

// TestStats asks for OpStats as packets are served, and behind a flow that was closed.
func TestStats(t *testing.T) {
	a := newPair(t, config(1, 2))
	stats := func(n int, v uint64) {
		t.Helper()
		for _, x := range []int{math.MinInt, 0, 1, math.MaxInt} {
			if got := a.do(call(api.OpStats, x, x, x)); !equal(got, api.Ret{N: n, V: v}) {
				t.Fatalf("P11.2: OpStats = %v; want %d, %d", got, n, v)
			}
		}
	}
	stats(0, 0)
	a.want(api.OK, call(api.OpRegister, 1, 1, 2))
	a.want(api.OK, call(api.OpEnqueue, 1, 5, 1))
	a.want(api.OK, call(api.OpEnqueue, 1, 5, 2))
	stats(0, 0)
	a.do(call(api.OpDequeue, 0, 0, 0))
	stats(1, 0)
	a.do(call(api.OpDequeue, 0, 0, 0))
	stats(2, 50)
	a.want(api.OK, call(api.OpClose, 1, 0, 0))
	stats(2, 50)
	a.do(call(api.OpBatch, 0, 16, 0))
	stats(2, 100)
}

// TestPrices has units and weights at their edges, with lengths at theirs: tags are worked out with numbers of any size, and stop at Top.
func TestPrices(t *testing.T) {
	for _, unit := range []uint64{1, 2, 1000, 1 << 16, 1<<16 + 1, 1<<62 - 1, 1 << 62} {
		for _, weight := range []int{1, 2, 3, 1<<16 - 1, 1 << 16} {
			for _, size := range []int{1, 2, 1500, 1<<16 - 1, 1 << 16} {
				c := config(1, 2)
				c.Unit = unit
				a := newPair(t, c)
				a.want(api.OK, call(api.OpRegister, 0, weight, 8))
				a.want(api.OK, call(api.OpRegister, 1, 1, 8))
				for mark := range 5 {
					a.want(api.OK, call(api.OpEnqueue, 1, size, mark))
					a.want(api.OK, call(api.OpEnqueue, 0, size, mark))
				}
				if got := a.drain(); len(got) != 10 {
					t.Fatalf("P11.2: %d packets served; want 10", len(got))
				}
				a.deep()
			}
		}
	}
}

// TestTop has tags that reach Top exactly, miss it by one, or would go beyond it, and stay there.
func TestTop(t *testing.T) {
	for _, x := range []struct {
		unit   uint64
		weight int
		size   int
		times  int
		v      uint64
	}{
		{api.Top / 5, 1, 5, 1, api.Top},
		{(api.Top - 1) / 7, 1, 7, 1, api.Top - 1},
		{1 << 62, 1, 4, 1, api.Top},
		{1 << 62, 1, 3, 1, 3 << 62},
		{1 << 62, 1 << 16, 1 << 16, 3, 3 << 62},
		{1 << 62, 1 << 16, 1 << 16, 4, api.Top},
		{1 << 62, 1, 1 << 16, 3, api.Top},
		{1, 1 << 16, 1, 3, 3},
	} {
		c := config(1, 2)
		c.Unit = x.unit
		a := newPair(t, c)
		a.want(api.OK, call(api.OpRegister, 1, x.weight, 8))
		for range x.times {
			a.want(api.OK, call(api.OpEnqueue, 1, x.size, 7))
			a.want(api.OK, call(api.OpDequeue, 0, 0, 0))
		}
		a.none(x.v)
		a.want(api.OK, call(api.OpRegister, 0, 1, 8))
		for range 3 {
			a.want(api.OK, call(api.OpEnqueue, 1, 1, 8))
			a.want(api.OK, call(api.OpEnqueue, 0, 1, 9))
		}
		a.drain()
		a.deep()
	}
}

// TestLen asks for flows that exist, for those that do not, and for those that did.
func TestLen(t *testing.T) {
	a := newPair(t, config(4, 4))
	for _, id := range names() {
		r := a.do(call(api.OpRegister, id, 1, 3))
		if got := a.m.Len(id); (got == 0) != (r.E == api.OK) || got > 0 {
			t.Fatalf("P11.3: Len(%d) = %d behind %v", id, got, r)
		}
	}
	for n := range 3 {
		for _, id := range a.m.Flows() {
			a.want(api.OK, call(api.OpEnqueue, id, 1, n))
			if got := a.m.Len(id); got != n+1 {
				t.Fatalf("P11.3: Len(%d) = %d; want %d", id, got, n+1)
			}
		}
	}
	a.drain()
	for _, id := range a.m.Flows() {
		a.want(api.OK, call(api.OpClose, id, 0, 0))
		if got := a.m.Len(id); got != -1 {
			t.Fatalf("P11.3: Len(%d) = %d behind OpClose; want -1", id, got)
		}
	}
}

// TestOwnLists has lists that were returned stay as they are whatever is done then.
func TestOwnLists(t *testing.T) {
	m, _ := model.New(config(4, 4))
	for id := range 4 {
		m.Do(call(api.OpRegister, id, 1, 8))
		for mark := range 8 {
			m.Do(call(api.OpEnqueue, id, 1, mark))
		}
	}
	starts, ids := m.Starts(), m.Flows()
	one, many := m.Do(call(api.OpDequeue, 0, 0, 0)).Packets, m.Do(call(api.OpBatch, 0, 7, 0)).Packets
	keptStarts, keptIDs, keptOne, keptMany := slices.Clone(starts), slices.Clone(ids), slices.Clone(one), slices.Clone(many)
	m.Do(call(api.OpBatch, 0, 16, 0))
	for mark := range 8 {
		m.Do(call(api.OpEnqueue, 0, 2, 50+mark))
	}
	m.Do(call(api.OpBatch, 0, 16, 0))
	m.Do(call(api.OpDequeue, 0, 0, 0))
	m.Do(call(api.OpClose, 1, 0, 0))
	m.Do(call(api.OpRegister, 8, 1, 1))
	if !slices.Equal(starts, keptStarts) || !slices.Equal(ids, keptIDs) || !slices.Equal(one, keptOne) || !slices.Equal(many, keptMany) {
		t.Fatal("R3: what was returned changes with the model")
	}
}

// TestCopy copies models of every kind; the copy, the model and a copy of the copy go their own ways.
func TestCopy(t *testing.T) {
	for _, a := range loaded(t) {
		b := a.copied()
		c := b.copied()
		all := []*pair{a, b, c}
		for round := range 3 {
			for i, x := range all {
				ways(x, 2*i+round)
				for _, y := range all {
					y.same("what was done to a copy, or to what it was copied from")
				}
			}
		}
		for _, x := range all {
			x.deep()
			x.drain()
			for _, y := range all {
				y.same("what was served of a copy, or of what it was copied from")
			}
		}
	}
}

// ways does one of each call to a model.
func ways(a *pair, id int) {
	a.do(call(api.OpRegister, id, 3, 2))
	a.do(call(api.OpEnqueue, id, 3, 50+id))
	a.do(call(api.OpEnqueue, 4, 9, 60+id))
	a.do(call(api.OpDequeue, 0, 0, 0))
	a.do(call(api.OpClose, id+1, 0, 0))
	a.do(call(api.OpBatch, 0, 2, 0))
	a.do(call(api.OpClose, id, 0, 0))
	a.do(call(api.OpStats, 0, 0, 0))
}

// step performs some call.
func step(a *pair, rand func(uint64) uint64) {
	id := int(rand(10)) - 1
	switch rand(16) {
	case 0, 1:
		a.do(call(api.OpRegister, id, int(rand(1<<(1+rand(18)))), int(rand(10))))
	case 2:
		a.do(call(api.OpClose, id, 0, 0))
	case 3, 4, 5, 6, 7, 8:
		a.do(call(api.OpEnqueue, id, int(rand(1<<(1+rand(17)))), int(rand(1000))))
	case 9:
		a.do(call(api.OpBatch, 0, int(rand(19))-1, 0))
	case 10:
		a.do(call(int(rand(12))-2, id, int(rand(9)), int(rand(9))))
	default:
		a.do(call(api.OpDequeue, 0, 0, 0))
	}
}

// pickConfig returns some configuration.
func pickConfig(rand func(uint64) uint64) api.Config {
	return api.Config{Shards: 1 + int(rand(4)), Slots: 1 + int(rand(4)), Workers: 1 + int(rand(6)), Width: int(rand(41)), Unit: 1 + rand(1<<rand(63))}
}

// TestAside has models side by side, of different configurations, with flows of the same numbers.
func TestAside(t *testing.T) {
	rand := next(5)
	all := []*pair{newPair(t, config(1, 4)), newPair(t, config(1, 4)), newPair(t, config(4, 2))}
	for range 3000 {
		step(all[rand(3)], rand)
		for _, b := range all {
			b.same("what was done to another model")
		}
	}
}

func TestWalk(t *testing.T) {
	for seed := range uint64(60) {
		rand := next(1000 + seed)
		a := newPair(t, pickConfig(rand))
		for range 300 {
			if rand(25) > 0 {
				step(a, rand)
				continue
			}
			b := a.copied()
			if rand(2) == 0 {
				a, b = b, a
			}
			for range 5 {
				step(b, rand)
			}
			b.deep()
			a.same("what was done to a model it was copied from or to")
		}
		a.drain()
	}
}

// TestIdleNumbers has configurations that differ only in their workers and their width, which are of no weight here.
func TestIdleNumbers(t *testing.T) {
	for seed := range uint64(10) {
		c := pickConfig(next(seed))
		var first picture
		for i, width := range []int{0, 1, 40} {
			c.Width, c.Workers = width, 1+i
			a, rand := newPair(t, c), next(seed)
			for range 100 {
				step(a, rand)
			}
			if i == 0 {
				first = see(a.m)
			} else if !see(a.m).equal(first) {
				t.Fatalf("P11.2: with %v, %v; want %v", c, see(a.m), first)
			}
		}
	}
}
