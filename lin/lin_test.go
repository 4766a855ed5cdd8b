package lin_test

import (
	"math"
	"reflect"
	"slices"
	"testing"

	"weighbridge/api"
	"weighbridge/hist"
	"weighbridge/lin"
	"weighbridge/model"
)

// filler lies in the room behind the end of what is handed in, and is written into what was told.
const filler = 987654321

// ends are numbers about 0 and at both ends of int; some are a right one, or -1, in their lowest 32 bits.
var ends = []int{math.MinInt, -1 << 32, -2, -1, 0, 1, 2, 1<<32 - 1, 1 << 32, math.MaxInt}

// errnos are all errors, and numbers that are none; some are OK, ErrArg or Empty in their lowest eight or 32 bits.
var errnos = []api.Errno{api.OK, api.ErrArg, api.ErrOp, api.ErrBadLen, api.ErrBadWeight, api.ErrNoFlow, api.ErrExists, api.ErrRoom, api.ErrBusy, api.ErrFull, api.Empty, api.ErrForm, api.ErrShort, 13, -1, -api.Empty, 256, 256 + api.ErrArg, 256 + api.Empty, 1 << 32, 1<<32 + api.Empty, math.MinInt, math.MaxInt}

// config is one in which a flow of weight 1 pays that much for a unit of length.
func config(unit uint64) api.Config {
	return api.Config{Shards: 4, Slots: 4, Workers: 6, Unit: unit}
}

func register(flow, weight, room int) api.Call {
	return api.Call{Op: api.OpRegister, Flow: flow, A: weight, B: room}
}

func shut(flow int) api.Call { return api.Call{Op: api.OpClose, Flow: flow} }

func enqueue(flow, size, mark int) api.Call {
	return api.Call{Op: api.OpEnqueue, Flow: flow, A: size, B: mark}
}

func dequeue() api.Call { return api.Call{Op: api.OpDequeue} }

func batch(n int) api.Call { return api.Call{Op: api.OpBatch, A: n} }

func stats() api.Call { return api.Call{Op: api.OpStats} }

func packet(flow, size, mark int) api.Packet {
	return api.Packet{Flow: flow, Len: size, Mark: mark}
}

func told(e api.Errno, p ...api.Packet) api.Ret { return api.Ret{E: e, Packets: p} }

func list(l ...api.Done) []api.Done { return l }

// done is a call of a worker; its Place follows from its beginning, so that those of one worker ascend.
func done(who, from, to int, c api.Call, r api.Ret) api.Done {
	return api.Done{Who: who, Place: from, Call: c, Ret: r, From: from, To: to}
}

// anyone are calls by as many workers that come one after another, from step on.
func anyone(step int, l ...api.Done) []api.Done {
	for i := range l {
		l[i].Who, l[i].Place, l[i].From, l[i].To = 100+step+i, step+i, step+i, step+i
	}
	return l
}

// atOnce are calls by as many workers, all of which overlap, from step on.
func atOnce(step int, l ...api.Done) []api.Done {
	for i := range l {
		l[i].Who, l[i].Place, l[i].From, l[i].To = 100+step+i, step, step, step+99
	}
	return l
}

func was(c api.Call, e api.Errno, p ...api.Packet) api.Done {
	return api.Done{Call: c, Ret: told(e, p...)}
}

// count is an OpStats with this result.
func count(n int, v uint64) api.Done { return api.Done{Call: stats(), Ret: api.Ret{N: n, V: v}} }

func many(n int, d api.Done) []api.Done { return slices.Repeat(list(d), n) }

func upTo(n int) []int {
	order := make([]int, n)
	for i := range order {
		order[i] = i
	}
	return order
}

func reversed(order []int) []int {
	order = slices.Clone(order)
	slices.Reverse(order)
	return order
}

// fitsOf is what Fits is to be: every two parts are held against each other.
func fitsOf(c api.Config, l []api.Done, order []int) bool {
	if !model.Right(c) || !hist.Right(l) || !hist.Ended(l) {
		return false
	}
	parts := hist.Parts(l)
	at := map[int]int{}
	for k, i := range order {
		if i < 0 || i >= len(parts) {
			return false
		}
		at[i] = k
	}
	if len(at) != len(parts) || len(order) != len(parts) {
		return false
	}
	for i, a := range parts {
		for k, b := range parts {
			if at[i] > at[k] && (hist.Ahead(a, b) || i < k && a.Who == b.Who && a.Place == b.Place) {
				return false
			}
		}
	}
	return replays(c, parts, order)
}

// replays reports whether a new model answers the first calls as they were answered.
func replays(c api.Config, parts []api.Done, order []int) bool {
	m, _ := model.New(c)
	for _, i := range order {
		r, want := m.Do(parts[i].Call), parts[i].Ret
		if r.E != want.E || r.N != want.N || r.V != want.V || !slices.Equal(r.Packets, want.Packets) {
			return false
		}
	}
	return true
}

// searchOf is what Search is to be: every order is tried, the smaller ones first.
func searchOf(c api.Config, l []api.Done) ([]int, bool) {
	order := upTo(len(hist.Parts(l)))
	for {
		if fitsOf(c, l, order) {
			return order, true
		}
		if !advance(order) {
			return nil, false
		}
	}
}

// advance turns order into the next greater one, if there is one.
func advance(order []int) bool {
	for i := len(order) - 2; i >= 0; i-- {
		if order[i] > order[i+1] {
			continue
		}
		k := len(order) - 1
		for order[k] < order[i] {
			k--
		}
		order[i], order[k] = order[k], order[i]
		slices.Reverse(order[i+1:])
		return true
	}
	return false
}

// longSearchOf tries every order, too, but goes on with none whose first calls tell against it; it remembers nothing.
func longSearchOf(c api.Config, l []api.Done) ([]int, bool) {
	parts := hist.Parts(l)
	var walk func(order []int) ([]int, bool)
	walk = func(order []int) ([]int, bool) {
		if !replays(c, parts, order) {
			return nil, false
		}
		if len(order) == len(parts) {
			return order, fitsOf(c, l, order)
		}
		for i, d := range parts {
			early := func(k int) bool { return !slices.Contains(order, k) && hist.Ahead(parts[k], d) }
			if slices.Contains(order, i) || slices.ContainsFunc(upTo(len(parts)), early) {
				continue
			}
			if whole, ok := walk(append(slices.Clip(order), i)); ok {
				return whole, true
			}
		}
		return nil, false
	}
	return walk(nil)
}

// lent is what is handed in: with room behind the end of each list in it.
type lent struct {
	l, whole, was    []api.Done
	order, all, were []int
}

func lend(l []api.Done, order []int) lent {
	var whole []api.Done
	for _, d := range l {
		if d.Ret.Packets != nil {
			p := append(slices.Clone(d.Ret.Packets), packet(filler, filler, filler), packet(filler, filler, filler))
			d.Ret.Packets = p[:len(d.Ret.Packets)]
		}
		whole = append(whole, d)
	}
	for range 3 {
		whole = append(whole, done(filler, filler, filler, batch(filler), told(filler, packet(filler, filler, filler))))
	}
	all := append(slices.Clone(order), filler, 0, 1)
	x := lent{l: whole[:len(l)], whole: whole, was: deep(whole), order: all[:len(order)], all: all, were: slices.Clone(all)}
	if l == nil {
		x.l = nil
	}
	if order == nil {
		x.order = nil
	}
	return x
}

// deep copies the calls, and their packets with the room behind them.
func deep(l []api.Done) []api.Done {
	l = slices.Clone(l)
	for i := range l {
		p := l[i].Ret.Packets
		l[i].Ret.Packets = slices.Clone(p[:cap(p)])
	}
	return l
}

// kept fails the test unless all of it is as it was.
func (x lent) kept(t *testing.T, behind string) {
	t.Helper()
	if !reflect.DeepEqual(deep(x.whole), x.was) || !slices.Equal(x.all, x.were) {
		t.Fatalf("R3: %s changes what was handed in, or the room behind its end: %v, %v; want %v, %v", behind, x.whole, x.all, x.was, x.were)
	}
}

// fits fails the test unless Fits tells want, and so does what it is to be.
func fits(t *testing.T, c api.Config, l []api.Done, order []int, want bool) {
	t.Helper()
	x := lend(l, order)
	if got := lin.Fits(c, x.l, x.order); got != want {
		t.Errorf("P15.1: Fits(%v, %v, %v) = %v; want %v", c, l, order, got, want)
	}
	x.kept(t, "Fits")
	if fitsOf(c, l, order) != want {
		t.Fatalf("the test is wrong of %v, %v, %v: %v", c, l, order, want)
	}
}

// finds fails the test unless Search tells want, and ok.
func finds(t *testing.T, c api.Config, l []api.Done, want []int, ok bool) {
	t.Helper()
	x := lend(l, nil)
	got, found := lin.Search(c, x.l)
	if found != ok || !slices.Equal(got, want) {
		t.Errorf("P15.2: Search(%v, %v) = %v, %v; want %v, %v", c, l, got, found, want, ok)
	}
	x.kept(t, "Search")
	if found && !lin.Fits(c, l, got) {
		t.Errorf("what follows: %v, which Search(%v, %v) returned, does not fit", got, c, l)
	}
}

// next tells numbers below n that follow one seed.
func next(seed uint64) func(n int) int {
	return func(n int) int {
		seed = seed*6364136223846793005 + 1442695040888963407
		return int((seed >> 33) % uint64(n))
	}
}

// shuffled are the calls in another order.
func shuffled(l []api.Done, rand func(n int) int) []api.Done {
	l = slices.Clone(l)
	for i := range l {
		k := rand(i + 1)
		l[i], l[k] = l[k], l[i]
	}
	return l
}

// worker is one in a run: now is its call, which has begun in phase 1, and taken effect in phase 2.
type worker struct {
	list         []api.Call
	place, phase int
	now          api.Done
}

// run has workers perform their calls on one model, each in a step in which it begins, at least one in which it takes effect, and one in which it ends. It returns the calls in any order, and an order of their parts that fits.
func run(c api.Config, lists [][]api.Call, rand func(n int) int) ([]api.Done, []int) {
	m, _ := model.New(c)
	var l, effects []api.Done
	all, left := make([]worker, len(lists)), 0
	for i := range lists {
		all[i].list = lists[i]
		left += len(lists[i])
	}
	for step := 0; left > 0; step++ {
		i := rand(len(all))
		w := &all[i]
		switch {
		case w.place == len(w.list):
		case w.phase == 0:
			w.now = api.Done{Who: i, Place: w.place, Call: w.list[w.place], From: step}
			w.phase = 1
		case w.phase == 1:
			effects = append(effects, w.now)
			if act(m, &w.now) {
				w.phase = 2
			}
		default:
			w.now.To = step
			l = append(l, w.now)
			w.place, w.phase, left = w.place+1, 0, left-1
		}
	}
	l = shuffled(l, rand)
	return l, named(hist.Parts(l), effects)
}

// act performs the call, or the next OpDequeue of a batch, and reports whether that was all of it.
func act(m *model.Model, d *api.Done) bool {
	if d.Call.Op != api.OpBatch || d.Call.A < 1 || d.Call.A > api.MaxBatch {
		d.Ret = m.Do(d.Call)
		return true
	}
	r := m.Do(dequeue())
	d.Ret.E = r.E
	d.Ret.Packets = append(d.Ret.Packets, r.Packets...)
	return r.E == api.Empty || len(d.Ret.Packets) == d.Call.A
}

// named are the indices of the parts that belong to effects.
func named(parts, effects []api.Done) []int {
	type name struct{ who, place int }
	indices := map[name][]int{}
	for i, d := range parts {
		indices[name{d.Who, d.Place}] = append(indices[name{d.Who, d.Place}], i)
	}
	var order []int
	for _, d := range effects {
		at := name{d.Who, d.Place}
		order = append(order, indices[at][0])
		indices[at] = indices[at][1:]
	}
	return order
}

// calls are those of some workers, n in all; few packets and flows differ, so that many orders explain the same.
func calls(workers, n int, rand func(n int) int) [][]api.Call {
	lists := make([][]api.Call, workers)
	for k := range n {
		kind := rand(12)
		c := [...]api.Call{register(1+rand(2), 1+rand(3), 1+rand(3)), shut(1 + rand(2)), enqueue(1+rand(2), 1+rand(3), rand(2)), dequeue(), batch(rand(4)), stats()}[[...]int{0, 0, 1, 2, 2, 2, 2, 3, 3, 4, 4, 5}[kind]]
		if k == 0 {
			c = register(1, 1+rand(3), 1+rand(3))
		}
		w := rand(workers)
		lists[w] = append(lists[w], c)
	}
	return lists
}

// turns are what can be wrong with an answer, each alone.
func turns(rand func(n int) int) []func(r *api.Ret) {
	onPacket := func(turn func(p *api.Packet)) func(r *api.Ret) {
		return func(r *api.Ret) {
			if len(r.Packets) > 0 {
				r.Packets = slices.Clone(r.Packets)
				turn(&r.Packets[rand(len(r.Packets))])
			}
		}
	}
	return []func(r *api.Ret){
		func(r *api.Ret) { r.E = errnos[rand(len(errnos))] },
		func(r *api.Ret) { r.E = []api.Errno{api.Empty, api.OK, api.ErrArg}[rand(3)] },
		onPacket(func(p *api.Packet) { p.Flow++ }),
		onPacket(func(p *api.Packet) { p.Len++ }),
		onPacket(func(p *api.Packet) { p.Mark ^= 1 }),
		func(r *api.Ret) { r.Packets = r.Packets[:len(r.Packets)/2] },
		func(r *api.Ret) { r.Packets = append(slices.Clip(r.Packets), packet(1, 1+rand(3), rand(2))) },
		func(r *api.Ret) { r.N++ },
		func(r *api.Ret) { r.N += 1 << 32 },
		func(r *api.Ret) { r.V++ },
		func(r *api.Ret) { r.V ^= 1 << 63 },
	}
}

// The example of the chapter; a flow for the packet was registered before.
func TestExample(t *testing.T) {
	c := config(10)
	l := list(
		done(0, 2, 9, enqueue(1, 5, 9), told(api.OK)),
		done(1, 3, 7, dequeue(), told(api.Empty)),
		done(2, 0, 1, register(1, 1, 1), told(api.OK)),
	)
	finds(t, c, l, []int{2, 1, 0}, true)
	fits(t, c, l, []int{2, 1, 0}, true)
	fits(t, c, l, []int{2, 0, 1}, false)
	// Without the flow, the packet is refused, and neither order is told from the other.
	l = list(
		done(0, 2, 9, enqueue(1, 5, 9), told(api.ErrNoFlow)),
		done(1, 3, 7, dequeue(), told(api.Empty)),
	)
	finds(t, c, l, []int{0, 1}, true)
	fits(t, c, l, []int{1, 0}, true)
}

// P15.1 and P15.2: of no calls and of one, with configurations that are right, just right, and not.
func TestConfigs(t *testing.T) {
	for _, x := range []struct {
		c  api.Config
		ok bool
	}{
		{config(10), true}, {api.Config{}, false},
		{api.Config{Shards: 1, Slots: 1, Workers: 1, Width: 0, Unit: 1}, true},
		{api.Config{Shards: 4, Slots: 4, Workers: 6, Width: 40, Unit: api.MaxUnit}, true},
		{api.Config{Shards: 0, Slots: 1, Workers: 1, Unit: 1}, false}, {api.Config{Shards: 5, Slots: 1, Workers: 1, Unit: 1}, false}, {api.Config{Shards: -1, Slots: 1, Workers: 1, Unit: 1}, false},
		{api.Config{Shards: 1, Slots: 0, Workers: 1, Unit: 1}, false}, {api.Config{Shards: 1, Slots: 5, Workers: 1, Unit: 1}, false}, {api.Config{Shards: 1, Slots: math.MaxInt, Workers: 1, Unit: 1}, false},
		{api.Config{Shards: 1, Slots: 1, Workers: 0, Unit: 1}, false}, {api.Config{Shards: 1, Slots: 1, Workers: 7, Unit: 1}, false}, {api.Config{Shards: 1, Slots: 1, Workers: math.MinInt, Unit: 1}, false},
		{api.Config{Shards: 1, Slots: 1, Workers: 1, Width: -1, Unit: 1}, false}, {api.Config{Shards: 1, Slots: 1, Workers: 1, Width: 41, Unit: 1}, false},
		{api.Config{Shards: 1, Slots: 1, Workers: 1, Unit: 0}, false}, {api.Config{Shards: 1, Slots: 1, Workers: 1, Unit: api.MaxUnit + 1}, false}, {api.Config{Shards: 1, Slots: 1, Workers: 1, Unit: api.Top}, false},
	} {
		// A batch that told nothing has no parts.
		for _, l := range [][]api.Done{nil, {}, anyone(0, count(7, 7))[:0], list(done(0, 0, 0, batch(1), told(api.OK)))} {
			for _, order := range [][]int{nil, {}, make([]int, 0, 4)} {
				fits(t, x.c, l, order, x.ok)
			}
			fits(t, x.c, l, []int{0}, false)
			finds(t, x.c, l, nil, x.ok)
		}
		one, want := anyone(0, count(0, 0)), []int{0}
		fits(t, x.c, one, want, x.ok)
		if !x.ok {
			want = nil
		}
		finds(t, x.c, one, want, x.ok)
	}
}

// P15.1 and P15.2: of histories that are not valid, and with a call that has not ended.
func TestHistories(t *testing.T) {
	c := config(10)
	call := func(who, place, from, to int) api.Done {
		return api.Done{Who: who, Place: place, Call: stats(), From: from, To: to}
	}
	a := call(1, 1, 3, 5)
	for n, x := range []struct {
		b  api.Done
		ok bool
	}{
		{call(2, 0, 0, 0), true}, {call(2, 0, 0, math.MaxInt), true}, {call(math.MaxInt, math.MaxInt, math.MaxInt, math.MaxInt), true},
		{call(-1, 0, 0, 0), false}, {call(2, -1, 0, 0), false}, {call(2, 0, -1, 0), false}, {call(2, 0, -1, -1), false}, {call(math.MinInt, 0, 0, 0), false},
		{call(2, 0, 4, 3), false}, {call(2, 0, 4, 4), true}, {call(2, 0, 4, -2), false}, {call(2, 0, 4, math.MinInt), false},
		// Not ended: the history is valid.
		{call(2, 0, 4, -1), false}, {call(1, 2, 6, -1), false}, {call(2, 0, 0, -1), false},
		// Of the same worker.
		{call(1, 2, 6, 6), true}, {call(1, 2, 5, 6), false}, {call(1, 1, 6, 6), false}, {call(1, 0, 6, 6), false}, {call(1, 0, 2, 2), true}, {call(1, 0, 2, 3), false}, {call(1, 0, 2, -1), false},
	} {
		for _, l := range [][]api.Done{list(a, x.b), list(x.b, a)} {
			if hist.Right(l) && hist.Ended(l) != x.ok {
				t.Fatalf("the test is wrong of the row %d", n)
			}
			want, ok := searchOf(c, l)
			finds(t, c, l, want, x.ok)
			if ok != x.ok {
				t.Errorf("P15.2: the row %d, %v: %v", n, l, ok)
			}
			for _, order := range [][]int{{0, 1}, {1, 0}} {
				fits(t, c, l, order, x.ok && fitsOf(c, l, order))
			}
		}
		alone := list(x.b)
		fits(t, c, alone, []int{0}, hist.Right(alone) && hist.Ended(alone))
	}
	// A batch that has not ended is not taken apart, whatever stands in it.
	open := list(done(0, 0, -1, batch(1), told(api.OK)))
	fits(t, c, open, nil, false)
	fits(t, c, open, []int{0}, false)
	finds(t, c, open, nil, false)
}

// P15.1: any order of calls that all overlap and tell the same fits; none does that is too short or too long, or names what is no part, or one twice.
func TestOrders(t *testing.T) {
	c := config(10)
	for n := range 5 {
		l, order := atOnce(0, many(n, count(0, 0))...), upTo(n)
		for {
			fits(t, c, l, order, true)
			for i := range n {
				for _, wrong := range []int{-1, n, n + 1, math.MinInt, math.MaxInt, -n, order[i] - 1<<32, order[i] + 1<<32, order[(i+1)%n] + n, 1 << 62} {
					turned := slices.Clone(order)
					turned[i] = wrong
					fits(t, c, l, turned, false)
				}
				for k := range n {
					turned := slices.Clone(order)
					turned[i] = order[k]
					fits(t, c, l, turned, i == k)
				}
				fits(t, c, l, slices.Delete(slices.Clone(order), i, i+1), false)
			}
			for i := range n + 1 {
				for _, more := range []int{0, n - 1, n, -1, math.MinInt, math.MaxInt} {
					fits(t, c, l, slices.Insert(slices.Clone(order), i, more), false)
				}
			}
			fits(t, c, l, slices.Concat(order, order), n == 0)
			if !advance(order) {
				break
			}
		}
		fits(t, c, l, nil, n == 0)
		fits(t, c, l, make([]int, 1000), false)
	}
}

// spans are calls by as many workers, of which only the steps matter: where each begins, and where it ends.
func spans(steps ...int) []api.Done {
	var l []api.Done
	for i := 0; i < len(steps); i += 2 {
		l = append(l, done(i, steps[i], steps[i+1], stats(), told(api.OK)))
	}
	return l
}

// P15.1 and P15.2: rows of which only the steps matter: what precedes comes first.
func TestPrecedes(t *testing.T) {
	c := config(10)
	for _, x := range []struct {
		l     []api.Done
		order []int
		want  bool
	}{
		{spans(0, 3, 4, 5), []int{0, 1}, true}, {spans(0, 3, 4, 5), []int{1, 0}, false},
		{spans(0, 4, 4, 5), []int{0, 1}, true}, {spans(0, 4, 4, 5), []int{1, 0}, true},
		{spans(4, 5, 0, 3), []int{0, 1}, false}, {spans(4, 5, 0, 3), []int{1, 0}, true},
		{spans(0, 9, 2, 3, 4, 5), []int{1, 0, 2}, true}, {spans(0, 9, 2, 3, 4, 5), []int{1, 2, 0}, true}, {spans(0, 9, 2, 3, 4, 5), []int{2, 0, 1}, false},
		// What comes late precedes neither the last one nor the one before that.
		{spans(0, 1, 2, 9, 1, 9, 0, 9), []int{1, 2, 3, 0}, false}, {spans(0, 1, 2, 9, 1, 9, 0, 9), []int{2, 3, 0, 1}, true},
		{spans(0, 0, 1, 1, 2, 2), []int{0, 1, 2}, true}, {spans(0, 0, 1, 1, 2, 2), []int{0, 2, 1}, false}, {spans(0, 0, 1, 1, 2, 2), []int{1, 0, 2}, false},
		{spans(0, math.MaxInt-1, math.MaxInt, math.MaxInt), []int{1, 0}, false}, {spans(0, math.MaxInt, math.MaxInt, math.MaxInt), []int{1, 0}, true},
	} {
		fits(t, c, x.l, x.order, x.want)
	}
	finds(t, c, spans(6, 7, 4, 5, 2, 3, 0, 1), []int{3, 2, 1, 0}, true)
	finds(t, c, spans(6, 7, 4, 6, 2, 3, 0, 2), []int{2, 3, 0, 1}, true)
	finds(t, c, spans(6, 7, 0, 7, 2, 3, 0, 1), []int{1, 3, 2, 0}, true)
	for seed := range uint64(200) {
		rand := next(seed)
		var l []api.Done
		for who := range 1 + rand(4) {
			from := rand(6)
			l = append(l, done(who, from, from+rand(4), stats(), told(api.OK)))
			if rand(3) == 0 {
				to := l[len(l)-1].To
				l = append(l, done(who, to+1, to+1+rand(3), stats(), told(api.OK)))
			}
		}
		if l = shuffled(l, rand); len(l) < 6 {
			hold(t, c, l)
		}
	}
}

// hold holds Fits of every order, and Search, against what they are to be, for a short history.
func hold(t *testing.T, c api.Config, l []api.Done) {
	t.Helper()
	order := upTo(len(hist.Parts(l)))
	for {
		fits(t, c, l, order, fitsOf(c, l, order))
		if !advance(order) {
			break
		}
	}
	want, ok := searchOf(c, l)
	finds(t, c, l, want, ok)
}

// P15.1 and P15.2: the parts of one batch come in their own order, even if the results are the same in another one.
func TestBatchOrder(t *testing.T) {
	c, p, q := config(10), packet(1, 1, 7), packet(1, 1, 8)
	before := anyone(0, was(register(1, 1, 8), api.OK), was(enqueue(1, 1, 7), api.OK), was(enqueue(1, 1, 7), api.OK), was(enqueue(1, 1, 7), api.OK), was(enqueue(1, 1, 7), api.OK))
	l := append(before, done(0, 9, 20, batch(3), told(api.OK, p, p, p)))
	fits(t, c, l, upTo(8), true)
	for _, order := range [][]int{{5, 7, 6}, {6, 5, 7}, {6, 7, 5}, {7, 5, 6}, {7, 6, 5}} {
		fits(t, c, l, append(upTo(5), order...), false)
	}
	// Two batches of one worker do not overlap, those of two workers may, and their parts lie between each other in any way.
	l = append(before, done(0, 9, 20, batch(2), told(api.OK, p, p)), done(0, 21, 30, batch(2), told(api.OK, p, p)))
	fits(t, c, l, upTo(9), true)
	fits(t, c, l, append(upTo(5), 5, 7, 6, 8), false)
	l = append(before, done(0, 9, 20, batch(2), told(api.OK, p, p)), done(1, 20, 30, batch(2), told(api.OK, p, p)))
	for _, x := range []struct {
		order []int
		want  bool
	}{{[]int{5, 6, 7, 8}, true}, {[]int{5, 7, 6, 8}, true}, {[]int{7, 5, 8, 6}, true}, {[]int{7, 8, 5, 6}, true}, {[]int{6, 5, 7, 8}, false}, {[]int{5, 8, 7, 6}, false}, {[]int{5, 8, 6, 7}, false}} {
		fits(t, c, l, append(upTo(5), x.order...), x.want)
	}
	finds(t, c, l, upTo(9), true)
	// What another worker has taken lies between the parts of a batch.
	l = anyone(0, was(register(1, 1, 8), api.OK), was(enqueue(1, 1, 7), api.OK), was(enqueue(1, 1, 8), api.OK), was(enqueue(1, 1, 7), api.OK))
	l = append(l, done(0, 9, 20, batch(2), told(api.OK, p, p)), done(1, 9, 20, dequeue(), told(api.OK, q)))
	finds(t, c, l, []int{0, 1, 2, 3, 4, 6, 5}, true)
	// The last part, which was Empty, is not the only one that can be.
	l = anyone(0, was(register(1, 1, 8), api.OK))
	l = append(l, done(0, 9, 20, batch(2), told(api.Empty, p)), done(1, 9, 20, enqueue(1, 1, 7), told(api.OK)), done(2, 9, 20, dequeue(), told(api.Empty)))
	finds(t, c, l, []int{0, 3, 1, 2, 4}, true)
	fits(t, c, l, []int{0, 2, 3, 1, 4}, false)
	hold(t, c, l)
}

// P15.1 and P15.2: batches with no packets, one and several, with each error.
func TestBatches(t *testing.T) {
	c, p, q, r := config(10), packet(1, 1, 7), packet(1, 1, 8), packet(1, 2, 8)
	before := anyone(0, was(register(1, 1, 8), api.OK), was(enqueue(1, 1, 7), api.OK), was(enqueue(1, 1, 8), api.OK))
	for _, x := range []struct {
		n    int
		ret  api.Ret
		more int
		want bool
	}{
		{2, told(api.OK), 0, true}, {2, told(api.OK, p), 1, true}, {2, told(api.OK, p, q), 2, true}, {2, told(api.OK, q), 1, false}, {2, told(api.OK, q, p), 2, false}, {2, told(api.OK, p, r), 2, false}, {3, told(api.OK, p, q, q), 3, false},
		{2, told(api.Empty), 1, false}, {2, told(api.Empty, p), 2, false}, {3, told(api.Empty, p, q), 3, true}, {3, told(api.Empty, q, p), 3, false},
		// Of a batch that is taken apart nothing but the packets, and Empty, stands in its parts.
		{0, told(api.OK, p), 1, true}, {17, told(api.OK), 0, true}, {1, told(api.Empty, p, q), 3, true}, {2, api.Ret{Packets: []api.Packet{p, q}, N: 5, V: 6}, 2, true}, {3, api.Ret{E: api.Empty, Packets: []api.Packet{p, q}, N: 5, V: 6}, 3, true}, {2, api.Ret{N: 5, V: 6}, 0, true},
		// One that was refused is left as it is.
		{0, told(api.ErrArg), 1, true}, {-1, told(api.ErrArg), 1, true}, {17, told(api.ErrArg), 1, true}, {math.MinInt, told(api.ErrArg), 1, true}, {math.MaxInt, told(api.ErrArg), 1, true},
		{1, told(api.ErrArg), 1, false}, {16, told(api.ErrArg), 1, false}, {0, told(api.ErrArg, p), 1, false}, {0, api.Ret{E: api.ErrArg, N: 1}, 1, false}, {0, api.Ret{E: api.ErrArg, V: 1}, 1, false},
	} {
		l, order := append(before, done(0, 9, 20, batch(x.n), x.ret)), upTo(3+x.more)
		fits(t, c, l, order, x.want)
		fits(t, c, l, upTo(4+x.more), false)
		fits(t, c, l, upTo(2+x.more), false)
		if !x.want {
			order = nil
		}
		finds(t, c, l, order, x.want)
	}
	for _, e := range errnos {
		for n, packets := range [][]api.Packet{nil, {p}, {p, q}} {
			for _, a := range []int{0, 1, n, n + 1, 17} {
				l := append(before, done(0, 9, 20, batch(a), told(e, packets...)))
				hold(t, c, l)
			}
		}
	}
}

// said is every kind of answer, one after another: of each call, which error it has or what it tells.
func said() []api.Done {
	return anyone(0,
		was(dequeue(), api.Empty),
		was(register(1, 1, 1), api.OK), was(register(1, 1, 1), api.ErrExists), was(register(-1, 1, 1), api.ErrArg), was(register(2, 0, 1), api.ErrBadWeight),
		was(register(5, 1, 1), api.OK), was(register(9, 1, 1), api.OK), was(register(13, 1, 1), api.OK), was(register(17, 1, 1), api.ErrRoom),
		was(enqueue(1, 3, 7), api.OK), was(enqueue(1, 3, 7), api.ErrFull), was(enqueue(2, 3, 7), api.ErrNoFlow), was(enqueue(1, 0, 7), api.ErrBadLen),
		was(shut(1), api.ErrBusy), was(shut(2), api.ErrNoFlow), was(batch(0), api.ErrArg), was(api.Call{Op: 7}, api.ErrOp), count(0, 0),
		was(dequeue(), api.OK, packet(1, 3, 7)), count(1, 0), was(dequeue(), api.Empty), count(1, 30), was(shut(1), api.OK),
		was(enqueue(5, 1, 8), api.OK), was(enqueue(9, 1, 9), api.OK), was(batch(2), api.OK, packet(5, 1, 8), packet(9, 1, 9)),
		was(enqueue(9, 1, 5), api.OK), was(batch(2), api.Empty, packet(9, 1, 5)), count(4, 50),
	)
}

// P15.1: answers of each kind, as a model gives them, and each of them with one field turned.
func TestAnswers(t *testing.T) {
	c, l, rand := config(10), said(), next(1)
	fits(t, c, l, upTo(len(hist.Parts(l))), true)
	turned := func(i int, turn func(r *api.Ret)) ([]api.Done, []int) {
		l := slices.Clone(l)
		l[i].Ret.Packets = slices.Clone(l[i].Ret.Packets)
		turn(&l[i].Ret)
		return l, upTo(len(hist.Parts(l)))
	}
	for i, d := range l {
		for range 3 {
			for _, turn := range turns(rand) {
				l, order := turned(i, turn)
				fits(t, c, l, order, fitsOf(c, l, order))
			}
		}
		for k := range d.Ret.Packets {
			for _, turn := range []func(p *api.Packet){func(p *api.Packet) { p.Flow = 13 }, func(p *api.Packet) { p.Len++ }, func(p *api.Packet) { p.Mark++ }, func(p *api.Packet) { p.Mark += 1 << 32 }} {
				l, order := turned(i, func(r *api.Ret) { turn(&r.Packets[k]) })
				fits(t, c, l, order, false)
			}
		}
		// Nothing but the packets, and Empty, stands in the parts of a batch.
		divides := d.Call.Op == api.OpBatch && d.Ret.E != api.ErrArg
		for _, turn := range []func(r *api.Ret){func(r *api.Ret) { r.N++ }, func(r *api.Ret) { r.N -= 1 << 32 }, func(r *api.Ret) { r.V++ }, func(r *api.Ret) { r.V += 1 << 32 }} {
			l, order := turned(i, turn)
			fits(t, c, l, order, divides)
		}
		l, order := turned(i, func(r *api.Ret) { r.Packets = append(r.Packets, packet(1, 3, 7)) })
		fits(t, c, l, order, false)
		for _, e := range errnos {
			l, order := turned(i, func(r *api.Ret) { r.E = e })
			fits(t, c, l, order, e == d.Ret.E || d.Call.Op == api.OpBatch && fitsOf(c, l, order))
		}
	}
}

// P15.2: answers of each kind, one after another, are explained in this order alone, whatever the order in which they are listed.
func TestOneAfterAnother(t *testing.T) {
	c, l := config(10), said()
	finds(t, c, l, nil, false)
	for n := range 13 {
		finds(t, c, l[:n], upTo(n), true)
		back := slices.Clone(l[:n])
		slices.Reverse(back)
		finds(t, c, back, reversed(upTo(n)), true)
		for i := range n {
			wrong := slices.Clone(back)
			wrong[i].Ret.V++
			finds(t, c, wrong, nil, false)
		}
	}
	// The same by one worker.
	for i := range l {
		l[i].Who = 3
	}
	finds(t, c, l[:12], upTo(12), true)
}

// P15.2: calls that overlap: several orders fit, just one does, or none.
func TestOverlap(t *testing.T) {
	c, p, q := config(10), packet(1, 1, 7), packet(1, 1, 8)
	for _, x := range []struct {
		l     []api.Done
		order []int
		many  int
	}{
		{atOnce(0, count(0, 0), was(dequeue(), api.Empty), was(shut(1), api.ErrNoFlow)), []int{0, 1, 2}, 6},
		{atOnce(0, was(enqueue(1, 1, 7), api.ErrNoFlow), was(register(1, 1, 1), api.OK), was(shut(1), api.ErrNoFlow)), []int{0, 2, 1}, 2},
		{atOnce(0, was(shut(1), api.OK), was(enqueue(1, 1, 7), api.ErrNoFlow), was(register(1, 1, 1), api.OK)), []int{1, 2, 0}, 2},
		{atOnce(0, was(dequeue(), api.OK, p), was(enqueue(1, 1, 7), api.OK), count(0, 0), was(register(1, 1, 1), api.OK)), []int{2, 3, 1, 0}, 3},
		{atOnce(0, was(register(1, 1, 2), api.OK), was(enqueue(1, 1, 7), api.OK), was(enqueue(1, 1, 8), api.OK), was(dequeue(), api.OK, q), was(dequeue(), api.OK, p)), []int{0, 1, 2, 4, 3}, 4},
		{atOnce(0, was(register(1, 1, 1), api.OK), was(enqueue(1, 1, 7), api.OK), was(enqueue(1, 1, 8), api.OK), was(dequeue(), api.OK, q), was(dequeue(), api.OK, p)), []int{0, 1, 4, 2, 3}, 2},
		{atOnce(0, was(dequeue(), api.OK, p), was(enqueue(1, 1, 7), api.OK), was(register(1, 1, 1), api.OK)), []int{2, 1, 0}, 1},
		{atOnce(0, count(1, 10), was(dequeue(), api.Empty), was(dequeue(), api.OK, p), was(enqueue(1, 1, 7), api.OK), was(register(1, 1, 1), api.OK)), []int{4, 3, 2, 1, 0}, 1},
		{atOnce(0, was(enqueue(1, 1, 8), api.ErrFull), was(enqueue(1, 1, 7), api.OK), was(register(1, 1, 1), api.OK)), []int{2, 1, 0}, 1},
		{atOnce(0, was(register(1, 1, 1), api.ErrExists), was(register(1, 2, 1), api.OK)), []int{1, 0}, 1},
		{atOnce(0, was(dequeue(), api.OK, p), was(register(1, 1, 1), api.OK)), nil, 0},
		{atOnce(0, was(register(1, 1, 1), api.OK), was(register(1, 1, 1), api.OK)), nil, 0},
		{atOnce(0, was(register(1, 1, 1), api.OK), was(register(1, 1, 1), api.ErrBusy)), nil, 0},
		{atOnce(0, was(register(1, 1, 1), api.OK), was(enqueue(1, 1, 7), api.OK), was(shut(1), api.OK)), nil, 0},
		{atOnce(0, was(register(1, 1, 1), api.OK), was(enqueue(1, 1, 7), api.OK), was(dequeue(), api.OK, p), was(dequeue(), api.OK, p)), nil, 0},
		{atOnce(0, count(1, 0), count(0, 0)), nil, 0},
	} {
		finds(t, c, x.l, x.order, x.many > 0)
		hold(t, c, x.l)
		many := 0
		for order := upTo(len(x.l)); ; {
			if lin.Fits(c, x.l, order) {
				many++
			}
			if !advance(order) {
				break
			}
		}
		if many != x.many {
			t.Errorf("P15.1: %d orders of %v fit; want %d", many, x.l, x.many)
		}
	}
}

// P15.2: two orders of the same calls lead to models that differ in one thing alone, and the smaller one to what was not answered.
func TestStates(t *testing.T) {
	p, q, r := packet(1, 1, 7), packet(1, 1, 8), packet(1, 1, 9)
	ahead := func() []api.Done { return anyone(0, was(register(1, 1, 8), api.OK), was(register(2, 1, 8), api.OK)) }
	for _, x := range []struct {
		what  string
		unit  uint64
		l     []api.Done
		order []int
	}{
		{"the order of the packets", 1, slices.Concat(
			anyone(0, was(register(1, 1, 8), api.OK)),
			atOnce(10, was(enqueue(1, 1, 7), api.OK), was(enqueue(1, 1, 8), api.OK)),
			anyone(200, was(dequeue(), api.OK, q)),
		), []int{0, 2, 1, 3}},
		{"the order of the packets behind the first", 1, slices.Concat(
			anyone(0, was(register(1, 1, 8), api.OK), was(enqueue(1, 1, 9), api.OK)),
			atOnce(10, was(enqueue(1, 1, 7), api.OK), was(enqueue(1, 1, 8), api.OK)),
			anyone(200, was(dequeue(), api.OK, r), was(dequeue(), api.OK, q)),
		), []int{0, 1, 3, 2, 4, 5}},
		{"the lengths of the packets behind the first", 1, slices.Concat(
			anyone(0, was(register(1, 1, 8), api.OK), was(enqueue(1, 1, 9), api.OK)),
			atOnce(10, was(enqueue(1, 1, 7), api.OK), was(enqueue(1, 2, 7), api.OK)),
			anyone(200, was(dequeue(), api.OK, r), was(dequeue(), api.OK, packet(1, 2, 7)), was(dequeue(), api.OK, p), count(3, 3)),
		), []int{0, 1, 3, 2, 4, 5, 6, 7}},
		{"the weight of a flow", 10, slices.Concat(
			atOnce(0, was(register(1, 1, 8), api.OK), was(register(1, 2, 8), api.OK), was(shut(1), api.OK)),
			anyone(200, was(enqueue(1, 1, 7), api.OK), was(enqueue(1, 1, 8), api.OK), was(dequeue(), api.OK, p), was(dequeue(), api.OK, q), count(2, 10)),
		), []int{1, 2, 0, 3, 4, 5, 6, 7}},
		{"the weight of a flow, behind a call with another one that was refused", 10, slices.Concat(
			atOnce(0, was(register(1, 1, 8), api.OK), was(register(1, 2, 8), api.OK), was(shut(1), api.OK)),
			anyone(200, was(register(1, 3, 8), api.ErrExists), was(enqueue(1, 1, 7), api.OK), was(enqueue(1, 1, 8), api.OK), was(dequeue(), api.OK, p), was(dequeue(), api.OK, q), count(2, 10)),
		), []int{1, 2, 0, 3, 4, 5, 6, 7, 8}},
		{"the weight of one flow of three", 10, slices.Concat(
			atOnce(0, was(register(1, 1, 8), api.OK), was(register(1, 2, 8), api.OK), was(shut(1), api.OK)),
			anyone(200, was(register(0, 3, 8), api.OK), was(register(2, 3, 8), api.OK), was(enqueue(1, 1, 7), api.OK), was(enqueue(1, 1, 8), api.OK), was(dequeue(), api.OK, p), was(dequeue(), api.OK, q), count(2, 10)),
		), []int{1, 2, 0, 3, 4, 5, 6, 7, 8, 9}},
		{"the capacity of a flow", 1, slices.Concat(
			atOnce(0, was(register(1, 1, 1), api.OK), was(register(1, 1, 2), api.OK), was(shut(1), api.OK)),
			anyone(200, was(enqueue(1, 1, 7), api.OK), was(enqueue(1, 1, 8), api.ErrFull)),
		), []int{1, 2, 0, 3, 4}},
		// Flow 1 is served at the virtual time 0, or at 100, which comes from flow 2.
		{"the finish tag of a flow without packets", 1, slices.Concat(ahead(),
			atOnce(10, was(enqueue(1, 1, 7), api.OK), was(dequeue(), api.OK, p), was(enqueue(2, 100, 7), api.OK), was(enqueue(2, 100, 8), api.OK), was(dequeue(), api.OK, packet(2, 100, 7)), was(dequeue(), api.OK, packet(2, 100, 8))),
			anyone(200, was(enqueue(1, 1, 9), api.OK), was(dequeue(), api.OK, r), count(4, 101)),
		), []int{0, 1, 4, 5, 6, 7, 2, 3, 8, 9, 10}},
		{"the greatest finish tag, which belongs to a flow that is closed", 1, slices.Concat(ahead(),
			atOnce(10, was(enqueue(1, 5, 7), api.OK), was(dequeue(), api.OK, packet(1, 5, 7)), was(enqueue(2, 100, 7), api.OK), was(enqueue(2, 1, 8), api.OK), was(dequeue(), api.OK, packet(2, 100, 7)), was(dequeue(), api.OK, packet(2, 1, 8))),
			anyone(200, was(shut(1), api.OK), was(dequeue(), api.Empty), count(3, 105)),
		), []int{0, 1, 4, 5, 6, 7, 2, 3, 8, 9, 10}},
		{"the virtual time", 1, slices.Concat(
			anyone(0, was(register(1, 1, 8), api.OK)),
			atOnce(10, was(enqueue(1, 10, 7), api.OK), was(dequeue(), api.OK, packet(1, 10, 7)), was(dequeue(), api.Empty)),
			anyone(200, count(1, 0), was(dequeue(), api.Empty)),
		), []int{0, 3, 1, 2, 4, 5}},
	} {
		c := config(x.unit)
		if want, ok := longSearchOf(c, x.l); !ok || !slices.Equal(want, x.order) {
			t.Fatalf("the test is wrong of %s: %v, %v; want %v", x.what, want, ok, x.order)
		}
		t.Run(x.what, func(t *testing.T) { finds(t, c, x.l, x.order, true) })
	}
}

// P15.1 and P15.2: runs of several workers: what they did fits, and every order of the short ones is held.
func TestRuns(t *testing.T) {
	for seed := range uint64(1500) {
		rand := next(seed)
		c := api.Config{Shards: 1 + rand(2), Slots: 1 + rand(2), Workers: 6, Unit: uint64(1 + rand(12))}
		l, order := run(c, calls(1+rand(4), 2+rand(6), rand), rand)
		fits(t, c, l, order, true)
		parts := len(hist.Parts(l))
		if parts > 9 {
			continue
		}
		want, ok := longSearchOf(c, l)
		if !ok {
			t.Fatalf("the test is wrong of %v", l)
		}
		finds(t, c, l, want, true)
		if parts < 6 {
			hold(t, c, l)
		}
	}
}

// P15.1 and P15.2: runs in which one answer is turned: most have no order that fits, and some have another one.
func TestWrongRuns(t *testing.T) {
	found, none := 0, 0
	for seed := range uint64(1500) {
		rand := next(10000 + seed)
		c := api.Config{Shards: 1 + rand(2), Slots: 1 + rand(2), Workers: 6, Unit: uint64(1 + rand(12))}
		l, _ := run(c, calls(1+rand(4), 2+rand(5), rand), rand)
		all := turns(rand)
		all[rand(len(all))](&l[rand(len(l))].Ret)
		parts := len(hist.Parts(l))
		if parts > 8 {
			continue
		}
		want, ok := longSearchOf(c, l)
		finds(t, c, l, want, ok)
		if parts < 5 {
			hold(t, c, l)
		}
		if ok {
			found++
		} else {
			none++
		}
	}
	if found < 100 || none < 100 {
		t.Errorf("the test is too narrow: %d histories have an order that fits, %d have none", found, none)
	}
}

// pairs are n OpDequeue that found a packet each, n OpEnqueue of these, and the OpRegister of the flow, which has room for one; and the smallest order of them.
func pairs(n int) ([]api.Done, []int) {
	var served, put []api.Done
	order := []int{2 * n}
	for i := range n {
		served = append(served, was(dequeue(), api.OK, packet(1, 1, i)))
		put = append(put, was(enqueue(1, 1, i), api.OK))
		order = append(order, n+i, i)
	}
	return slices.Concat(served, put, list(was(register(1, 1, 1), api.OK))), order
}

// P15.2: of 12 parts and of 13; it is the parts that count, not the calls.
func TestMost(t *testing.T) {
	c, p := config(1), packet(1, 1, 7)
	none := func(n int, e api.Errno) []api.Done { return many(n, was(batch(3), e)) }
	for _, x := range []struct {
		l     []api.Done
		parts int
	}{
		{atOnce(0, many(11, count(0, 0))...), 11}, {atOnce(0, many(12, count(0, 0))...), 12}, {atOnce(0, many(13, count(0, 0))...), 13}, {atOnce(0, many(40, count(0, 0))...), 40},
		{anyone(0, many(12, count(0, 0))...), 12}, {anyone(0, many(13, count(0, 0))...), 13},
		// More calls than parts.
		{atOnce(0, slices.Concat(many(12, count(0, 0)), none(5, api.OK))...), 12}, {atOnce(0, slices.Concat(none(50, api.OK), many(12, count(0, 0)), none(50, api.OK))...), 12}, {atOnce(0, slices.Concat(many(13, count(0, 0)), none(1, api.OK))...), 13},
		// As many.
		{atOnce(0, slices.Concat(many(11, count(0, 0)), none(1, api.Empty))...), 12}, {atOnce(0, slices.Concat(many(11, count(0, 0)), none(2, api.Empty))...), 13},
		// More parts than calls.
		{anyone(0, was(register(1, 1, 8), api.OK), was(enqueue(1, 1, 7), api.OK), was(batch(2), api.Empty, p), was(enqueue(1, 1, 7), api.OK), was(enqueue(1, 1, 7), api.OK), was(enqueue(1, 1, 7), api.OK), was(batch(16), api.Empty, p, p, p), count(4, 4)), 12},
		{anyone(0, was(register(1, 1, 8), api.OK), was(enqueue(1, 1, 7), api.OK), was(batch(2), api.Empty, p), was(enqueue(1, 1, 7), api.OK), was(enqueue(1, 1, 7), api.OK), was(enqueue(1, 1, 7), api.OK), was(batch(16), api.Empty, p, p, p), count(4, 4), count(4, 4)), 13},
	} {
		if n := len(hist.Parts(x.l)); n != x.parts {
			t.Fatalf("the test is wrong of %v: %d parts", x.l, n)
		}
		fits(t, c, x.l, upTo(x.parts), true)
		want := upTo(x.parts)
		if x.parts > 12 {
			want = nil
		}
		finds(t, c, x.l, want, x.parts <= 12)
	}
	for n := range 8 {
		l, order := pairs(n)
		closed := append(slices.Clone(l), was(shut(1), api.OK))
		fits(t, c, atOnce(0, l...), order, true)
		fits(t, c, atOnce(0, closed...), append(order, 2*n+1), true)
		if n < 6 {
			finds(t, c, atOnce(0, l...), order, true)
			finds(t, c, atOnce(0, closed...), append(order, 2*n+1), true)
		} else {
			finds(t, c, atOnce(0, l...), nil, false)
		}
	}
}

// P15.2: 12 calls at once that no order explains, as one of them tells what can not be: the search ends long before all orders are tried.
func TestWide(t *testing.T) {
	c := config(10)
	var flows, same, other, two, served, wide []api.Done
	for i := range 11 {
		flows = append(flows, was(register(i, 1+i, 1+i%8), api.OK))
		same = append(same, was([]api.Call{register(1, 1+i, 8), shut(1)}[i%2], api.OK))
		other = append(other, was(enqueue(i, 1+i, i), api.ErrNoFlow))
	}
	two, served, wide = flows[1:3], flows[1:2], slices.Clone(flows[:4])
	for i := range 9 {
		two = append(slices.Clip(two), was(enqueue(1+i%2, 1+i, i), api.OK))
	}
	for i := range 5 {
		served = append(slices.Clip(served), was(enqueue(1, 1+i, i), api.OK), was(dequeue(), api.OK, packet(1, 1+i, i)))
	}
	for i := range 4 {
		wide = append(wide, was(enqueue(i, 1+i, i), api.OK))
	}
	wide = append(wide, was(dequeue(), api.Empty), was(dequeue(), api.OK, packet(0, 1, 0)), was(dequeue(), api.OK, packet(1, 2, 1)))
	for _, l := range [][]api.Done{
		flows, same, other, two, served, wide,
		many(11, count(0, 0)), many(11, was(dequeue(), api.Empty)), many(11, was(api.Call{}, api.ErrOp)),
	} {
		for _, impossible := range []api.Done{count(99, 0), was(dequeue(), api.OK, packet(99, 1, 1)), was(shut(99), api.OK)} {
			for _, all := range [][]api.Done{slices.Concat(l, list(impossible)), slices.Concat(list(impossible), l)} {
				if len(all) != 12 {
					t.Fatalf("the test is wrong: %d calls", len(all))
				}
				finds(t, c, atOnce(0, all...), nil, false)
			}
		}
	}
}

// P15.1 and P15.2: calls with numbers at both ends of int, which a model refuses or not.
func TestAny(t *testing.T) {
	for seed := range uint64(600) {
		rand := next(20000 + seed)
		of := func(l []int) int { return l[rand(len(l))] }
		var l []api.Done
		for who := range 1 + rand(4) {
			c := api.Call{Op: append(slices.Clone(ends), 3, 4, 5, 6)[rand(14)], Flow: of(ends), A: of(ends), B: of(ends)}
			d := done(who, rand(5), 5+rand(5), c, told(errnos[rand(len(errnos))]))
			if rand(2) == 0 {
				m, _ := model.New(config(1))
				d.Ret = m.Do(c)
			}
			switch rand(8) {
			case 0:
				d.Ret = api.Ret{E: d.Ret.E, Packets: []api.Packet{packet(of(ends), of(ends), of(ends))}, N: of(ends), V: uint64(of(ends))}
			case 1:
				d.Who, d.Place, d.From, d.To = of(ends), of(ends), of(ends), of(ends)
			}
			l = append(l, d)
		}
		c := config(1)
		switch rand(6) {
		case 0:
			c = api.Config{Shards: of(ends), Slots: of(ends), Workers: of(ends), Width: of(ends), Unit: uint64(of(ends))}
		case 1:
			c = api.Config{Shards: 1, Slots: 1, Workers: 1, Width: 0, Unit: api.MaxUnit}
		}
		hold(t, c, l)
		for range 5 {
			var order []int
			for range rand(5) {
				order = append(order, of(ends))
			}
			fits(t, c, l, order, fitsOf(c, l, order))
		}
	}
}

// P15.1: Fits of long runs, in the order in which they took effect, and with two parts of it put in each other's place.
func TestLongRuns(t *testing.T) {
	for seed := range uint64(4) {
		rand := next(30000 + seed)
		c := config(uint64(1 + rand(1000)))
		l, order := run(c, calls(6, 20000, rand), rand)
		if !lin.Fits(c, l, order) {
			t.Errorf("P15.1: a run of %d calls does not fit", len(l))
		}
		for range 4 {
			i, k := rand(len(order)), rand(len(order)/2)
			i, k = min(i, k), max(i, k)+len(order)/2
			k = min(k, len(order)-1)
			turned := slices.Clone(order)
			turned[i], turned[k] = turned[k], turned[i]
			if lin.Fits(c, l, turned) {
				t.Errorf("P15.1: a run of %d calls fits with %d and %d in each other's place", len(l), i, k)
			}
		}
		if got, ok := lin.Search(c, l); ok || len(got) != 0 {
			t.Errorf("P15.2: Search of %d calls: %v, %v", len(l), got, ok)
		}
	}
}

// R2 and R3: writing into what Search returned changes neither what was handed in nor what is told next, and nothing is kept from call to call.
func TestNewMemory(t *testing.T) {
	c, other := config(10), config(1)
	l := atOnce(0, count(1, 10), was(dequeue(), api.Empty), was(dequeue(), api.OK, packet(1, 1, 7)), was(enqueue(1, 1, 7), api.OK), was(register(1, 1, 1), api.OK))
	x, want := lend(l, nil), []int{4, 3, 2, 1, 0}
	for range 3 {
		first, ok := lin.Search(c, x.l)
		second, again := lin.Search(c, x.l)
		if !ok || !again || !slices.Equal(first, want) || !slices.Equal(second, want) {
			t.Fatalf("P15.2: Search(%v) = %v, %v; want %v", l, first, second, want)
		}
		first = first[:cap(first)]
		for i := range first {
			first[i] = filler
		}
		x.kept(t, "writing into what Search returned")
		if !slices.Equal(second, want) {
			t.Fatalf("R3: writing into what Search returned changes what it returned then: %v", second)
		}
		// Of another configuration and another history between.
		finds(t, other, l, nil, false)
		finds(t, c, said()[:12], upTo(12), true)
	}
	// A history that is changed afterwards does not change what was told.
	got, _ := lin.Search(c, x.l)
	clear(x.whole)
	if !slices.Equal(got, want) {
		t.Errorf("R3: what Search returned follows what was handed in: %v", got)
	}
}
