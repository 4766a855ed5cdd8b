package hist_test

import (
	"math"
	"reflect"
	"slices"
	"testing"

	"weighbridge/api"
	"weighbridge/hist"
)

// filler lies in the room behind the end of what is handed in, and is written into what was told.
const filler = 987654321

// ends are numbers about 0 and at both ends of int; some are a right one, or -1, in their lowest 32 bits.
var ends = []int{math.MinInt, math.MinInt + 1, -1 << 32, -2, -1, 0, 1, 2, 1<<32 - 1, 1 << 32, math.MaxInt - 1, math.MaxInt}

// ops are all kinds of operations, and wrong ones; some are OpBatch in their lowest eight or 32 bits.
var ops = []int{api.OpRegister, api.OpClose, api.OpEnqueue, api.OpDequeue, api.OpBatch, api.OpStats, math.MinInt, -api.OpBatch, -1, 0, 7, 256 + api.OpBatch, 1<<32 + api.OpBatch, math.MaxInt}

// errnos are all errors, and numbers that are none; some are OK or Empty in their lowest eight or 32 bits.
var errnos = []api.Errno{api.OK, api.ErrArg, api.ErrOp, api.ErrBadLen, api.ErrBadWeight, api.ErrNoFlow, api.ErrExists, api.ErrRoom, api.ErrBusy, api.ErrFull, api.Empty, api.ErrForm, api.ErrShort, 13, -1, -api.Empty, 256, 256 + api.Empty, 1 << 32, 1<<32 + api.Empty, math.MinInt, math.MaxInt}

func list(l ...api.Done) []api.Done { return l }

// done is a call of which every comparison asks.
func done(who, place, from, to int) api.Done {
	return api.Done{Who: who, Place: place, Call: api.Call{Op: api.OpStats}, From: from, To: to}
}

// span is a call of which only the steps matter.
func span(from, to int) api.Done { return done(0, 0, from, to) }

func packet(mark int) api.Packet { return api.Packet{Flow: mark % 7, Len: mark + 1, Mark: mark} }

// packets are n different ones.
func packets(first, n int) []api.Packet {
	var l []api.Packet
	for i := range n {
		l = append(l, packet(first+i))
	}
	return l
}

// result is a call of that kind that told e and these packets, with all other fields set, too.
func result(op, to int, e api.Errno, p ...api.Packet) api.Done {
	return api.Done{Who: 3, Place: 4, Call: api.Call{Op: op, Flow: 8, A: 4, B: -9}, Ret: api.Ret{E: e, Packets: p, N: 5, V: 6}, From: 10, To: to}
}

// part is a part of what result makes.
func part(to int, e api.Errno, p ...api.Packet) api.Done {
	return api.Done{Who: 3, Place: 4, Call: api.Call{Op: api.OpDequeue}, Ret: api.Ret{E: e, Packets: p}, From: 10, To: to}
}

// rightOf is what Right is to be: each call by itself, and then every two of them.
func rightOf(l []api.Done) bool {
	for _, d := range l {
		if d.Who < 0 || d.Place < 0 || d.From < 0 || d.To != -1 && d.To < d.From {
			return false
		}
	}
	for i, a := range l {
		for k, b := range l {
			if i == k || a.Who != b.Who {
				continue
			}
			if a.Place == b.Place || a.Place < b.Place && (a.To == -1 || a.To >= b.From) {
				return false
			}
		}
	}
	return true
}

func aheadOf(a, b api.Done) bool { return a.To != -1 && a.To < b.From }

func endedOf(l []api.Done) bool {
	n := 0
	for _, d := range l {
		if d.To != -1 {
			n++
		}
	}
	return n == len(l)
}

// partsOf is what Parts is to be.
func partsOf(l []api.Done) []api.Done {
	var parts []api.Done
	for _, d := range l {
		if d.Call.Op != 5 || d.To == -1 || d.Ret.E != 0 && d.Ret.E != 10 {
			parts = append(parts, d)
			continue
		}
		for i := range d.Ret.Packets {
			parts = append(parts, api.Done{Who: d.Who, Place: d.Place, Call: api.Call{Op: 4}, Ret: api.Ret{Packets: d.Ret.Packets[i : i+1]}, From: d.From, To: d.To})
		}
		if d.Ret.E == 10 {
			parts = append(parts, api.Done{Who: d.Who, Place: d.Place, Call: api.Call{Op: 4}, Ret: api.Ret{E: 10}, From: d.From, To: d.To})
		}
	}
	return parts
}

// mostOf is what Most is to be: counted in each step in which a call begins or ends, as nothing turns between them.
func mostOf(l []api.Done) int {
	most := 0
	for _, x := range l {
		for _, step := range []int{x.From, x.To} {
			n := 0
			for _, d := range l {
				if d.From <= step && (d.To == -1 || step <= d.To) {
					n++
				}
			}
			most = max(most, n)
		}
	}
	return most
}

// same reports whether two calls are equal, where a nil list and an empty one are.
func same(a, b api.Done) bool {
	return a.Who == b.Who && a.Place == b.Place && a.Call == b.Call && a.From == b.From && a.To == b.To &&
		a.Ret.E == b.Ret.E && a.Ret.N == b.Ret.N && a.Ret.V == b.Ret.V && slices.Equal(a.Ret.Packets, b.Ret.Packets)
}

func equal(a, b []api.Done) bool { return slices.EqualFunc(a, b, same) }

// lent is a list as it is handed in: with room behind its end, and behind that of the packets of each call.
type lent struct {
	l     []api.Done
	whole []api.Done
	was   []api.Done
}

func lend(l []api.Done) lent {
	var whole []api.Done
	for _, d := range l {
		if d.Ret.Packets != nil {
			p := append(slices.Clone(d.Ret.Packets), packet(filler), packet(filler))
			d.Ret.Packets = p[:len(d.Ret.Packets)]
		}
		whole = append(whole, d)
	}
	for range 3 {
		whole = append(whole, result(filler, filler, filler, packet(filler)))
	}
	x := lent{l: whole[:len(l)], whole: whole, was: deep(whole)}
	if l == nil {
		x.l = nil
	}
	return x
}

// deep copies the calls, and their packets with the room behind them.
func deep(l []api.Done) []api.Done {
	l = slices.Clone(l)
	for i := range l {
		p := l[i].Ret.Packets
		l[i].Ret.Packets = slices.Clone(p[:cap(p)])
	}
	return l
}

// kept fails the test unless all of it is as it was.
func (x lent) kept(t *testing.T, behind string) {
	t.Helper()
	if now := deep(x.whole); !reflect.DeepEqual(now, x.was) {
		t.Fatalf("R3: %s changes what was handed in, or the room behind its end: %v; want %v", behind, now, x.was)
	}
}

// hold holds all that is told of a list against what it is to be.
func hold(t *testing.T, l []api.Done) {
	t.Helper()
	x := lend(l)
	if got, want := hist.Right(x.l), rightOf(l); got != want {
		t.Fatalf("P14.1: Right(%v) = %v; want %v", l, got, want)
	}
	if got, want := hist.Ended(x.l), endedOf(l); got != want {
		t.Fatalf("P14.1: Ended(%v) = %v; want %v", l, got, want)
	}
	if got, want := hist.Parts(x.l), partsOf(l); !equal(got, want) {
		t.Fatalf("P14.2: Parts(%v) = %v; want %v", l, got, want)
	}
	if got, want := hist.Most(x.l), mostOf(l); got != want {
		t.Fatalf("P14.3: Most(%v) = %d; want %d", l, got, want)
	}
	x.kept(t, "Right, Ended, Parts or Most")
}

// each hands every list of that length with these calls to check.
func each(length int, alphabet []api.Done, check func(l []api.Done)) {
	var walk func(l []api.Done)
	walk = func(l []api.Done) {
		if len(l) == length {
			check(l)
			return
		}
		for _, d := range alphabet {
			walk(append(slices.Clip(l), d))
		}
	}
	walk(nil)
}

// alphabet are the calls with each of these workers, Places, Froms and Tos.
func alphabet(who, place, from, to []int) []api.Done {
	var l []api.Done
	for _, w := range who {
		for _, p := range place {
			for _, f := range from {
				for _, e := range to {
					l = append(l, done(w, p, f, e))
				}
			}
		}
	}
	return l
}

// next tells numbers below n that follow one seed.
func next(seed uint64) func(n int) int {
	return func(n int) int {
		seed = seed*6364136223846793005 + 1442695040888963407
		return int((seed >> 33) % uint64(n))
	}
}

// shuffled are the calls in another order.
func shuffled(l []api.Done, rand func(n int) int) []api.Done {
	l = slices.Clone(l)
	for i := range l {
		k := rand(i + 1)
		l[i], l[k] = l[k], l[i]
	}
	return l
}

// run is a valid history of some workers in any order, each of whose calls has any kind and result; the last one of each may not have ended.
func run(workers, calls int, rand func(n int) int) []api.Done {
	var l []api.Done
	for w := range workers {
		step, place := rand(4), rand(3)
		for k := range calls {
			op, e := 1+rand(6), errnos[rand(13)]
			if rand(2) == 0 {
				op, e = api.OpBatch, []api.Errno{api.OK, api.Empty, api.ErrArg}[rand(3)]
			}
			d := result(op, step+rand(5), e, packets(100*w+10*k, rand(4))...)
			d.Who, d.Place, d.From = w, place, step
			step, place = d.To+1+rand(3), place+1+rand(3)
			if k == calls-1 && rand(2) == 0 {
				d.To, d.Ret = -1, api.Ret{}
			}
			l = append(l, d)
		}
	}
	return shuffled(l, rand)
}

// P14.1 to P14.3: every list of up to three calls by two workers, valid or not.
func TestEveryList(t *testing.T) {
	few := alphabet([]int{0, 1}, []int{0, 1, 2}, []int{0, 1, 2}, []int{-1, 0, 1, 2})
	for length := range 3 {
		each(length, few, func(l []api.Done) { hold(t, l) })
	}
	one := alphabet([]int{0}, []int{0, 1, 2}, []int{0, 1, 2}, []int{-1, 0, 1, 2})
	each(3, append(one, done(1, 0, 0, -1)), func(l []api.Done) { hold(t, l) })
	each(4, list(done(0, 0, 0, 0), done(0, 1, 1, 1), done(0, 1, 1, -1), done(0, 2, 2, 3), done(0, 3, 2, 2), done(0, 3, 4, -1), done(1, 0, 1, 2), done(1, 1, 2, 2)), func(l []api.Done) { hold(t, l) })
}

// P14.1: Right of one call, with every two fields at each end, among others and alone.
func TestRightOfOne(t *testing.T) {
	tos := func(from int) []int { return append(slices.Clone(ends), from-1, from, from+1, from+9) }
	for _, who := range ends {
		for _, place := range ends {
			for _, from := range append(slices.Clone(ends), 7) {
				for _, to := range tos(from) {
					hold(t, list(done(who, place, from, to)))
				}
			}
		}
	}
	others := list(done(20, 1, 4, 9), done(21, 1, 0, -1), done(20, 0, 0, 3), done(22, 0, 5, 5))
	for _, d := range alphabet([]int{-1, 0, math.MinInt, math.MaxInt}, []int{-1, 0, math.MinInt, math.MaxInt}, []int{-1, 0, math.MinInt, math.MaxInt, 7}, []int{-2, -1, 6, 7, 8, math.MinInt, math.MaxInt}) {
		for at := range len(others) + 1 {
			l := slices.Insert(slices.Clone(others), at, d)
			hold(t, l)
			want := d.Who >= 0 && d.Place >= 0 && d.From >= 0 && (d.To == -1 || d.To >= d.From)
			if got := hist.Right(l); got != want {
				t.Fatalf("P14.1: Right with %v at the index %d = %v; want %v", d, at, got, want)
			}
		}
	}
}

// P14.1: Right of two calls of one worker: with calls of other workers before, between and behind them, and without.
func TestRightOfTwo(t *testing.T) {
	pairs := []struct {
		a, b api.Done
		want bool
	}{
		// The one with the smaller Place ended long before the From of the other one, just before it, at it, after it, and not at all.
		{done(5, 0, 0, 1), done(5, 1, 9, 12), true},
		{done(5, 0, 0, 8), done(5, 1, 9, 12), true},
		{done(5, 0, 0, 9), done(5, 1, 9, 12), false},
		{done(5, 0, 0, 10), done(5, 1, 9, 12), false},
		{done(5, 0, 0, 99), done(5, 1, 9, 12), false},
		{done(5, 0, 0, -1), done(5, 1, 9, 12), false},
		{done(5, 0, 20, 30), done(5, 1, 9, 12), false},
		// The other one has not ended, and neither has.
		{done(5, 0, 0, 8), done(5, 1, 9, -1), true},
		{done(5, 0, 0, 9), done(5, 1, 9, -1), false},
		{done(5, 0, 0, -1), done(5, 1, 9, -1), false},
		{done(5, 0, 0, -1), done(5, 1, 0, -1), false},
		// One step each.
		{done(5, 0, 0, 0), done(5, 1, 1, 1), true},
		{done(5, 0, 1, 1), done(5, 1, 1, 1), false},
		{done(5, 0, 0, 0), done(5, 1, 0, 0), false},
		// Equal Places, whether the steps are apart or not.
		{done(5, 0, 0, 8), done(5, 0, 9, 12), false},
		{done(5, 7, 0, 8), done(5, 7, 9, -1), false},
		{done(5, 7, 0, 9), done(5, 7, 9, 12), false},
		{done(5, math.MaxInt, 0, 8), done(5, math.MaxInt, 9, 12), false},
		// Places that do not follow each other, and that do not fit into 32 bits.
		{done(5, 3, 0, 8), done(5, 40, 9, 12), true},
		{done(5, 0, 0, 8), done(5, math.MaxInt, 9, 12), true},
		{done(5, 0, 0, 9), done(5, math.MaxInt, 9, 12), false},
		{done(5, 1, 0, 8), done(5, 1<<32, 9, 12), true},
		{done(5, 1, 0, 8), done(5, 1<<32+1, 9, 12), true},
		// Two workers, and ones that are the same in their lowest 32 bits.
		{done(5, 0, 0, 99), done(6, 1, 9, 12), true},
		{done(5, 0, 0, -1), done(6, 0, 0, -1), true},
		{done(5, 1, 0, 8), done(1<<32+5, 1, 9, 12), true},
		{done(0, 1, 0, 9), done(math.MaxInt, 1, 9, 12), true},
		{done(math.MaxInt, 0, 0, 8), done(math.MaxInt, 1, 9, 12), true},
		{done(math.MaxInt, 0, 0, 9), done(math.MaxInt, 1, 9, 12), false},
		// Steps at the end of int.
		{done(5, 0, 0, math.MaxInt-1), done(5, 1, math.MaxInt, math.MaxInt), true},
		{done(5, 0, 0, math.MaxInt), done(5, 1, math.MaxInt, math.MaxInt), false},
		{done(5, 0, math.MaxInt, math.MaxInt), done(5, 1, 0, 0), false},
	}
	before, between, behind := list(done(4, 0, 0, 3), done(9, 0, 2, 30)), list(done(4, 1, 4, -1), done(7, 0, 0, 0), done(7, 1, 1, 1)), list(done(8, 3, 7, 7))
	for n, x := range pairs {
		for _, two := range [][2]api.Done{{x.a, x.b}, {x.b, x.a}} {
			for _, l := range [][]api.Done{
				list(two[0], two[1]),
				slices.Concat(before, list(two[0], two[1]), behind),
				slices.Concat(list(two[0]), between, list(two[1])),
				slices.Concat(before, list(two[0]), between, list(two[1]), behind),
			} {
				if got := hist.Right(l); got != x.want {
					t.Errorf("P14.1: Right, row %d, of %v = %v; want %v", n, l, got, x.want)
				}
				hold(t, l)
			}
		}
	}
}

// P14.1: Right of three calls of one worker in every order, of which any two may clash.
func TestRightOfThree(t *testing.T) {
	rows := []struct {
		a, b, c api.Done
		want    bool
	}{
		{done(2, 0, 0, 1), done(2, 1, 2, 3), done(2, 2, 4, 5), true},
		{done(2, 0, 0, 1), done(2, 1, 2, 3), done(2, 2, 4, -1), true},
		{done(2, 0, 0, 4), done(2, 1, 2, 3), done(2, 2, 4, 5), false},
		{done(2, 0, 0, 1), done(2, 1, 2, 4), done(2, 2, 4, 5), false},
		{done(2, 0, 0, 1), done(2, 1, 2, -1), done(2, 2, 4, 5), false},
		{done(2, 0, 4, 5), done(2, 1, 6, 7), done(2, 2, 1, 2), false},
		{done(2, 0, 0, 1), done(2, 1, 2, 3), done(2, 0, 4, 5), false},
		// The Place of another worker, which is the same one in its lowest 32 bits, lies between them.
		{done(2, 0, 0, 1), done(1<<32+2, 1, 0, 9), done(2, 2, 4, 5), true},
		{done(2, 0, 0, 4), done(1<<32+2, 1, 0, 9), done(2, 2, 4, 5), false},
	}
	for n, x := range rows {
		for _, l := range [][]api.Done{list(x.a, x.b, x.c), list(x.a, x.c, x.b), list(x.b, x.a, x.c), list(x.b, x.c, x.a), list(x.c, x.a, x.b), list(x.c, x.b, x.a)} {
			if got := hist.Right(l); got != x.want {
				t.Errorf("P14.1: Right, row %d, of %v = %v; want %v", n, l, got, x.want)
			}
			hold(t, l)
		}
	}
}

// P14.1: Right of runs of several workers, and of what they are with one field of one call turned.
func TestRightOfRuns(t *testing.T) {
	for seed := range uint64(150) {
		rand := next(seed)
		l := run(1+rand(5), 1+rand(6), rand)
		if !hist.Right(l) {
			t.Fatalf("P14.1: Right(%v) = false", l)
		}
		hold(t, l)
		for i := range l {
			for _, turn := range []func(d *api.Done){
				func(d *api.Done) { d.Who = rand(5) - 1 },
				func(d *api.Done) { d.Place = rand(12) - 1 },
				func(d *api.Done) { d.From = rand(20) - 1 },
				func(d *api.Done) { d.To = rand(20) - 2 },
			} {
				turned := slices.Clone(l)
				turn(&turned[i])
				hold(t, turned)
			}
		}
	}
}

// P14.1: Right of many calls, with a clash at either end, in the middle, and none.
func TestRightOfMany(t *testing.T) {
	const n = 30000
	var l []api.Done
	for i := range n {
		l = append(l, done(i%3, n-i, 3*(n-i), 3*(n-i)+2))
	}
	if !hist.Right(l) {
		t.Error("P14.1: Right of many = false")
	}
	for _, at := range []int{n - 1, n / 2, 3} {
		l[at].To += 7
		if hist.Right(l) {
			t.Errorf("P14.1: Right of many, of which the one at the index %d has not ended before the next one = true", at)
		}
		l[at].To -= 7
	}
}

// P14.1: Ahead: rows written out, among them the example of the chapter.
func TestAheadRows(t *testing.T) {
	for n, x := range []struct {
		a, b api.Done
		want bool
	}{
		{span(0, 3), span(4, 9), true}, {span(0, 4), span(4, 9), false}, // the example
		{span(0, 5), span(4, 9), false}, {span(4, 9), span(0, 3), false},
		{span(0, 3), span(4, -1), true}, {span(0, 4), span(4, -1), false},
		{span(0, -1), span(4, 9), false}, {span(0, -1), span(4, -1), false}, {span(0, -1), span(0, 9), false},
		{span(0, -1), span(math.MaxInt, 9), false}, {span(0, -1), span(-1, 9), false}, {span(0, -1), span(-2, 9), false},
		// To below -1 is an end.
		{span(0, -2), span(4, 9), true}, {span(0, -2), span(-1, 9), true}, {span(0, -2), span(-2, 9), false}, {span(0, -2), span(-3, 9), false},
		// Both ends of int.
		{span(0, math.MinInt), span(math.MinInt, 9), false}, {span(0, math.MinInt), span(math.MinInt+1, 9), true}, {span(0, math.MinInt), span(math.MaxInt, 9), true}, {span(0, math.MinInt), span(0, 9), true},
		{span(0, math.MaxInt), span(math.MaxInt, 9), false}, {span(0, math.MaxInt), span(math.MinInt, 9), false}, {span(0, math.MaxInt), span(0, 9), false}, {span(0, math.MaxInt-1), span(math.MaxInt, 9), true},
		{span(0, 0), span(math.MinInt, 9), false}, {span(0, 0), span(math.MaxInt, 9), true},
		// Neither the workers nor the Places nor the other steps matter.
		{done(1, 5, 8, 3), done(1, 5, 4, 2), true}, {done(-1, 9, 0, 3), done(-1, 2, 4, 9), true}, {done(1, 0, 0, 4), done(1, 1, 4, 9), false},
		{result(api.OpBatch, 9, api.OK, packet(1)), result(api.OpBatch, 20, api.Empty), true}, {result(api.OpBatch, 10, api.OK, packet(1)), result(api.OpBatch, 20, api.Empty), false},
	} {
		if got := hist.Ahead(x.a, x.b); got != x.want {
			t.Errorf("P14.1: Ahead, row %d, of %v and %v = %v; want %v", n, x.a, x.b, got, x.want)
		}
	}
}

// P14.1: Ahead of every two of calls with steps at both ends of int and between, and what it is handed.
func TestAheadOfAny(t *testing.T) {
	all := alphabet([]int{0}, []int{0}, ends, ends)
	for _, a := range all {
		for _, b := range all {
			if got, want := hist.Ahead(a, b), aheadOf(a, b); got != want {
				t.Fatalf("P14.1: Ahead(%v, %v) = %v; want %v", a, b, got, want)
			}
		}
	}
	x := lend(list(result(api.OpBatch, 20, api.OK, packets(0, 3)...), result(api.OpBatch, -1, api.Empty, packets(3, 1)...)))
	for _, a := range x.l {
		for _, b := range x.l {
			hist.Ahead(a, b)
		}
	}
	x.kept(t, "Ahead")
}

// P14.1: Ended: rows written out.
func TestEndedRows(t *testing.T) {
	a, b, c, open := span(0, 0), span(5, 2), span(9, 9), span(3, -1)
	for n, x := range []struct {
		l    []api.Done
		want bool
	}{
		{nil, true}, {list(), true}, {list(a, b, c, open)[:0], true}, {list(a, b, c, open)[:3], true},
		{list(a), true}, {list(open), false}, {list(a, b, c), true},
		{list(open, a, b), false}, {list(a, open, b), false}, {list(a, b, open), false}, {list(open, open), false},
		{list(span(0, -2)), true}, {list(span(0, math.MinInt)), true}, {list(span(0, math.MaxInt)), true}, {list(span(-5, -3), a), true},
		{list(span(-1, -1)), false}, {list(span(-5, -1)), false}, {list(span(0, -1<<32), span(0, 1<<32-1)), true},
		{list(span(0, -2), open), false},
	} {
		if got := hist.Ended(x.l); got != x.want {
			t.Errorf("P14.1: Ended, row %d, of %v = %v; want %v", n, x.l, got, x.want)
		}
	}
}

// P14.2: Parts: rows written out.
func TestPartsRows(t *testing.T) {
	p, q, r := packet(1), packet(2), packet(3)
	deq, stats := result(api.OpDequeue, 20, api.OK, p), result(api.OpStats, 20, api.OK)
	for n, x := range []struct {
		l, want []api.Done
	}{
		{nil, nil},
		{list(), nil},
		// No packets, one and several, with E at OK and at Empty.
		{list(result(api.OpBatch, 20, api.OK)), nil},
		{list(result(api.OpBatch, 20, api.Empty)), list(part(20, api.Empty))},
		{list(result(api.OpBatch, 20, api.OK, p)), list(part(20, api.OK, p))},
		{list(result(api.OpBatch, 20, api.Empty, p)), list(part(20, api.OK, p), part(20, api.Empty))},
		{list(result(api.OpBatch, 20, api.OK, p, q, r)), list(part(20, api.OK, p), part(20, api.OK, q), part(20, api.OK, r))},
		{list(result(api.OpBatch, 20, api.Empty, r, q, p)), list(part(20, api.OK, r), part(20, api.OK, q), part(20, api.OK, p), part(20, api.Empty))},
		{list(result(api.OpBatch, 20, api.OK, p, p)), list(part(20, api.OK, p), part(20, api.OK, p))},
		// An end before the beginning is an end, and one before the first step, too.
		{list(result(api.OpBatch, 9, api.OK, p)), list(part(9, api.OK, p))},
		{list(result(api.OpBatch, 0, api.OK, p)), list(part(0, api.OK, p))},
		{list(result(api.OpBatch, -2, api.Empty, p)), list(part(-2, api.OK, p), part(-2, api.Empty))},
		{list(result(api.OpBatch, math.MinInt, api.OK, p)), list(part(math.MinInt, api.OK, p))},
		{list(result(api.OpBatch, math.MaxInt, api.OK, p)), list(part(math.MaxInt, api.OK, p))},
		// Left as they are: what has not ended, what is no batch, and what told another error.
		{list(result(api.OpBatch, -1, api.OK)), list(result(api.OpBatch, -1, api.OK))},
		{list(result(api.OpBatch, -1, api.OK, p, q)), list(result(api.OpBatch, -1, api.OK, p, q))},
		{list(result(api.OpBatch, -1, api.Empty, p)), list(result(api.OpBatch, -1, api.Empty, p))},
		{list(result(api.OpBatch, 20, api.ErrArg)), list(result(api.OpBatch, 20, api.ErrArg))},
		{list(result(api.OpBatch, 20, api.ErrShort, p)), list(result(api.OpBatch, 20, api.ErrShort, p))},
		{list(result(api.OpDequeue, 20, api.OK, p, q)), list(result(api.OpDequeue, 20, api.OK, p, q))},
		{list(result(api.OpDequeue, 20, api.Empty)), list(result(api.OpDequeue, 20, api.Empty))},
		{list(result(api.OpDequeue, -1, api.OK, p)), list(result(api.OpDequeue, -1, api.OK, p))},
		{list(stats), list(stats)},
		// Several behind one another, the same one twice, and others between.
		{list(result(api.OpBatch, 20, api.OK, p, q), result(api.OpBatch, 21, api.Empty, r), result(api.OpBatch, 22, api.OK, q)), list(part(20, api.OK, p), part(20, api.OK, q), part(21, api.OK, r), part(21, api.Empty), part(22, api.OK, q))},
		{list(result(api.OpBatch, 20, api.Empty), result(api.OpBatch, 20, api.OK), result(api.OpBatch, 20, api.Empty)), list(part(20, api.Empty), part(20, api.Empty))},
		{list(deq, result(api.OpBatch, 20, api.Empty, p), stats, deq, result(api.OpBatch, 20, api.OK), stats, result(api.OpBatch, -1, api.OK), result(api.OpBatch, 20, api.OK, q, r), deq), list(deq, part(20, api.OK, p), part(20, api.Empty), stats, deq, stats, result(api.OpBatch, -1, api.OK), part(20, api.OK, q), part(20, api.OK, r), deq)},
	} {
		if got := hist.Parts(x.l); !equal(got, x.want) {
			t.Errorf("P14.2: Parts, row %d, of %v = %v; want %v", n, x.l, got, x.want)
		}
		hold(t, x.l)
	}
}

// P14.2: Parts of each kind of operation with each error, ended and not, with packets and without, alone and among others.
func TestPartsOfAny(t *testing.T) {
	before, behind := result(api.OpEnqueue, 20, api.ErrFull), result(api.OpBatch, 30, api.Empty, packet(50))
	for _, op := range ops {
		for _, e := range errnos {
			for _, to := range append(slices.Clone(ends), 9, 10, 11) {
				for _, p := range [][]api.Packet{nil, {}, packets(0, 1), packets(5, 2), packets(9, 16)} {
					d := result(op, to, e, p...)
					hold(t, list(d))
					hold(t, list(before, d, behind))
				}
			}
		}
	}
}

// P14.2: the parts have the Who, Place, From and To of the batch, and no other field of it.
func TestPartsFields(t *testing.T) {
	for _, who := range ends {
		for _, place := range ends {
			for _, from := range ends {
				d := api.Done{Who: who, Place: place, Call: api.Call{Op: api.OpBatch, Flow: who, A: place, B: from}, Ret: api.Ret{E: api.Empty, Packets: packets(who&15, 2), N: from, V: api.Top}, From: from, To: 7}
				hold(t, list(d))
				for _, part := range hist.Parts(list(d)) {
					if part.Call != (api.Call{Op: api.OpDequeue}) || part.Ret.N != 0 || part.Ret.V != 0 {
						t.Fatalf("P14.2: a part of %v: %v", d, part)
					}
				}
			}
		}
	}
}

// P14.2: Parts of runs of several workers.
func TestPartsOfRuns(t *testing.T) {
	for seed := range uint64(300) {
		rand := next(1000 + seed)
		hold(t, run(1+rand(6), rand(10), rand))
	}
}

// P14.3: Most: rows written out.
func TestMostRows(t *testing.T) {
	const least, most = math.MinInt, math.MaxInt
	for n, x := range []struct {
		l    []api.Done
		want int
	}{
		{nil, 0}, {list(), 0},
		// One call.
		{list(span(4, 4)), 1}, {list(span(4, 5)), 1}, {list(span(4, -1)), 1}, {list(span(4, 3)), 0}, {list(span(0, -2)), 0}, {list(span(-1, -1)), 1}, {list(span(-9, -1)), 1}, {list(span(-2, -2)), 1}, {list(span(-2, -3)), 0},
		{list(span(least, least)), 1}, {list(span(least, most)), 1}, {list(span(least, -1)), 1}, {list(span(most, most)), 1}, {list(span(most, -1)), 1}, {list(span(most, least)), 0}, {list(span(most, most-1)), 0}, {list(span(0, least)), 0},
		// Two that touch in one step, that miss each other by one, and that lie in one another.
		{list(span(0, 3), span(3, 5)), 2}, {list(span(3, 5), span(0, 3)), 2}, {list(span(0, 2), span(3, 5)), 1}, {list(span(3, 5), span(0, 2)), 1}, {list(span(0, 9), span(3, 5)), 2}, {list(span(3, 3), span(3, 3)), 2}, {list(span(3, 3), span(4, 4)), 1},
		// Not ended.
		{list(span(0, -1), span(5, 6)), 2}, {list(span(5, 6), span(0, -1)), 2}, {list(span(7, -1), span(5, 6)), 1}, {list(span(6, -1), span(5, 6)), 2}, {list(span(0, -1), span(most, -1), span(0, 0)), 2}, {list(span(0, -1), span(0, -1), span(0, -1)), 3},
		// Never in progress, among others.
		{list(span(5, 3), span(0, 9)), 1}, {list(span(0, 9), span(5, 3), span(6, 2), span(9, least)), 1}, {list(span(5, 3), span(4, 4)), 1}, {list(span(5, 3), span(5, 3)), 0}, {list(span(5, 3), span(3, 5), span(4, 4)), 2},
		// Steps below 0: only -1 is no end.
		{list(span(-9, -5), span(-6, 3)), 2}, {list(span(-9, -5), span(-5, 3)), 2}, {list(span(-9, -5), span(-4, 3)), 1}, {list(span(-9, -1), span(4, 4)), 2}, {list(span(-9, -2), span(-1, 4)), 1}, {list(span(-9, -2), span(-2, -2)), 2}, {list(span(-9, 0), span(-1, -1), span(0, 0)), 3},
		// Both ends of int.
		{list(span(least, least), span(least+1, most)), 1}, {list(span(least, least+1), span(least+1, most)), 2}, {list(span(0, most), span(most, most)), 2}, {list(span(0, most-1), span(most, most)), 1}, {list(span(0, most-1), span(most, -1)), 1}, {list(span(least, most), span(least, least), span(most, most)), 2}, {list(span(least, -1), span(most, most), span(0, most), span(least, most)), 4},
		// Several: as many at once, but never all.
		{list(span(0, 10), span(2, 4), span(4, 6), span(7, -1)), 3}, {list(span(7, -1), span(4, 6), span(2, 4), span(0, 10)), 3}, {list(span(0, 1), span(1, 2), span(2, 3), span(3, 4)), 2}, {list(span(0, 0), span(1, 1), span(2, 2)), 1}, {list(span(0, 5), span(1, 2), span(3, 4)), 2}, {list(span(0, 2), span(1, 3), span(2, 4), span(3, 5), span(4, 6)), 3},
		// Neither workers nor Places nor kinds matter.
		{list(done(1, 0, 0, 5), done(1, 0, 0, 5), done(-1, -1, 5, 9)), 3}, {list(result(api.OpBatch, 20, api.OK, packet(1), packet(2)), result(api.OpBatch, 20, api.OK), result(0, 20, api.ErrArg)), 3},
	} {
		if got := hist.Most(x.l); got != x.want {
			t.Errorf("P14.3: Most, row %d, of %v = %d; want %d", n, x.l, got, x.want)
		}
	}
}

// P14.3: every two calls with steps at both ends of int and between, and every three of some.
func TestMostOfAny(t *testing.T) {
	each(2, alphabet([]int{0}, []int{0}, ends, ends), func(l []api.Done) { hold(t, l) })
	few := []int{math.MinInt, -2, -1, 0, 1, math.MaxInt}
	each(3, alphabet([]int{0}, []int{0}, few, few), func(l []api.Done) { hold(t, l) })
}

// P14.3: many calls.
func TestMostOfMany(t *testing.T) {
	const n = 30000
	var apart, nested, open []api.Done
	for i := range n {
		apart = append(apart, span(2*i, 2*i+1))
		nested = append(nested, span(i, 2*n-i))
		open = append(open, span(n-i, -1))
	}
	for _, x := range []struct {
		l    []api.Done
		want int
	}{{apart, 1}, {nested, n}, {open, n}, {slices.Concat(apart, nested, open), 2*n + 1}} {
		if got := hist.Most(x.l); got != x.want {
			t.Errorf("P14.3: Most of %d = %d; want %d", len(x.l), got, x.want)
		}
	}
	for seed := range uint64(200) {
		rand := next(2000 + seed)
		var l []api.Done
		for range rand(40) {
			l = append(l, span(rand(30)-10, rand(40)-12))
		}
		hold(t, l)
	}
}

// What follows: on valid histories, Ahead is a partial order.
func TestPartialOrder(t *testing.T) {
	check := func(l []api.Done) {
		if !hist.Right(l) {
			return
		}
		for _, a := range l {
			if hist.Ahead(a, a) {
				t.Fatalf("%v of the valid history %v precedes itself", a, l)
			}
			for _, b := range l {
				if hist.Ahead(a, b) && hist.Ahead(b, a) {
					t.Fatalf("%v and %v of the valid history %v precede each other", a, b, l)
				}
				for _, c := range l {
					if hist.Ahead(a, b) && hist.Ahead(b, c) && !hist.Ahead(a, c) {
						t.Fatalf("%v precedes %v, and that %v, but the first not the last, in the valid history %v", a, b, c, l)
					}
				}
			}
		}
	}
	few := alphabet([]int{0, 1, 2}, []int{0}, []int{0, 1, 2, math.MaxInt}, []int{-1, 0, 1, 2, math.MaxInt})
	each(2, few, check)
	each(3, few, check)
	for seed := range uint64(50) {
		rand := next(3000 + seed)
		check(run(1+rand(5), 1+rand(6), rand))
	}
}

// R3: writing into what Parts told changes neither what was handed in, nor any other call that was told, nor what is told next.
func TestNewMemory(t *testing.T) {
	lists := [][]api.Done{
		list(result(api.OpBatch, 20, api.OK, packets(0, 3)...)),
		list(result(api.OpBatch, 20, api.Empty, packets(0, 3)...)),
		list(result(api.OpBatch, -1, api.OK, packets(0, 3)...)),
		list(result(api.OpBatch, 20, api.ErrArg, packets(0, 3)...)),
		list(result(api.OpDequeue, 20, api.OK, packets(0, 3)...)),
		list(result(api.OpDequeue, 20, api.OK, packets(0, 1)...), result(api.OpBatch, 21, api.Empty, packets(1, 2)...), result(api.OpBatch, 22, api.Empty), result(api.OpBatch, 23, api.OK, packets(4, 2)...), result(api.OpStats, 24, api.OK, packets(6, 2)...)),
		run(4, 6, next(4000)),
	}
	for _, l := range lists {
		x, want := lend(l), partsOf(l)
		for i := range want {
			got := hist.Parts(x.l)
			if !equal(got, want) {
				t.Fatalf("P14.2: Parts(%v) = %v; want %v", l, got, want)
			}
			spoil(&got[i])
			x.kept(t, "writing into a call that was told")
			for n := range got {
				if n != i && !same(got[n], want[n]) {
					t.Fatalf("R3: writing into the call %d of what Parts told of %v changes the call %d: %v", i, l, n, got[n])
				}
			}
			got = got[:cap(got)]
			for n := range got {
				got[n] = result(filler, filler, filler)
			}
			x.kept(t, "writing over what was told")
		}
	}
}

// spoil writes over the packets of a call, over the room behind their end, and over the call itself.
func spoil(d *api.Done) {
	p := d.Ret.Packets[:cap(d.Ret.Packets)]
	for i := range p {
		p[i] = packet(filler)
	}
	*d = result(filler, filler, filler)
}

// R3: a list of packets that stands in two calls that are handed in stands in no two that are told.
func TestSharedPackets(t *testing.T) {
	for _, op := range []int{api.OpDequeue, api.OpBatch} {
		p := packets(0, 2)
		l := list(result(op, 20, api.OK, p...), result(op, 21, api.OK, p...))
		want := partsOf(list(result(op, 20, api.OK, packets(0, 2)...), result(op, 21, api.OK, packets(0, 2)...)))
		got := hist.Parts(l)
		if !equal(got, want) {
			t.Fatalf("P14.2: Parts(%v) = %v; want %v", l, got, want)
		}
		spoil(&got[0])
		if !slices.Equal(p, packets(0, 2)) || !equal(got[1:], want[1:]) {
			t.Errorf("R3: writing into the first call of what Parts told changes others: %v, %v", p, got)
		}
	}
}

// R2: two lists, one after the other, and the first one again: nothing is kept from call to call.
func TestNothingKept(t *testing.T) {
	a, b := run(3, 4, next(5000)), list(span(5, -1), span(4, 2), result(api.OpBatch, 20, api.Empty, packet(1)))
	for range 3 {
		hold(t, a)
		hold(t, b)
	}
}

// R3: a nil list and an empty one are equivalent, with and without room behind the end.
func TestNone(t *testing.T) {
	for _, l := range [][]api.Done{nil, {}, make([]api.Done, 0, 8), run(3, 4, next(6000))[:0]} {
		hold(t, l)
		if parts := hist.Parts(l); !hist.Right(l) || !hist.Ended(l) || len(parts) != 0 || hist.Most(l) != 0 {
			t.Errorf("of no calls: %v, %v, %v, %d", hist.Right(l), hist.Ended(l), parts, hist.Most(l))
		}
	}
}
