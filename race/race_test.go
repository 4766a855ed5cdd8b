package race_test

import (
	"math"
	"slices"
	"testing"

	"weighbridge/api"
	"weighbridge/race"
)

// filler lies in the room behind the end of what is handed in, and is written into clocks that were told.
const filler = 987654321

// Locations, each of which but p differs from p in one field alone.
var (
	p      = api.Loc{Kind: api.AtFlag, A: 1, B: 2}
	byKind = api.Loc{Kind: api.AtCell, A: 1, B: 2}
	byA    = api.Loc{Kind: api.AtFlag, A: 2, B: 2}
	byB    = api.Loc{Kind: api.AtFlag, A: 1, B: 3}
)

// kinds are all six.
var kinds = []int{api.Load, api.Store, api.Swap, api.Fail, api.Read, api.Write}

// wrongKinds are none; some are a right one in their lowest three, eight or 32 bits.
var wrongKinds = []int{math.MinInt, math.MinInt + 1, -1 << 32, -256 + 6, -8 + 1, -6, -5, -1, 0, 7, 8, 9, 14, 63, 64, 256 + 1, 1<<32 + 5, math.MaxInt - 1, math.MaxInt}

// wrongWorkers are none; some are a right one in their lowest six, eight or 32 bits.
var wrongWorkers = []int{math.MinInt, math.MinInt + 63, -1 << 32, -256, -65, -64, -63, -2, -1, 64, 65, 127, 128, 256, 1 << 31, 1 << 32, 1<<32 + 1, math.MaxInt - 1, math.MaxInt}

// indices are at both ends of int, and about both ends of any list of these tests.
var indices = []int{math.MinInt, math.MinInt + 1, -1 << 32, -2, -1, 0, 1, 2, 3, 4, 5, 6, 7, 1 << 32, 1<<32 + 1, math.MaxInt - 1, math.MaxInt}

func ev(who, kind int, at api.Loc) api.Event { return api.Event{Who: who, Kind: kind, At: at} }

func load(who int, at api.Loc) api.Event  { return ev(who, api.Load, at) }
func store(who int, at api.Loc) api.Event { return ev(who, api.Store, at) }
func swap(who int, at api.Loc) api.Event  { return ev(who, api.Swap, at) }
func fail(who int, at api.Loc) api.Event  { return ev(who, api.Fail, at) }
func read(who int, at api.Loc) api.Event  { return ev(who, api.Read, at) }
func write(who int, at api.Loc) api.Event { return ev(who, api.Write, at) }

func events(l ...api.Event) []api.Event { return l }

// The kinds as the chapter sorts them, written out once more.
func tells(kind int) bool  { return slices.Contains([]int{api.Store, api.Swap}, kind) }
func hears(kind int) bool  { return slices.Contains([]int{api.Load, api.Swap, api.Fail}, kind) }
func writes(kind int) bool { return slices.Contains([]int{api.Store, api.Swap, api.Write}, kind) }
func plain(kind int) bool  { return slices.Contains([]int{api.Read, api.Write}, kind) }

// pasts tells for each event which others happen before it, without any clock: the one before it of its worker, the one
// that told the location what this one hears, and all that happen before these two.
func pasts(l []api.Event) [][]bool {
	list := make([][]bool, len(l))
	for j, e := range l {
		list[j] = make([]bool, len(l))
		own, told := -1, -1
		for i, x := range l[:j] {
			if x.Who == e.Who {
				own = i
			}
			if x.At == e.At && tells(x.Kind) && hears(e.Kind) {
				told = i
			}
		}
		for _, i := range []int{own, told} {
			if i < 0 {
				continue
			}
			list[j][i] = true
			for k, is := range list[i] {
				list[j][k] = list[j][k] || is
			}
		}
	}
	return list
}

// counted are the clocks of the events: how many events of each worker happen before one, with itself.
func counted(l []api.Event) [][]int {
	list := make([][]int, len(l))
	for j, past := range pasts(l) {
		past[j] = true
		for i, is := range past {
			for is && len(list[j]) <= l[i].Who {
				list[j] = append(list[j], 0)
			}
			if is {
				list[j][l[i].Who]++
			}
		}
	}
	return list
}

// conflict is what Conflict is to be.
func conflict(a, b api.Event) bool {
	if a.Who == b.Who || a.At != b.At {
		return false
	}
	return (plain(a.Kind) || plain(b.Kind)) && (writes(a.Kind) || writes(b.Kind))
}

// firstOf is what First is to be.
func firstOf(l []api.Event) (int, int, bool) {
	past := pasts(l)
	for j := range l {
		for i := range j {
			if conflict(l[i], l[j]) && !past[j][i] {
				return i, j, true
			}
		}
	}
	return 0, 0, false
}

func equal(a, b [][]int) bool { return slices.EqualFunc(a, b, slices.Equal[[]int]) }

// lent is a list as it is handed in, with room behind its end.
type lent struct {
	l     []api.Event
	whole []api.Event
	was   []api.Event
}

func lend(l []api.Event) lent {
	whole := slices.Clone(l)
	for range 5 {
		whole = append(whole, ev(filler, filler, api.Loc{Kind: filler}))
	}
	x := lent{l: whole[:len(l)], whole: whole, was: slices.Clone(whole)}
	if l == nil {
		x.l = nil
	}
	return x
}

// kept fails the test unless all of it is as it was.
func (x lent) kept(t *testing.T, behind string) {
	t.Helper()
	if !slices.Equal(x.whole, x.was) {
		t.Fatalf("R3: %s changes what was handed in, or the room behind its end: %v; want %v", behind, x.whole, x.was)
	}
}

// spoil writes over a clock and over the room behind its end.
func spoil(c []int) {
	c = c[:cap(c)]
	for i := range c {
		c[i] = filler
	}
}

// holdClocks holds Right, Clocks and First of a valid list against what they are to be.
func holdClocks(t *testing.T, l []api.Event) {
	t.Helper()
	x := lend(l)
	if !race.Right(x.l) {
		t.Fatalf("P13.1: Right(%v) = false", l)
	}
	if got, want := race.Clocks(x.l), counted(l); !equal(got, want) {
		t.Fatalf("P13.1: Clocks(%v) = %v; want %v", l, got, want)
	}
	wi, wj, want := firstOf(l)
	if i, j, is := race.First(x.l); i != wi || j != wj || is != want {
		t.Fatalf("P13.2: First(%v) = %d, %d, %v; want %d, %d, %v", l, i, j, is, wi, wj, want)
	}
	x.kept(t, "Right, Clocks or First")
}

// holdBefore holds Before of all indices of a valid list, and of some that it does not have, against what it is to be.
func holdBefore(t *testing.T, l []api.Event) {
	t.Helper()
	x, past := lend(l), pasts(l)
	list := slices.Clone(indices)
	for i := 8; i <= len(l); i++ {
		list = append(list, i)
	}
	for _, i := range list {
		for _, j := range list {
			want := i >= 0 && i < len(l) && j >= 0 && j < len(l) && past[j][i]
			if got := race.Before(x.l, i, j); got != want {
				t.Fatalf("P13.1: Before(%v, %d, %d) = %v; want %v", l, i, j, got, want)
			}
		}
	}
	x.kept(t, "Before")
}

// each hands every list of that length with these events to check.
func each(length int, alphabet []api.Event, check func(l []api.Event)) {
	var walk func(l []api.Event)
	walk = func(l []api.Event) {
		if len(l) == length {
			check(l)
			return
		}
		for _, e := range alphabet {
			walk(append(slices.Clip(l), e))
		}
	}
	walk(nil)
}

// alphabet are the events of each of these workers and kinds at each of these locations.
func alphabet(workers, kinds []int, at ...api.Loc) []api.Event {
	var list []api.Event
	for _, w := range workers {
		for _, k := range kinds {
			for _, place := range at {
				list = append(list, ev(w, k, place))
			}
		}
	}
	return list
}

// P13.1, P13.2: every list of up to three events by two workers at two locations, and longer ones of fewer events.
func TestEveryList(t *testing.T) {
	two := alphabet([]int{0, 1}, kinds, p, byB)
	for length := range 4 {
		each(length, two, func(l []api.Event) { holdClocks(t, l) })
	}
	each(4, alphabet([]int{0, 1}, kinds, p), func(l []api.Event) { holdClocks(t, l) })
	told := alphabet([]int{0, 1}, []int{api.Load, api.Store, api.Swap, api.Fail}, p)
	told = append(told, alphabet([]int{0, 1}, []int{api.Read, api.Write}, byKind)...)
	each(4, told, func(l []api.Event) { holdClocks(t, l) })
	three := append(alphabet([]int{0, 1, 2}, []int{api.Load, api.Store}, p), alphabet([]int{0, 1, 2}, []int{api.Write}, byKind)...)
	each(5, three, func(l []api.Event) { holdClocks(t, l) })
}

// P13.1: Before in every list of up to three events by two workers.
func TestBeforeInEveryList(t *testing.T) {
	for length := range 3 {
		each(length, alphabet([]int{0, 1}, kinds, p, byA), func(l []api.Event) { holdBefore(t, l) })
	}
	each(3, alphabet([]int{0, 2}, kinds, p), func(l []api.Event) { holdBefore(t, l) })
}

// next tells numbers below n that follow one seed.
func next(seed uint64) func(n int) int {
	return func(n int) int {
		seed = seed*6364136223846793005 + 1442695040888963407
		return int((seed >> 33) % uint64(n))
	}
}

// mixed is a list of that length by some of these workers, mostly atomic accesses of four locations and plain ones of two.
func mixed(length int, workers []int, rand func(n int) int) []api.Event {
	atomics, plains := []api.Loc{p, byKind, byA, byB}, []api.Loc{{}, {B: -1}}
	var l []api.Event
	for range length {
		w := workers[rand(len(workers))]
		switch rand(8) {
		case 0:
			l = append(l, ev(w, kinds[rand(6)], append(atomics, plains...)[rand(6)]))
		case 1:
			l = append(l, ev(w, kinds[4+rand(2)], plains[rand(2)]))
		default:
			l = append(l, ev(w, kinds[rand(4)], atomics[rand(4)]))
		}
	}
	return l
}

// P13.1, P13.2: long lists by few workers, by many, and by those with the highest numbers.
func TestLongLists(t *testing.T) {
	var many []int
	for w := range 64 {
		many = append(many, w)
	}
	for seed := range uint64(150) {
		for _, workers := range [][]int{{0}, {0, 1}, {2, 0, 1}, {63, 62}, {0, 63}, {5, 31, 32, 33, 62}, many} {
			rand := next(seed)
			holdClocks(t, mixed(10+rand(60), workers, rand))
			if seed < 5 {
				holdBefore(t, mixed(25, workers, rand))
			}
		}
	}
}

// What follows: Before is a partial order, and what happens before an event precedes it in the list.
func TestPartialOrder(t *testing.T) {
	for seed := range uint64(8) {
		l := mixed(24, []int{0, 1, 2, 63}, next(500+seed))
		list := make([]bool, len(l)*len(l))
		for n := range list {
			list[n] = race.Before(l, n/len(l), n%len(l))
		}
		before := func(i, j int) bool { return list[i*len(l)+j] }
		for i := range l {
			if before(i, i) {
				t.Fatalf("event %d of %v happens before itself", i, l)
			}
			for j := range l {
				if before(i, j) && i >= j {
					t.Fatalf("event %d of %v happens before event %d, which it does not precede", i, l, j)
				}
				for k := range l {
					if before(i, j) && before(j, k) && !before(i, k) {
						t.Fatalf("event %d of %v happens before event %d, and that before event %d, but the first not before the last", i, l, j, k)
					}
				}
			}
		}
	}
}

// fine is a list with a race, whose every event is followed by others.
func fine() []api.Event {
	return events(write(0, byKind), store(0, p), load(1, p), read(1, byKind), write(2, byKind))
}

// none fails the test unless l is not valid, and nothing is told of it.
func none(t *testing.T, l []api.Event) {
	t.Helper()
	x := lend(l)
	if race.Right(x.l) {
		t.Errorf("P13.1: Right(%v) = true", l)
	}
	if got := race.Clocks(x.l); len(got) != 0 {
		t.Errorf("P13.1: Clocks(%v) = %v; want nothing", l, got)
	}
	for _, i := range indices {
		for _, j := range indices {
			if race.Before(x.l, i, j) {
				t.Errorf("P13.1: Before(%v, %d, %d) = true, but the list is not valid", l, i, j)
			}
		}
	}
	if i, j, is := race.First(x.l); i != 0 || j != 0 || is {
		t.Errorf("P13.2: First(%v) = %d, %d, %v; want 0, 0, false", l, i, j, is)
	}
	x.kept(t, "a call with a list that is not valid")
}

// P13.1, P13.2: one event that is not valid, alone, first, in the middle, last, and in the place of any other.
func TestNotValid(t *testing.T) {
	var wrong []api.Event
	for _, k := range wrongKinds {
		wrong = append(wrong, ev(0, k, p), ev(63, k, byKind))
	}
	for _, w := range wrongWorkers {
		for _, k := range kinds {
			wrong = append(wrong, ev(w, k, p))
		}
		wrong = append(wrong, ev(w, 0, p), ev(w, w, p))
	}
	for _, e := range wrong {
		none(t, events(e))
		none(t, events(e, e))
		for i := range len(fine()) + 1 {
			none(t, slices.Insert(fine(), i, e))
		}
		for i := range fine() {
			l := fine()
			l[i] = e
			none(t, l)
		}
	}
}

// P13.1: every worker and every kind that there is, alone, behind others and before others.
func TestRight(t *testing.T) {
	for w := range 64 {
		for _, k := range kinds {
			e := ev(w, k, p)
			holdClocks(t, events(e))
			holdClocks(t, append(fine(), e))
			holdClocks(t, append(events(e), fine()...))
		}
	}
}

// P13.1: rows written out: the workers and the kinds at each edge.
func TestRightRows(t *testing.T) {
	for _, x := range []struct {
		l    []api.Event
		want bool
	}{
		{nil, true},
		{events(), true},
		{events(ev(-1, api.Load, p)), false},
		{events(ev(0, api.Load, p)), true},
		{events(ev(63, api.Load, p)), true},
		{events(ev(64, api.Load, p)), false},
		{events(ev(math.MinInt, api.Write, p)), false},
		{events(ev(math.MaxInt, api.Write, p)), false},
		{events(ev(5, -1, p)), false},
		{events(ev(5, 0, p)), false},
		{events(ev(5, 1, p)), true},
		{events(ev(5, 2, p)), true},
		{events(ev(5, 3, p)), true},
		{events(ev(5, 4, p)), true},
		{events(ev(5, 5, p)), true},
		{events(ev(5, 6, p)), true},
		{events(ev(5, 7, p)), false},
		{events(ev(5, math.MinInt, p)), false},
		{events(ev(5, math.MaxInt, p)), false},
		{events(api.Event{}), false},
		{events(ev(0, 1, p), ev(63, 6, p), ev(64, 1, p)), false},
		{events(ev(0, 1, p), ev(63, 7, p), ev(0, 1, p)), false},
		{events(ev(-1, 1, p), ev(63, 6, p), ev(0, 1, p)), false},
	} {
		if got := race.Right(x.l); got != x.want {
			t.Errorf("P13.1: Right(%v) = %v; want %v", x.l, got, x.want)
		}
	}
}

// R7: a location may have any numbers; each of them is a location of its own.
func TestAnyLocation(t *testing.T) {
	var list []api.Loc
	numbers := []int{math.MinInt, -1, 0, 1, 1 << 32, math.MaxInt}
	for _, k := range numbers {
		for _, a := range numbers {
			for _, b := range numbers {
				list = append(list, api.Loc{Kind: k, A: a, B: b})
			}
		}
	}
	for i, a := range list {
		for n, b := range list {
			l := events(store(0, a), load(1, b))
			if !race.Right(l) {
				t.Fatalf("P13.1: Right(%v) = false", l)
			}
			if got := race.Before(l, 0, 1); got != (i == n) {
				t.Fatalf("P13.1: Before(%v, 0, 1) = %v", l, got)
			}
			if got := race.Conflict(write(0, a), write(1, b)); got != (i == n) {
				t.Fatalf("P13.2: Conflict of a Write of %v and one of %v = %v", a, b, got)
			}
		}
	}
}

// P13.1: what an event of each kind tells, and what one of each kind hears, at one location and at two.
func TestKinds(t *testing.T) {
	for _, a := range kinds {
		for _, b := range kinds {
			for _, at := range []api.Loc{p, byKind, byA, byB} {
				l := events(ev(0, a, p), ev(1, b, at))
				want := [][]int{{1}, {0, 1}}
				if (a == api.Store || a == api.Swap) && (b == api.Load || b == api.Swap || b == api.Fail) && at == p {
					want = [][]int{{1}, {1, 1}}
				}
				if got := race.Clocks(l); !equal(got, want) {
					t.Errorf("P13.1: Clocks(%v) = %v; want %v", l, got, want)
				}
			}
		}
	}
}

// P13.1: rows written out, each with the clocks of its events.
func TestClocksRows(t *testing.T) {
	high := func(n, last int) []int {
		c := make([]int, 64)
		c[0], c[63] = n, last
		return c
	}
	for n, x := range []struct {
		l    []api.Event
		want [][]int
	}{
		{nil, nil},
		{events(), nil},
		{events(read(0, p)), [][]int{{1}}},
		{events(load(2, p)), [][]int{{0, 0, 1}}},
		// One worker alone counts its events, of whatever kind.
		{events(load(0, p), store(0, p), swap(0, p), fail(0, p), read(0, p), write(0, p)), [][]int{{1}, {2}, {3}, {4}, {5}, {6}}},
		{events(load(1, p), store(1, byKind), swap(1, byA), fail(1, byB)), [][]int{{0, 1}, {0, 2}, {0, 3}, {0, 4}}},
		// A Load, a Swap and a Fail hear of a Store, and a Store, a Read and a Write do not.
		{events(write(0, byKind), store(0, p), load(1, p)), [][]int{{1}, {2}, {2, 1}}},
		{events(write(0, byKind), store(0, p), swap(1, p)), [][]int{{1}, {2}, {2, 1}}},
		{events(write(0, byKind), store(0, p), fail(1, p)), [][]int{{1}, {2}, {2, 1}}},
		{events(write(0, byKind), store(0, p), store(1, p)), [][]int{{1}, {2}, {0, 1}}},
		{events(write(0, byKind), store(0, p), read(1, p)), [][]int{{1}, {2}, {0, 1}}},
		{events(write(0, byKind), store(0, p), write(1, p)), [][]int{{1}, {2}, {0, 1}}},
		// So they do of a Swap; and what a location was told stays told.
		{events(swap(0, p), load(1, p), fail(2, p), load(3, p)), [][]int{{1}, {1, 1}, {1, 0, 1}, {1, 0, 0, 1}}},
		{events(store(0, p), load(1, p), write(1, p), read(1, p), load(2, p)), [][]int{{1}, {1, 1}, {1, 2}, {1, 3}, {1, 0, 1}}},
		// A Load, a Fail, a Read and a Write tell nothing.
		{events(load(0, p), fail(0, p), read(0, p), write(0, p), load(1, p)), [][]int{{1}, {2}, {3}, {4}, {0, 1}}},
		// A later Store takes the place of an earlier one, whether it knew of it or not; a Swap knows of it.
		{events(store(0, p), store(1, p), load(2, p)), [][]int{{1}, {0, 1}, {0, 1, 1}}},
		{events(store(0, p), swap(1, p), load(2, p)), [][]int{{1}, {1, 1}, {1, 1, 1}}},
		{events(store(0, p), load(1, p), store(1, p), load(2, p)), [][]int{{1}, {1, 1}, {1, 2}, {1, 2, 1}}},
		{events(store(0, p), store(1, p), store(0, p), load(2, p)), [][]int{{1}, {0, 1}, {2}, {2, 0, 1}}},
		{events(swap(0, p), store(1, p), swap(2, p)), [][]int{{1}, {0, 1}, {0, 1, 1}}},
		// The location keeps the clock of the Store, not that of its worker later on.
		{events(store(0, p), write(0, byKind), write(0, byKind), load(1, p)), [][]int{{1}, {2}, {3}, {1, 1}}},
		// From worker to worker, over several locations.
		{events(store(0, p), load(1, p), store(1, byKind), load(2, byKind), store(2, byA), load(0, byA)), [][]int{{1}, {1, 1}, {1, 2}, {1, 2, 1}, {1, 2, 2}, {2, 2, 2}}},
		{events(store(0, p), store(1, byKind), load(2, p), load(2, byKind)), [][]int{{1}, {0, 1}, {1, 0, 1}, {1, 1, 2}}},
		// Locations that differ in one field alone.
		{events(store(0, p), load(1, byKind), load(1, byA), load(1, byB), load(1, p)), [][]int{{1}, {0, 1}, {0, 2}, {0, 3}, {1, 4}}},
		{events(store(0, p), store(0, byKind), store(0, byA), store(0, byB), load(1, byA), load(1, p), load(1, byB), load(1, byKind)), [][]int{{1}, {2}, {3}, {4}, {3, 1}, {3, 2}, {4, 3}, {4, 4}}},
		// What is heard of another worker is not lost to an older clock.
		{events(store(0, p), load(1, p), write(0, byKind), store(0, byA), load(1, byA), load(1, p)), [][]int{{1}, {1, 1}, {2}, {3}, {3, 2}, {3, 3}}},
		// Workers with high numbers.
		{events(write(63, p)), [][]int{high(0, 1)}},
		{events(store(63, p), load(0, p), store(0, p), load(63, p)), [][]int{high(0, 1), high(1, 1), high(2, 1), high(2, 2)}},
		{events(store(0, p), swap(63, p), fail(0, p)), [][]int{{1}, high(1, 1), high(2, 1)}},
	} {
		if got := race.Clocks(x.l); !equal(got, x.want) {
			t.Errorf("P13.1: Clocks, row %d, of %v = %v; want %v", n, x.l, got, x.want)
		}
	}
}

// P13.1: rows written out: an index at each edge, in a list of five events.
func TestBeforeRows(t *testing.T) {
	l := events(store(0, p), store(1, byKind), load(1, p), write(0, byKind), read(1, byKind))
	for _, x := range []struct {
		i, j int
		want bool
	}{
		{0, 0, false}, {4, 4, false},
		{0, 1, false}, {1, 0, false},
		{0, 2, true}, {2, 0, false},
		{0, 3, true}, {3, 0, false},
		{0, 4, true}, {1, 2, true}, {1, 4, true}, {2, 4, true},
		{1, 3, false}, {2, 3, false}, {3, 4, false}, {4, 3, false},
		{-1, 0, false}, {0, -1, false}, {-1, -1, false}, {-1, 4, false}, {-5, 4, false},
		{0, 5, false}, {5, 0, false}, {4, 5, false}, {5, 5, false}, {0, 6, false},
		{math.MinInt, 0, false}, {0, math.MinInt, false}, {math.MinInt, 4, false},
		{math.MaxInt, 0, false}, {0, math.MaxInt, false}, {math.MaxInt, math.MaxInt, false},
		{math.MinInt, math.MinInt, false}, {math.MinInt, math.MaxInt, false},
		{1 << 32, 2, false}, {0, 1<<32 + 2, false},
	} {
		if got := race.Before(l, x.i, x.j); got != x.want {
			t.Errorf("P13.1: Before(%v, %d, %d) = %v; want %v", l, x.i, x.j, got, x.want)
		}
	}
}

// P13.2: every two kinds, by one worker and by two, at one location and at two, both ways round.
func TestConflict(t *testing.T) {
	// The kinds are named by their letters: L, S, X for Swap, F, R, W.
	const letters = "LSXFRW"
	conflicts := " LW SR SW XR XW FW RW WL RS WS RX WX WF WR WW "
	for a, x := range kinds {
		for b, y := range kinds {
			pair := string([]byte{' ', letters[a], letters[b], ' '})
			want := false
			for i := range len(conflicts) - 3 {
				want = want || conflicts[i:i+4] == pair
			}
			for _, w := range [][2]int{{0, 1}, {1, 0}, {63, 0}, {62, 63}} {
				if got := race.Conflict(ev(w[0], x, p), ev(w[1], y, p)); got != want {
					t.Errorf("P13.2: Conflict of the kinds%sby the workers %v = %v; want %v", pair, w, got, want)
				}
				for _, at := range []api.Loc{byKind, byA, byB} {
					if race.Conflict(ev(w[0], x, p), ev(w[1], y, at)) || race.Conflict(ev(w[0], x, at), ev(w[1], y, p)) {
						t.Errorf("P13.2: Conflict of the kinds%sat %v and %v = true", pair, p, at)
					}
				}
				if race.Conflict(ev(w[0], x, p), ev(w[0], y, p)) {
					t.Errorf("P13.2: Conflict of the kinds%sby worker %d alone = true", pair, w[0])
				}
			}
		}
	}
}

// P13.2: Conflict asks only what its promise names, whether the events could stand in a valid list or not.
func TestConflictOfAny(t *testing.T) {
	for _, w := range wrongWorkers {
		if !race.Conflict(write(w, p), read(0, p)) || !race.Conflict(read(0, p), write(w, p)) {
			t.Errorf("P13.2: Conflict of a Write by worker %d and a Read by worker 0 = false", w)
		}
		if race.Conflict(write(w, p), read(w, p)) {
			t.Errorf("P13.2: Conflict by worker %d alone = true", w)
		}
	}
	for _, k := range wrongKinds {
		if !race.Conflict(ev(0, k, p), write(1, p)) || !race.Conflict(write(1, p), ev(0, k, p)) {
			t.Errorf("P13.2: Conflict of the kind %d and a Write = false", k)
		}
		for _, other := range append(slices.Clone(wrongKinds), api.Load, api.Store, api.Swap, api.Fail, api.Read) {
			if race.Conflict(ev(0, k, p), ev(1, other, p)) || race.Conflict(ev(1, other, p), ev(0, k, p)) {
				t.Errorf("P13.2: Conflict of the kinds %d and %d = true", k, other)
			}
		}
	}
}

// P13.2: rows written out, among them the examples of the chapter.
func TestFirstRows(t *testing.T) {
	x, y := byKind, byB
	for n, row := range []struct {
		l    []api.Event
		i, j int
		is   bool
	}{
		{nil, 0, 0, false},
		{events(), 0, 0, false},
		{events(write(0, x)), 0, 0, false},
		// The examples, and the second one at one location.
		{events(write(0, x), read(1, x)), 0, 1, true},
		{events(write(0, x), store(0, p), load(1, byA), read(1, x)), 0, 3, true},
		{events(write(0, x), store(0, p), load(1, p), read(1, x)), 0, 0, false},
		// One worker, two locations, two readers, and atomic accesses alone do not race.
		{events(write(0, x), write(0, x), read(0, x)), 0, 0, false},
		{events(write(0, x), write(1, p), write(2, y), write(3, byA)), 0, 0, false},
		{events(read(0, x), read(1, x), load(2, x), fail(3, x)), 0, 0, false},
		{events(store(0, x), store(1, x), swap(2, x), load(3, x), fail(4, x)), 0, 0, false},
		// A plain and an atomic access of one location.
		{events(store(0, x), read(1, x)), 0, 1, true},
		{events(read(0, x), swap(1, x)), 0, 1, true},
		{events(write(0, x), load(1, x)), 0, 1, true},
		{events(fail(0, x), write(1, x)), 0, 1, true},
		{events(load(0, x), read(1, x)), 0, 0, false},
		{events(store(0, x), load(1, x), read(1, x), write(1, x)), 0, 0, false},
		// The smallest later event, then the smallest earlier one.
		{events(write(0, x), write(0, y), read(1, y), read(1, x)), 1, 2, true},
		{events(write(0, x), write(1, x), write(2, x)), 0, 1, true},
		{events(read(0, x), read(1, x), write(2, x)), 0, 2, true},
		{events(write(0, y), read(0, x), read(1, x), write(2, x), write(3, y)), 1, 3, true},
		{events(read(0, x), store(0, p), read(1, x), load(2, p), write(2, x)), 2, 4, true},
		{events(read(1, x), read(0, x), store(0, p), load(2, p), write(2, x)), 0, 4, true},
		// The smallest one of several by the same worker, of the same kind and of others, before and behind one that is in order.
		{events(write(0, x), write(0, x), write(0, x), read(1, x)), 0, 3, true},
		{events(write(0, x), store(0, p), write(0, x), write(0, x), load(1, p), read(1, x)), 2, 5, true},
		{events(write(0, x), store(0, p), read(0, x), write(0, x), read(0, x), load(1, p), read(1, x)), 3, 6, true},
		{events(write(0, x), store(0, p), read(0, x), write(0, x), read(0, x), load(1, p), write(1, x)), 2, 6, true},
		{events(write(0, y), write(0, x), store(0, p), load(1, p), read(1, y), read(0, y), write(1, x), write(0, y)), 4, 7, true},
		// In order by way of a third worker, and not if that one did not hear, or did not tell.
		{events(write(0, x), store(0, p), load(1, p), store(1, y), load(2, y), write(2, x)), 0, 0, false},
		{events(write(0, x), store(0, p), swap(1, p), load(2, p), write(2, x)), 0, 0, false},
		{events(write(0, x), store(0, p), store(1, p), load(2, p), write(2, x)), 0, 4, true},
		{events(write(0, x), store(0, p), load(1, p), fail(1, y), load(2, y), write(2, x)), 0, 5, true},
		{events(store(0, p), write(0, x), load(1, p), read(1, x)), 1, 3, true},
		// Not valid, before a race or behind it.
		{events(write(0, x), read(1, x), ev(0, 7, x)), 0, 0, false},
		{events(write(0, x), read(1, x), ev(64, api.Read, y)), 0, 0, false},
		{events(ev(0, 0, y), write(0, x), read(1, x)), 0, 0, false},
		{events(write(0, x), ev(-1, api.Load, y), read(1, x)), 0, 0, false},
		{events(write(0, x), write(64, x)), 0, 0, false},
	} {
		if i, j, is := race.First(row.l); i != row.i || j != row.j || is != row.is {
			t.Errorf("P13.2: First, row %d, of %v = %d, %d, %v; want %d, %d, %v", n, row.l, i, j, is, row.i, row.j, row.is)
		}
	}
}

// P13.2: a race is found at the end of a list of many events at one location.
func TestFirstOfMany(t *testing.T) {
	const n = 20000
	var l []api.Event
	for range n {
		l = append(l, write(3, byKind), store(3, p), load(5, p), read(5, byKind), store(5, byA), load(3, byA))
	}
	if i, j, is := race.First(l); i != 0 || j != 0 || is {
		t.Errorf("P13.2: First of many in order = %d, %d, %v", i, j, is)
	}
	l = append(l, load(7, p), write(7, byKind))
	if i, j, is := race.First(l); i != 6*n-3 || j != 6*n+1 || !is {
		t.Errorf("P13.2: First of many, with a race at the end = %d, %d, %v; want %d, %d, true", i, j, is, 6*n-3, 6*n+1)
	}
}

// R3: writing into a clock that was told changes no other one, nor what is told next.
func TestNewMemory(t *testing.T) {
	lists := [][]api.Event{
		fine(),
		events(read(0, p), write(0, p), store(0, p), load(0, p), swap(0, p), fail(0, p)),
		events(store(0, p), load(1, p), load(2, p), swap(63, p), load(0, p), load(1, p), store(1, byKind), load(2, byKind)),
		mixed(40, []int{0, 1, 2, 40}, next(7)),
	}
	for _, l := range lists {
		x, want := lend(l), counted(l)
		for i := range l {
			got := race.Clocks(x.l)
			if !equal(got, want) {
				t.Fatalf("P13.1: Clocks(%v) = %v; want %v", l, got, want)
			}
			spoil(got[i])
			x.kept(t, "writing into a clock that was told")
			for n := range got {
				if n != i && !slices.Equal(got[n], want[n]) {
					t.Fatalf("R3: writing into the clock of event %d of %v changes that of event %d: %v", i, l, n, got[n])
				}
			}
		}
	}
}

// R2: two lists, one after the other, and the first one again: nothing is kept from call to call.
func TestNothingKept(t *testing.T) {
	a := events(store(0, p), load(1, p), write(1, byKind))
	b := events(load(1, p), write(0, byKind), read(1, byKind))
	for range 3 {
		holdClocks(t, a)
		holdClocks(t, b)
	}
}

// R3: a nil list and an empty one are equivalent, with and without room behind the end.
func TestNone(t *testing.T) {
	for _, l := range [][]api.Event{nil, {}, make([]api.Event, 0, 8), fine()[:0]} {
		holdClocks(t, l)
		holdBefore(t, l)
		if got := race.Clocks(l); len(got) != 0 {
			t.Errorf("P13.1: Clocks of none = %v", got)
		}
	}
}
