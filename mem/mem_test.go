package mem_test

import (
	"math"
	"slices"
	"testing"

	"weighbridge/api"
	"weighbridge/mem"
)

// filler is written into what was told.
const filler = 987654321

// ends are numbers about 0 and at both ends of int; some are equal in their lowest 8, 16 or 32 bits.
var ends = []int{math.MinInt, math.MinInt + 1, -1 << 32, -2, -1, 0, 1, 2, 1 << 8, 1 << 16, 1<<32 - 1, 1 << 32, 1<<32 + 1, math.MaxInt - 1, math.MaxInt}

// numbers are those at the edges of uint64, and of what is narrower.
var numbers = []uint64{0, 1, 2, 1<<32 - 1, 1 << 32, 1<<53 + 1, 1<<63 - 1, 1 << 63, api.Top - 1, api.Top}

var (
	here  = api.Loc{Kind: api.AtWord, A: 3, B: 1}
	there = api.Loc{Kind: api.AtWord, A: 3, B: 2}
)

// names are the seven calls.
var names = []string{"Load", "Store", "Swap", "Add", "Take", "Read", "Write"}

// access is one of the seven calls with its arguments; what the call does not take is ignored.
type access struct {
	name string
	who  int
	at   api.Loc
	x, y uint64
}

// answer is what a call tells: a number, or whether it was done; a call that tells nothing has the zero answer.
type answer struct {
	v  uint64
	ok bool
}

// perform calls m.
func perform(m *mem.Mem, a access) answer {
	switch a.name {
	case "Load":
		return answer{v: m.Load(a.who, a.at)}
	case "Store":
		m.Store(a.who, a.at, a.x)
	case "Swap":
		return answer{ok: m.Swap(a.who, a.at, a.x, a.y)}
	case "Add":
		return answer{v: m.Add(a.who, a.at, a.x)}
	case "Take":
		return answer{v: m.Take(a.who, a.at, a.x)}
	case "Read":
		m.Read(a.who, a.at)
	case "Write":
		m.Write(a.who, a.at)
	}
	return answer{}
}

// line is a location of the other memory, and its number.
type line struct {
	at api.Loc
	v  uint64
}

// other is a memory that is made apart from the program: lines, of which the last one of a location tells its number.
type other struct {
	lines []line
	log   []api.Event
}

func (o *other) peek(at api.Loc) uint64 {
	for i := len(o.lines) - 1; i >= 0; i-- {
		if l := o.lines[i].at; l.Kind == at.Kind && l.A == at.A && l.B == at.B {
			return o.lines[i].v
		}
	}
	return 0
}

func (o *other) perform(a access) answer {
	was := o.peek(a.at)
	now, kind, tells := was, 0, answer{}
	switch a.name {
	case "Load":
		kind, tells.v = 1, was
	case "Store":
		kind, now = 2, a.x
	case "Swap":
		kind = 4
		if was == a.x {
			kind, now, tells.ok = 3, a.y, true
		}
	case "Add":
		kind, now, tells.v = 3, was+a.x, was
	case "Take":
		kind, now, tells.v = 3, a.x, was
	case "Read":
		kind = 5
	case "Write":
		kind = 6
	}
	if now != was {
		o.lines = append(o.lines, line{a.at, now})
	}
	o.log = append(o.log, api.Event{Who: a.who, Kind: kind, At: a.at})
	return tells
}

// next returns numbers below n, the same ones for the same seed.
func next(seed uint64) func(n int) int {
	return func(n int) int {
		seed = seed*6364136223846793005 + 1442695040888963407
		return int((seed >> 33) % uint64(n))
	}
}

// places are locations that differ from each other in some of their parts, most of them in one alone.
func places() []api.Loc {
	var l []api.Loc
	for _, kind := range ends {
		for _, a := range ends {
			for _, b := range ends {
				l = append(l, api.Loc{Kind: kind, A: a, B: b})
			}
		}
	}
	return l
}

// told fails the test unless the log of m is want.
func told(t *testing.T, m *mem.Mem, want []api.Event, after string) {
	t.Helper()
	if n := m.Len(); n != len(want) {
		t.Fatalf("P16.2: Len after %s = %d; want %d", after, n, len(want))
	}
	if l := m.Events(); !slices.Equal(l, want) {
		t.Fatalf("P16.2: Events after %s = %v; want %v", after, l, want)
	}
	if n := m.Len(); n != len(want) {
		t.Fatalf("P16.2: Len after %s, and after Events = %d; want %d", after, n, len(want))
	}
}

func TestNew(t *testing.T) {
	m := mem.New()
	told(t, m, nil, "New")
	for _, at := range places() {
		if v := m.Peek(at); v != 0 {
			t.Fatalf("P16.1: New has %d at %v", v, at)
		}
	}
	told(t, m, nil, "New and Peek")
	for _, at := range places() {
		if v := m.Load(0, at); v != 0 {
			t.Fatalf("P16.1: Load of a new memory at %v = %d", at, v)
		}
	}
	if n := len(m.Events()); n != len(places()) || m.Len() != n {
		t.Fatalf("P16.2: %d events of %d Loads; Len = %d", n, len(places()), m.Len())
	}
}

// TestCalls holds each call against what is written out: at a location that no call named before (fresh), or at one that holds a number.
func TestCalls(t *testing.T) {
	rows := []struct {
		held  uint64
		fresh bool
		name  string
		x, y  uint64
		tells answer
		after uint64
		kind  int
	}{
		{0, true, "Load", 0, 0, answer{}, 0, api.Load},
		{9, false, "Load", 0, 0, answer{v: 9}, 9, api.Load},
		{api.Top, false, "Load", 0, 0, answer{v: api.Top}, api.Top, api.Load},
		{0, true, "Store", 7, 0, answer{}, 7, api.Store},
		{0, true, "Store", 0, 0, answer{}, 0, api.Store},
		{9, false, "Store", 7, 0, answer{}, 7, api.Store},
		{9, false, "Store", 9, 0, answer{}, 9, api.Store},
		{9, false, "Store", 0, 0, answer{}, 0, api.Store},
		{9, false, "Store", api.Top, 0, answer{}, api.Top, api.Store},
		{0, true, "Swap", 0, 7, answer{ok: true}, 7, api.Swap},
		{0, true, "Swap", 0, 0, answer{ok: true}, 0, api.Swap},
		{0, true, "Swap", 1, 7, answer{}, 0, api.Fail},
		{0, true, "Swap", 1, 0, answer{}, 0, api.Fail},
		{0, true, "Swap", api.Top, 7, answer{}, 0, api.Fail},
		{0, false, "Swap", 0, 7, answer{ok: true}, 7, api.Swap},
		{0, false, "Swap", 7, 8, answer{}, 0, api.Fail},
		{9, false, "Swap", 9, 7, answer{ok: true}, 7, api.Swap},
		{9, false, "Swap", 9, 9, answer{ok: true}, 9, api.Swap},
		{9, false, "Swap", 9, 0, answer{ok: true}, 0, api.Swap},
		{9, false, "Swap", 8, 7, answer{}, 9, api.Fail},
		{9, false, "Swap", 10, 7, answer{}, 9, api.Fail},
		{9, false, "Swap", 8, 9, answer{}, 9, api.Fail},
		{9, false, "Swap", 8, 8, answer{}, 9, api.Fail},
		{9, false, "Swap", 0, 7, answer{}, 9, api.Fail},
		{9, false, "Swap", 1<<32 + 9, 7, answer{}, 9, api.Fail},
		{api.Top, false, "Swap", api.Top, 1, answer{ok: true}, 1, api.Swap},
		{api.Top, false, "Swap", 1<<63 - 1, 1, answer{}, api.Top, api.Fail},
		{0, true, "Add", 5, 0, answer{}, 5, api.Swap},
		{0, true, "Add", 0, 0, answer{}, 0, api.Swap},
		{0, true, "Add", api.Top, 0, answer{}, api.Top, api.Swap},
		{9, false, "Add", 5, 0, answer{v: 9}, 14, api.Swap},
		{9, false, "Add", 0, 0, answer{v: 9}, 9, api.Swap},
		{9, false, "Add", api.Top, 0, answer{v: 9}, 8, api.Swap},
		{9, false, "Add", api.Top - 9, 0, answer{v: 9}, api.Top, api.Swap},
		{9, false, "Add", api.Top - 8, 0, answer{v: 9}, 0, api.Swap},
		{1 << 63, false, "Add", 1 << 63, 0, answer{v: 1 << 63}, 0, api.Swap},
		{api.Top, false, "Add", 1, 0, answer{v: api.Top}, 0, api.Swap},
		{api.Top, false, "Add", api.Top, 0, answer{v: api.Top}, api.Top - 1, api.Swap},
		{0, true, "Take", 7, 0, answer{}, 7, api.Swap},
		{0, true, "Take", 0, 0, answer{}, 0, api.Swap},
		{9, false, "Take", 7, 0, answer{v: 9}, 7, api.Swap},
		{9, false, "Take", 9, 0, answer{v: 9}, 9, api.Swap},
		{9, false, "Take", 0, 0, answer{v: 9}, 0, api.Swap},
		{api.Top, false, "Take", api.Top - 1, 0, answer{v: api.Top}, api.Top - 1, api.Swap},
		{0, true, "Read", 0, 0, answer{}, 0, api.Read},
		{9, false, "Read", 0, 0, answer{}, 9, api.Read},
		{0, true, "Write", 0, 0, answer{}, 0, api.Write},
		{9, false, "Write", 0, 0, answer{}, 9, api.Write},
	}
	for _, r := range rows {
		m := mem.New()
		var want []api.Event
		if !r.fresh {
			m.Store(4, here, r.held)
			want = append(want, api.Event{Who: 4, Kind: api.Store, At: here})
		}
		if tells := perform(m, access{r.name, 2, here, r.x, r.y}); tells != r.tells {
			t.Errorf("P16.1: %s(%d, %d) at a location that contains %d tells %v; want %v", r.name, r.x, r.y, r.held, tells, r.tells)
		}
		if v := m.Peek(here); v != r.after {
			t.Errorf("P16.1: after %s(%d, %d) at a location that contained %d, it contains %d; want %d", r.name, r.x, r.y, r.held, v, r.after)
		}
		if v := m.Peek(there); v != 0 {
			t.Errorf("P16.1: after %s(%d, %d), another location contains %d", r.name, r.x, r.y, v)
		}
		told(t, m, append(want, api.Event{Who: 2, Kind: r.kind, At: here}), r.name)
		if v := m.Load(2, here); v != r.after {
			t.Errorf("P16.1: Load after %s(%d, %d) at a location that contained %d = %d; want %d", r.name, r.x, r.y, r.held, v, r.after)
		}
	}
}

// TestNumbers goes through all numbers at the edges: what a location contains, and what is handed in.
func TestNumbers(t *testing.T) {
	for _, held := range numbers {
		for _, x := range numbers {
			for _, y := range numbers {
				for _, name := range names {
					m, o := mem.New(), &other{}
					for _, a := range []access{{"Store", 1, here, held, 0}, {name, 1, here, x, y}, {name, 1, here, y, x}, {"Load", 1, here, 0, 0}} {
						if tells, want := perform(m, a), o.perform(a); tells != want {
							t.Fatalf("P16.1: %v, after Store of %d, tells %v; want %v", a, held, tells, want)
						}
						if v, want := m.Peek(here), o.peek(here); v != want {
							t.Fatalf("P16.1: after %v, and Store of %d before it, the location contains %d; want %d", a, held, v, want)
						}
					}
					told(t, m, o.log, name)
				}
			}
		}
	}
}

func TestTakeTwice(t *testing.T) {
	m := mem.New()
	m.Store(0, here, 3)
	if a, b, c := m.Take(1, here, 4), m.Take(2, here, 0), m.Take(1, here, 5); a != 3 || b != 4 || c != 0 {
		t.Errorf("P16.1: Take of 4, 0 and 5 after Store of 3 = %d, %d, %d; want 3, 4, 0", a, b, c)
	}
	if v := m.Peek(here); v != 5 {
		t.Errorf("P16.1: after Take of 5, the location contains %d", v)
	}
	if a, b := m.Take(0, there, 8), m.Take(0, there, 8); a != 0 || b != 8 {
		t.Errorf("P16.1: Take of 8 twice = %d, %d; want 0, 8", a, b)
	}
}

// TestWorkers has every call made by workers of any number: only the event tells them apart.
func TestWorkers(t *testing.T) {
	for _, name := range names {
		for _, held := range []uint64{0, 9} {
			var first answer
			for i, who := range ends {
				m := mem.New()
				m.Store(5, here, held)
				tells := perform(m, access{name, who, here, 9, 7})
				if i == 0 {
					first = tells
				}
				if tells != first {
					t.Errorf("P16.1: %s by %d tells %v, and by %d %v", name, who, tells, ends[0], first)
				}
				want := &other{}
				want.perform(access{"Store", 5, here, held, 0})
				want.perform(access{name, who, here, 9, 7})
				told(t, m, want.log, name)
				if l := m.Events(); l[1].Who != who || l[1].At != here {
					t.Errorf("P16.2: the event of %s by %d is %v", name, who, l[1])
				}
			}
		}
	}
}

// TestPlaces gives each location a number of its own, by each of the calls that can: none of them touches another one's.
func TestPlaces(t *testing.T) {
	all := places()
	for _, name := range []string{"Store", "Swap", "Add", "Take"} {
		m := mem.New()
		var want []api.Event
		for i, at := range all {
			a := access{name: name, who: i, at: at, x: uint64(i) + 1}
			if name == "Swap" {
				a.x, a.y = 0, uint64(i)+1
			}
			if tells := perform(m, a); tells.v != 0 || tells.ok != (name == "Swap") {
				t.Fatalf("P16.1: %s at %v, where nothing was, tells %v", name, at, tells)
			}
			kind := api.Swap
			if name == "Store" {
				kind = api.Store
			}
			want = append(want, api.Event{Who: i, Kind: kind, At: at})
		}
		told(t, m, want, name)
		for i, at := range all {
			if v := m.Peek(at); v != uint64(i)+1 {
				t.Fatalf("P16.1: after %s at each location, Peek(%v) = %d; want %d", name, at, v, i+1)
			}
			if v := m.Load(0, at); v != uint64(i)+1 {
				t.Fatalf("P16.1: after %s at each location, Load of %v = %d; want %d", name, at, v, i+1)
			}
			m.Read(0, at)
			m.Write(0, at)
		}
		for i, at := range all {
			if m.Swap(0, at, uint64(i), 0) || m.Swap(0, at, uint64(i)+2, 0) || !m.Swap(0, at, uint64(i)+1, 0) || m.Peek(at) != 0 {
				t.Fatalf("P16.1: Swap at %v, which contains %d; now %d", at, i+1, m.Peek(at))
			}
		}
	}
}

// TestQuiet has calls that change no number: all locations keep theirs, and Peek and Len add no event.
func TestQuiet(t *testing.T) {
	m := mem.New()
	m.Store(0, here, 11)
	want := []api.Event{{Who: 0, Kind: api.Store, At: here}}
	for i, at := range []api.Loc{here, there, here, {}, there} {
		m.Read(i, at)
		m.Write(-i, at)
		want = append(want, api.Event{Who: i, Kind: api.Read, At: at}, api.Event{Who: -i, Kind: api.Write, At: at})
		for range 3 {
			if a, b, c := m.Peek(here), m.Peek(there), m.Peek(api.Loc{}); a != 11 || b != 0 || c != 0 {
				t.Fatalf("P16.1: after Read and Write at %v, the locations contain %d, %d, %d; want 11, 0, 0", at, a, b, c)
			}
			if n := m.Len(); n != len(want) {
				t.Fatalf("P16.2: Len after Peek and Len = %d; want %d", n, len(want))
			}
		}
	}
	told(t, m, want, "Read, Write, Peek and Len")
}

// random is any of the calls at one of these locations, with numbers that are often those that are there.
func random(rand func(n int) int, at []api.Loc) access {
	workers := []int{0, 1, 2, 3, 4, 5, 5, math.MinInt, -1, math.MaxInt}
	number := func() uint64 {
		if rand(8) == 0 {
			return numbers[rand(len(numbers))]
		}
		return uint64(rand(3))
	}
	return access{names[rand(len(names))], workers[rand(len(workers))], at[rand(len(at))], number(), number()}
}

var few = []api.Loc{here, there, {}, {Kind: api.AtLock}, {Kind: api.AtCell, A: -1, B: math.MinInt}, {Kind: math.MaxInt, A: math.MaxInt, B: math.MaxInt}, {Kind: api.AtCell, A: math.MinInt, B: -1}}

func TestLongRun(t *testing.T) {
	for seed := range uint64(20) {
		m, o, rand := mem.New(), &other{}, next(seed)
		for i := range 1500 {
			a := random(rand, few)
			if tells, want := perform(m, a), o.perform(a); tells != want {
				t.Fatalf("P16.1: call %d of run %d, %v, tells %v; want %v", i, seed, a, tells, want)
			}
			if n := m.Len(); n != i+1 {
				t.Fatalf("P16.2: Len after %d calls = %d", i+1, n)
			}
			at := few[rand(len(few))]
			if v, want := m.Peek(at), o.peek(at); v != want {
				t.Fatalf("P16.1: after call %d of run %d, %v, Peek(%v) = %d; want %d", i, seed, a, at, v, want)
			}
			if i < 40 || i%100 == 99 {
				told(t, m, o.log, "a run")
			}
		}
	}
}

// TestAlone writes into what Events tells, and behind its end: nothing of the memory changes, nor does what it told before.
func TestAlone(t *testing.T) {
	m, o, rand := mem.New(), &other{}, next(7)
	bad := api.Event{Who: filler, Kind: filler, At: api.Loc{Kind: filler}}
	var kept [][]api.Event
	for i := range 70 {
		l := m.Events()
		kept = append(kept, m.Events())
		for k := range l {
			l[k] = bad
		}
		l = append(l, bad)
		for l = l[:cap(l)]; len(l) > i; l = l[:len(l)-1] {
			l[len(l)-1] = bad
		}
		told(t, m, o.log, "writing into what Events told")
		for _, at := range append(few, bad.At) {
			if v, want := m.Peek(at), o.peek(at); v != want {
				t.Fatalf("R3: writing into what Events told turns the number at %v into %d; want %d", at, v, want)
			}
		}
		a := random(rand, few)
		if tells, want := perform(m, a), o.perform(a); tells != want {
			t.Fatalf("P16.1: %v tells %v; want %v", a, tells, want)
		}
		told(t, m, o.log, "writing into what Events told, and one more call")
	}
	for i, l := range kept {
		if !slices.Equal(l, o.log[:i]) {
			t.Fatalf("R3: what Events told after %d calls is now %v; want %v", i, l, o.log[:i])
		}
	}
}

// TestTwo fills two memories in turns, and then one alone.
func TestTwo(t *testing.T) {
	a, b := mem.New(), mem.New()
	of, rand := []*other{{}, {}}, next(11)
	for i := range 600 {
		k := rand(2)
		if i > 500 {
			k = 0
		}
		x := random(rand, few)
		if tells, want := perform([]*mem.Mem{a, b}[k], x), of[k].perform(x); tells != want {
			t.Fatalf("P16.1: %v on memory %d tells %v; want %v", x, k, tells, want)
		}
		for _, at := range few {
			if v, want := a.Peek(at), of[0].peek(at); v != want {
				t.Fatalf("two memories have something in common: the first one has %d at %v; want %d", v, at, want)
			}
			if v, want := b.Peek(at), of[1].peek(at); v != want {
				t.Fatalf("two memories have something in common: the second one has %d at %v; want %d", v, at, want)
			}
		}
		told(t, a, of[0].log, "a call of one of two memories")
		told(t, b, of[1].log, "a call of one of two memories")
	}
	told(t, mem.New(), nil, "calls of two other memories")
}

func TestExample(t *testing.T) {
	m := mem.New()
	if v := m.Add(0, here, 5); v != 0 {
		t.Errorf("P16.1: Add of 5 = %d; want 0", v)
	}
	if m.Swap(1, here, 4, 7) {
		t.Error("P16.1: Swap from 4 to 7 at 5 = true")
	}
	told(t, m, []api.Event{{Who: 0, Kind: api.Swap, At: here}, {Who: 1, Kind: api.Fail, At: here}}, "the example")
	if v := m.Peek(here); v != 5 {
		t.Errorf("P16.1: after the example, the location contains %d; want 5", v)
	}
}
