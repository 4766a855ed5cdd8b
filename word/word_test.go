package word_test

import (
	"math"
	"testing"

	"weighbridge/api"
	"weighbridge/word"
)

// counts are the least, the greatest and some between, at the bits' edges.
func counts() []uint64 {
	list := []uint64{0, 1, 2, 5, 7, 1000, 1<<32 - 1, 1 << 32, 1<<60 - 1, 1 << 60, api.MaxCount - 1, api.MaxCount}
	for k := 2; k < 60; k++ {
		list = append(list, 1<<k)
	}
	return list
}

func states() []int { return []int{api.Idle, api.Active, api.Shut} }

// plain is the word as 'Definitions' lays it out, worked out without shifts.
func plain(n uint64, state int) uint64 {
	return uint64(state)*2305843009213693952 + n
}

// wrongWords have both bits of the state set, or bit 63, or all three, beside each count.
func wrongWords() []uint64 {
	var list []uint64
	for _, n := range counts() {
		for top := uint64(3); top < 8; top++ {
			list = append(list, top<<61|n)
		}
	}
	return append(list, api.Top)
}

// P2.1: every right count beside every state.
func TestPack(t *testing.T) {
	for _, n := range counts() {
		for _, state := range states() {
			if got, ok := word.Pack(n, state); got != plain(n, state) || !ok {
				t.Errorf("P2.1: Pack(%d, %d) = %d, %v; want %d, true", n, state, got, ok, plain(n, state))
			}
		}
	}
}

// P2.1: rows written out, among them the first example.
func TestPackRows(t *testing.T) {
	for _, x := range []struct {
		n     uint64
		state int
		want  uint64
	}{
		{0, api.Idle, 0},
		{5, api.Idle, 5},
		{5, api.Active, 2305843009213693957},
		{5, api.Shut, 4611686018427387909},
		{0, api.Active, 2305843009213693952},
		{0, api.Shut, 4611686018427387904},
		{api.MaxCount, api.Idle, 2305843009213693951},
		{api.MaxCount, api.Active, 4611686018427387903},
		{api.MaxCount, api.Shut, 6917529027641081855},
	} {
		if got, ok := word.Pack(x.n, x.state); got != x.want || !ok {
			t.Errorf("P2.1: Pack(%d, %d) = %d, %v; want %d, true", x.n, x.state, got, ok, x.want)
		}
	}
}

// P2.1: a wrong count or a wrong state answers 0 and false, beside right others and beside wrong ones.
func TestPackWrong(t *testing.T) {
	wrongCounts := []uint64{api.MaxCount + 1, api.MaxCount + 2, 1<<62 - 1, 1 << 62, 1 << 63, 1<<63 | 5, api.Top - 1, api.Top}
	wrongStates := []int{-1, -2, 3, 4, 5, 8, 1 << 32, 1<<32 + 1, 1 << 61, 1 << 62, math.MinInt, math.MinInt + 1, math.MaxInt}
	check := func(n uint64, state int) {
		if got, ok := word.Pack(n, state); got != 0 || ok {
			t.Errorf("P2.1: Pack(%d, %d) = %d, %v; want 0, false", n, state, got, ok)
		}
	}
	for _, n := range wrongCounts {
		for _, state := range append(states(), wrongStates...) {
			check(n, state)
		}
	}
	for _, state := range wrongStates {
		for _, n := range counts() {
			check(n, state)
		}
	}
}

// P2.1: a valid word tells what it was packed from.
func TestReadRight(t *testing.T) {
	for _, n := range counts() {
		for _, state := range states() {
			w := plain(n, state)
			if !word.Right(w) {
				t.Errorf("P2.1: Right(%d) = false; want true", w)
			}
			if got := word.Count(w); got != n {
				t.Errorf("P2.1: Count(%d) = %d; want %d", w, got, n)
			}
			if got := word.State(w); got != state {
				t.Errorf("P2.1: State(%d) = %d; want %d", w, got, state)
			}
		}
	}
}

// P2.1: the words at the edge between valid and not.
func TestReadEdge(t *testing.T) {
	const last = 3<<61 - 1
	if !word.Right(last) || word.Count(last) != api.MaxCount || word.State(last) != api.Shut {
		t.Errorf("P2.1: the last valid word: %v, %d, %d", word.Right(last), word.Count(last), word.State(last))
	}
	if word.Right(last+1) || word.Count(last+1) != 0 || word.State(last+1) != -1 {
		t.Errorf("P2.1: the word after it: %v, %d, %d", word.Right(last+1), word.Count(last+1), word.State(last+1))
	}
}

// P2.1: a word that is not valid has the count 0 and the state -1.
func TestReadWrong(t *testing.T) {
	for _, w := range wrongWords() {
		if word.Right(w) {
			t.Errorf("P2.1: Right(%d) = true; want false", w)
		}
		if got := word.Count(w); got != 0 {
			t.Errorf("P2.1: Count(%d) = %d; want 0", w, got)
		}
		if got := word.State(w); got != -1 {
			t.Errorf("P2.1: State(%d) = %d; want -1", w, got)
		}
	}
}

// transition is one of More, Rest and Shut, and what the promise asks of it.
type transition struct {
	name string
	call func(uint64) (uint64, bool)
	want func(n uint64, state int) (uint64, bool)
}

func transitions() []transition {
	return []transition{
		{"More", word.More, func(n uint64, state int) (uint64, bool) {
			if state == api.Shut || n == api.MaxCount {
				return 0, false
			}
			return plain(n+1, api.Active), true
		}},
		{"Rest", word.Rest, func(n uint64, state int) (uint64, bool) {
			if state != api.Active {
				return 0, false
			}
			return plain(n, api.Idle), true
		}},
		{"Shut", word.Shut, func(n uint64, state int) (uint64, bool) {
			if state != api.Idle {
				return 0, false
			}
			return plain(n, api.Shut), true
		}},
	}
}

// P2.2: every transition from every state, at every count.
func TestTransitions(t *testing.T) {
	for _, x := range transitions() {
		for _, n := range counts() {
			for _, state := range states() {
				want, wantOK := x.want(n, state)
				if got, ok := x.call(plain(n, state)); got != want || ok != wantOK {
					t.Errorf("P2.2: %s of the count %d and the state %d = %d, %v; want %d, %v", x.name, n, state, got, ok, want, wantOK)
				}
			}
		}
	}
}

// P2.2: no transition takes a word that is not valid.
func TestTransitionsWrong(t *testing.T) {
	for _, x := range transitions() {
		for _, w := range wrongWords() {
			if got, ok := x.call(w); got != 0 || ok {
				t.Errorf("P2.2: %s(%d) = %d, %v; want 0, false", x.name, w, got, ok)
			}
		}
	}
}

// P2.2: rows written out, among them the second example.
func TestTransitionRows(t *testing.T) {
	for _, x := range []struct {
		name string
		call func(uint64) (uint64, bool)
		w    uint64
		want uint64
		ok   bool
	}{
		{"More", word.More, 0, 2305843009213693953, true},
		{"More", word.More, 2305843009213693953, 2305843009213693954, true},
		{"More", word.More, 2305843009213693950, 4611686018427387903, true},
		{"More", word.More, 2305843009213693951, 0, false},
		{"More", word.More, 4611686018427387903, 0, false},
		{"More", word.More, 4611686018427387904, 0, false},
		{"Rest", word.Rest, 2305843009213693957, 5, true},
		{"Rest", word.Rest, 2305843009213693952, 0, true},
		{"Rest", word.Rest, 4611686018427387903, 2305843009213693951, true},
		{"Rest", word.Rest, 0, 0, false},
		{"Rest", word.Rest, 5, 0, false},
		{"Rest", word.Rest, 4611686018427387909, 0, false},
		{"Shut", word.Shut, 0, 4611686018427387904, true},
		{"Shut", word.Shut, 5, 4611686018427387909, true},
		{"Shut", word.Shut, 2305843009213693951, 6917529027641081855, true},
		{"Shut", word.Shut, 2305843009213693957, 0, false},
		{"Shut", word.Shut, 4611686018427387909, 0, false},
	} {
		if got, ok := x.call(x.w); got != x.want || ok != x.ok {
			t.Errorf("P2.2: %s(%d) = %d, %v; want %d, %v", x.name, x.w, got, ok, x.want, x.ok)
		}
	}
}

// What follows: a transition keeps a word valid, never lessens its count, and never leaves Shut.
func TestWhatFollows(t *testing.T) {
	for _, x := range transitions() {
		for _, n := range counts() {
			for _, state := range states() {
				w := plain(n, state)
				next, ok := x.call(w)
				if !ok {
					continue
				}
				if state == api.Shut {
					t.Errorf("%s(%d) leaves Shut", x.name, w)
				}
				if !word.Right(next) || word.Count(next) < n {
					t.Errorf("%s(%d) = %d: valid %v, the count %d", x.name, w, next, word.Right(next), word.Count(next))
				}
			}
		}
	}
}
