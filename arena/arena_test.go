package arena_test

import (
	"math"
	"slices"
	"testing"

	"assart/api"
	"assart/arena"
)

// made tells an arena with these words, and how many accesses that took.
func made(t *testing.T, words ...int) (*arena.Arena, int) {
	t.Helper()
	m, e := arena.New(len(words))
	if e != api.OK || m == nil {
		t.Fatalf("New(%d): %v, %d", len(words), m, e)
	}
	for a, x := range words {
		if e := m.Store(a, x); e != api.OK {
			t.Fatalf("Store(%d, %d): %d", a, x, e)
		}
	}
	return m, m.Count()
}

// told fails, unless an access of the arena told this, and left it so.
func told(t *testing.T, what string, m *arena.Arena, x int, e api.Errno, wantX int, wantE api.Errno, count int, words ...int) {
	t.Helper()
	if x != wantX || e != wantE {
		t.Errorf("%s: %d, error %d; want %d, error %d", what, x, e, wantX, wantE)
	}
	if m.Count() != count {
		t.Errorf("%s: count %d, want %d", what, m.Count(), count)
	}
	if got := m.Words(); !slices.Equal(got, words) {
		t.Errorf("%s: words %v, want %v", what, got, words)
	}
}

// places are addresses that four words do not have.
var places = []int{math.MinInt, math.MinInt + 1, -5, -4, -1, 4, 5, 8, api.MaxWords, math.MaxInt}

// P1.1

func TestNewRefused(t *testing.T) {
	for _, n := range []int{math.MinInt, -api.MaxWords, -1, 0, api.MaxWords + 1, 2 * api.MaxWords, math.MaxInt} {
		if m, e := arena.New(n); m != nil || e != api.ErrArg {
			t.Errorf("New(%d): nil is %v, error %d", n, m == nil, e)
		}
	}
}

func TestNewZero(t *testing.T) {
	for _, n := range []int{1, 2, 4, 160, api.MaxWords - 1, api.MaxWords} {
		m, e := arena.New(n)
		if m == nil || e != api.OK {
			t.Fatalf("New(%d): nil is %v, error %d", n, m == nil, e)
		}
		if m.Len() != n || m.Count() != 0 {
			t.Errorf("New(%d): %d words, %d accesses", n, m.Len(), m.Count())
		}
		l := m.Words()
		if len(l) != n || slices.ContainsFunc(l, func(x int) bool { return x != 0 }) {
			t.Errorf("New(%d): %d words are told, or not all are 0", n, len(l))
		}
		for _, a := range []int{0, n / 2, n - 1} {
			if x, e := m.Load(a); x != 0 || e != api.OK {
				t.Errorf("New(%d): Load(%d): %d, error %d", n, a, x, e)
			}
		}
		if m.Count() != 3 {
			t.Errorf("New(%d): three loads are counted as %d", n, m.Count())
		}
	}
}

func TestNewApart(t *testing.T) {
	m, _ := made(t, 1, 2, 3)
	o, _ := made(t, 4, 5, 6)
	m.Store(1, 9)
	m.Bump(0, 5)
	told(t, "the other one", o, 0, api.OK, 0, api.OK, 3, 4, 5, 6)
}

// P1.2

func TestNoSuchWord(t *testing.T) {
	m, n := made(t, 7, -7, 0, 1)
	for _, a := range places {
		x, e := m.Load(a)
		told(t, "Load", m, x, e, 0, api.ErrRange, n, 7, -7, 0, 1)
		e = m.Store(a, 5)
		told(t, "Store", m, 0, e, 0, api.ErrRange, n, 7, -7, 0, 1)
		x, e = m.Swap(a, 0, 5)
		told(t, "Swap", m, x, e, 0, api.ErrRange, n, 7, -7, 0, 1)
		x, e = m.Bump(a, 5)
		told(t, "Bump", m, x, e, 0, api.ErrRange, n, 7, -7, 0, 1)
		x, e = m.Bump(a, math.MinInt)
		told(t, "Bump at its end", m, x, e, 0, api.ErrRange, n, 7, -7, 0, 1)
	}
}

func TestOneWordAlone(t *testing.T) {
	m, _ := made(t, 5)
	x, e := m.Load(1)
	told(t, "Load(1)", m, x, e, 0, api.ErrRange, 1, 5)
	x, e = m.Load(-1)
	told(t, "Load(-1)", m, x, e, 0, api.ErrRange, 1, 5)
	x, e = m.Load(0)
	told(t, "Load(0)", m, x, e, 5, api.OK, 2, 5)
}

func TestLastOfMost(t *testing.T) {
	m, _ := arena.New(api.MaxWords)
	if e := m.Store(api.MaxWords-1, 3); e != api.OK {
		t.Errorf("Store at the last word: error %d", e)
	}
	if e := m.Store(api.MaxWords, 3); e != api.ErrRange {
		t.Errorf("Store behind the last word: error %d", e)
	}
	if x, e := m.Load(api.MaxWords - 1); x != 3 || e != api.OK || m.Count() != 2 {
		t.Errorf("Load of the last word: %d, error %d, count %d", x, e, m.Count())
	}
}

func TestLoad(t *testing.T) {
	words := []int{math.MinInt, -1, 0, math.MaxInt}
	m, n := made(t, words...)
	for a, want := range words {
		x, e := m.Load(a)
		n++
		told(t, "Load", m, x, e, want, api.OK, n, words...)
	}
}

func TestStore(t *testing.T) {
	m, n := made(t, 1, 2)
	for _, x := range []int{math.MinInt, -1, 0, 0, 5, math.MaxInt} {
		e := m.Store(1, x)
		n++
		told(t, "Store", m, 0, e, 0, api.OK, n, 1, x)
	}
}

func TestSwap(t *testing.T) {
	for _, c := range []struct{ word, old, x, then int }{
		{0, 0, 9, 9},
		{7, 7, 9, 9},
		{7, 7, 7, 7},
		{7, 7, 0, 0},
		{7, 8, 9, 7},
		{7, 6, 9, 7},
		{7, 9, 7, 7},
		{7, 0, 9, 7},
		{0, 9, 9, 0},
		{-7, 7, 9, -7},
		{7, -7, 9, 7},
		{math.MinInt, math.MinInt, math.MaxInt, math.MaxInt},
		{math.MinInt, math.MaxInt, 0, math.MinInt},
		{math.MaxInt, math.MaxInt, math.MinInt, math.MinInt},
	} {
		m, n := made(t, 7, c.word, 7)
		x, e := m.Swap(1, c.old, c.x)
		told(t, "Swap", m, x, e, c.word, api.OK, n+1, 7, c.then, 7)
	}
}

func TestBumpBelow(t *testing.T) {
	for _, c := range []struct{ word, most int }{
		{0, 1},
		{8, 9},
		{8, 10},
		{8, math.MaxInt},
		{-1, 0},
		{-5, -4},
		{-5, 7},
		{math.MinInt, math.MinInt + 1},
		{math.MinInt, math.MaxInt},
		{math.MaxInt - 1, math.MaxInt},
		{api.MaxClock - 1, api.MaxClock},
	} {
		m, n := made(t, 3, c.word, 3)
		x, e := m.Bump(1, c.most)
		told(t, "Bump below", m, x, e, c.word+1, api.OK, n+1, 3, c.word+1, 3)
	}
}

func TestBumpAtAndAbove(t *testing.T) {
	for _, c := range []struct{ word, most int }{
		{0, 0},
		{0, -1},
		{9, 9},
		{10, 9},
		{9, 0},
		{9, -9},
		{-4, -4},
		{-4, -5},
		{math.MaxInt, math.MaxInt},
		{math.MaxInt, math.MinInt},
		{math.MinInt, math.MinInt},
		{api.MaxClock, api.MaxClock},
		{api.MaxClock + 1, api.MaxClock},
	} {
		m, n := made(t, 3, c.word, 3)
		x, e := m.Bump(1, c.most)
		told(t, "Bump at its end", m, x, e, c.word, api.ErrClock, n+1, 3, c.word, 3)
	}
}

func TestBumpUpToMost(t *testing.T) {
	m, n := made(t, 0)
	for i := 1; i <= 4; i++ {
		x, e := m.Bump(0, 4)
		told(t, "Bump", m, x, e, i, api.OK, n+i, i)
	}
	for i := 5; i <= 6; i++ {
		x, e := m.Bump(0, 4)
		told(t, "Bump at its end", m, x, e, 4, api.ErrClock, n+i, 4)
	}
	x, e := m.Bump(0, 5)
	told(t, "Bump with more", m, x, e, 5, api.OK, n+7, 5)
}

func TestExample(t *testing.T) {
	m, _ := arena.New(4)
	e := m.Store(2, 7)
	told(t, "Store(2, 7)", m, 0, e, 0, api.OK, 1, 0, 0, 7, 0)
	x, e := m.Swap(2, 7, 9)
	told(t, "Swap(2, 7, 9)", m, x, e, 7, api.OK, 2, 0, 0, 9, 0)
	x, e = m.Bump(2, 9)
	told(t, "Bump(2, 9)", m, x, e, 9, api.ErrClock, 3, 0, 0, 9, 0)
}

// P1.3

func TestLooks(t *testing.T) {
	m, n := made(t, 4, 5, 6)
	for range 3 {
		if m.Len() != 3 || m.Count() != n {
			t.Errorf("Len %d, Count %d; want 3 and %d", m.Len(), m.Count(), n)
		}
		if l := m.Words(); !slices.Equal(l, []int{4, 5, 6}) {
			t.Errorf("Words %v", l)
		}
		if m.Copy() == nil {
			t.Error("Copy is nil")
		}
	}
}

func TestWordsAreNew(t *testing.T) {
	m, n := made(t, 4, 5, 6)
	l := m.Words()
	l[0], l[2] = 40, 60
	_ = append(l[:1], 50)
	told(t, "a list that was told was changed", m, 0, api.OK, 0, api.OK, n, 4, 5, 6)
	l = m.Words()
	m.Store(1, 9)
	m.Bump(0, 9)
	if !slices.Equal(l, []int{4, 5, 6}) {
		t.Errorf("a list that was told became %v", l)
	}
}

func TestCopyIsApart(t *testing.T) {
	m, n := made(t, 4, 5, 6)
	c := m.Copy()
	if c == m || c.Len() != 3 {
		t.Fatalf("Copy is the same: %v, or has %d words", c == m, c.Len())
	}
	told(t, "Copy", c, 0, api.OK, 0, api.OK, n, 4, 5, 6)
	c.Store(0, 40)
	c.Swap(1, 5, 50)
	c.Bump(2, 9)
	told(t, "the first one, behind accesses of the copy", m, 0, api.OK, 0, api.OK, n, 4, 5, 6)
	told(t, "the copy, behind accesses of its own", c, 0, api.OK, 0, api.OK, n+3, 40, 50, 7)
	m.Store(1, 8)
	told(t, "the copy, behind an access of the first one", c, 0, api.OK, 0, api.OK, n+3, 40, 50, 7)
	told(t, "the first one, behind its own", m, 0, api.OK, 0, api.OK, n+1, 4, 8, 6)
	d := c.Copy()
	told(t, "a copy of the copy", d, 0, api.OK, 0, api.OK, n+3, 40, 50, 7)
}

func TestCopyOfAFreshOne(t *testing.T) {
	m, _ := arena.New(2)
	c := m.Copy()
	told(t, "Copy", c, 0, api.OK, 0, api.OK, 0, 0, 0)
	x, e := c.Load(2)
	told(t, "Load behind its end", c, x, e, 0, api.ErrRange, 0, 0, 0)
}

func TestNil(t *testing.T) {
	var m *arena.Arena
	for _, a := range append([]int{0, 1, 3}, places...) {
		if x, e := m.Load(a); x != 0 || e != api.ErrNil {
			t.Errorf("Load(%d): %d, error %d", a, x, e)
		}
		if e := m.Store(a, 5); e != api.ErrNil {
			t.Errorf("Store(%d, 5): error %d", a, e)
		}
		if x, e := m.Swap(a, 0, 5); x != 0 || e != api.ErrNil {
			t.Errorf("Swap(%d, 0, 5): %d, error %d", a, x, e)
		}
		if x, e := m.Bump(a, 5); x != 0 || e != api.ErrNil {
			t.Errorf("Bump(%d, 5): %d, error %d", a, x, e)
		}
		if x, e := m.Bump(a, 0); x != 0 || e != api.ErrNil {
			t.Errorf("Bump(%d, 0): %d, error %d", a, x, e)
		}
	}
	if m.Len() != 0 || m.Count() != 0 || len(m.Words()) != 0 || m.Copy() != nil {
		t.Errorf("looks: %d, %d, %v, nil is %v", m.Len(), m.Count(), m.Words(), m.Copy() == nil)
	}
}

// P1.4

func TestOneWord(t *testing.T) {
	words := []int{3, 3, 3, 3, 3, 3}
	for a := range words {
		for _, c := range []struct {
			name string
			do   func(m *arena.Arena)
			then int
		}{
			{"Load", func(m *arena.Arena) { m.Load(a) }, 3},
			{"Store", func(m *arena.Arena) { m.Store(a, 8) }, 8},
			{"Swap", func(m *arena.Arena) { m.Swap(a, 3, 8) }, 8},
			{"Swap of another one", func(m *arena.Arena) { m.Swap(a, 4, 8) }, 3},
			{"Bump", func(m *arena.Arena) { m.Bump(a, 4) }, 4},
			{"Bump at its end", func(m *arena.Arena) { m.Bump(a, 3) }, 3},
		} {
			m, n := made(t, words...)
			c.do(m)
			want := slices.Clone(words)
			want[a] = c.then
			told(t, c.name, m, 0, api.OK, 0, api.OK, n+1, want...)
		}
	}
}

// row is numbers that are all over the place, and the same each time.
type row uint64

func (r *row) below(n int) int {
	*r = *r*6364136223846793005 + 1442695040888963407
	return int((uint64(*r) >> 33) % uint64(n))
}

// plain does an access of a list of words, as the promises say, and tells how many accesses that were.
func plain(l []int, kind, a, x, y int) (told int, e api.Errno, many int) {
	if a < 0 || a >= len(l) {
		return 0, api.ErrRange, 0
	}
	was := l[a]
	switch kind {
	case 0:
		return was, api.OK, 1
	case 1:
		l[a] = x
		return 0, api.OK, 1
	case 2:
		if was == x {
			l[a] = y
		}
		return was, api.OK, 1
	}
	if was >= x {
		return was, api.ErrClock, 1
	}
	l[a]++
	return l[a], api.OK, 1
}

// inArena does the same access of an arena.
func inArena(m *arena.Arena, kind, a, x, y int) (int, api.Errno) {
	switch kind {
	case 0:
		return m.Load(a)
	case 1:
		return 0, m.Store(a, x)
	case 2:
		return m.Swap(a, x, y)
	}
	return m.Bump(a, x)
}

func TestManyAccesses(t *testing.T) {
	var r row = 1
	for n := 1; n <= 9; n++ {
		m, _ := arena.New(n)
		l := make([]int, n)
		count := 0
		for range 3000 {
			kind, a, x, y := r.below(4), r.below(n+4)-2, r.below(7)-3, r.below(7)-3
			wantX, wantE, many := plain(l, kind, a, x, y)
			count += many
			gotX, gotE := inArena(m, kind, a, x, y)
			told(t, "an access of many", m, gotX, gotE, wantX, wantE, count, l...)
			if t.Failed() {
				t.Fatalf("of %d words, kind %d at %d by %d and %d", n, kind, a, x, y)
			}
		}
	}
}
