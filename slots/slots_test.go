package slots_test

import (
	"math"
	"slices"
	"testing"

	"assart/slots"
)

// edges are words at the ends of all numbers, of the 32 bits, and of the upper 32, that are no bits.
var edges = []int{
	0, 1, 2, 3, 5, 10, 11, 1<<30 - 1, 1 << 30, 1<<31 - 2, 1<<31 - 1, 1 << 31, 1<<31 + 1, 3 << 30, 1<<32 - 2, 1<<32 - 1, 1<<32 - 1 - 1<<31, 1<<32 - 1 - 1<<16,
	1 << 32, 1<<32 + 1, 1<<33 - 1, 1<<33 - 1<<31, 5 << 32, 1 << 62, math.MaxInt - 1<<31, math.MaxInt - 1, math.MaxInt, math.MaxInt - 1<<32 + 1,
	-1, -2, -3, -12, -1<<31 + 1, -1 << 31, -1<<31 - 1, -1<<32 + 1, -1 << 32, -1<<32 - 1, math.MinInt + 1<<31, math.MinInt + 1, math.MinInt,
}

// beyond are numbers far from those of all bits.
var beyond = []int{math.MinInt, math.MinInt + 1, math.MinInt + 31, math.MinInt + 32, math.MinInt32, -1 << 32, -256, -224, 255, 256, 287, math.MaxInt32, 1 << 31, 1 << 32, 1<<32 + 3, 1<<62 + 1, math.MaxInt - 31, math.MaxInt - 1, math.MaxInt}

// words are the edges, and words of all kinds beside them.
func words() []int {
	l := slices.Clone(edges)
	for i := range 64 {
		l = append(l, 1<<i, ^(1 << i))
	}
	x := uint64(88172645463325252)
	for range 200 {
		x ^= x << 13
		x ^= x >> 7
		x ^= x << 17
		l = append(l, int(x), int(x>>32))
	}
	return l
}

// numbers are those from 80 below the first bit to 80 and more behind the last one, and far ones.
func numbers() []int {
	l := slices.Clone(beyond)
	for i := -80; i <= 120; i++ {
		l = append(l, i)
	}
	return l
}

// power tells 2^i, of i from 0 to 63.
func power(i int) uint64 {
	x := uint64(1)
	for range i {
		x *= 2
	}
	return x
}

// one reckons whether bit i is 1, as the chapter's words say.
func one(w, i int) bool {
	if i < 0 || i > 31 {
		return false
	}
	return uint64(w)/power(i)%2 == 1
}

// below tells the bits below n, as n is meant.
func below(n int) []int {
	var l []int
	for i := 0; i < 32 && i < n; i++ {
		l = append(l, i)
	}
	return l
}

func TestMost(t *testing.T) {
	if slots.Most != 32 {
		t.Errorf("Most: %d", slots.Most)
	}
}

// P4.1

func TestHas(t *testing.T) {
	for _, x := range []struct {
		w, i int
		want bool
	}{
		{0, 0, false}, {0, 31, false}, {1, 0, true}, {1, 1, false}, {2, 0, false}, {2, 1, true}, {11, 0, true}, {11, 1, true}, {11, 2, false}, {11, 3, true}, {11, 4, false},
		{1 << 31, 31, true}, {1 << 31, 30, false}, {1<<31 - 1, 31, false}, {1<<31 - 1, 30, true},
		{-1, 0, true}, {-1, 31, true}, {-2, 0, false}, {-2, 1, true}, {-2, 31, true}, {-12, 2, true}, {-12, 3, false}, {-1 << 31, 31, true}, {-1 << 31, 30, false},
		{math.MaxInt, 0, true}, {math.MaxInt, 31, true}, {math.MinInt, 0, false}, {math.MinInt, 31, false}, {math.MinInt + 1, 0, true}, {math.MinInt + 1, 1, false},
		{1 << 32, 0, false}, {1 << 32, 31, false}, {5<<32 + 4, 2, true}, {5<<32 + 4, 0, false}, {-1 << 32, 31, false}, {-1 << 32, 0, false},
		{-1, -1, false}, {-1, 32, false}, {-1, 33, false}, {-1, 63, false}, {-1, 64, false}, {-1, -32, false}, {-1, -64, false}, {1, -1, false}, {1, 32, false}, {1, 64, false}, {1 << 32, 32, false}, {1 << 62, 62, false},
		{math.MinInt, 63, false}, {-1, math.MaxInt, false}, {-1, math.MinInt, false},
	} {
		if got := slots.Has(x.w, x.i); got != x.want {
			t.Errorf("Has(%d, %d): %t", x.w, x.i, got)
		}
	}
}

func TestHasOfAll(t *testing.T) {
	for _, w := range words() {
		for _, i := range numbers() {
			if got := slots.Has(w, i); got != one(w, i) {
				t.Fatalf("Has(%d, %d): %t", w, i, got)
			}
		}
	}
}

func TestSetAndClear(t *testing.T) {
	for _, x := range []struct{ w, i, set, clear int }{
		{0, 0, 1, 0}, {0, 31, 1 << 31, 0}, {1, 0, 1, 0}, {1 << 31, 31, 1 << 31, 0}, {11, 2, 15, 11}, {11, 3, 11, 3}, {1<<32 - 1, 31, 1<<32 - 1, 1<<31 - 1}, {1<<31 - 1, 31, 1<<32 - 1, 1<<31 - 1},
		{-1, 0, -1, -2}, {-1, 31, -1, -1 - 1<<31}, {-2, 0, -1, -2}, {-12, 0, -11, -12}, {-12, 2, -12, -16}, {-1 << 31, 31, -1 << 31, -1 << 32}, {-1 << 32, 31, -1 << 31, -1 << 32},
		{math.MaxInt, 0, math.MaxInt, math.MaxInt - 1}, {math.MaxInt, 31, math.MaxInt, math.MaxInt - 1<<31}, {math.MaxInt - 1<<31, 31, math.MaxInt, math.MaxInt - 1<<31},
		{math.MinInt, 0, math.MinInt + 1, math.MinInt}, {math.MinInt, 31, math.MinInt + 1<<31, math.MinInt}, {math.MinInt + 1, 0, math.MinInt + 1, math.MinInt},
		{1 << 32, 0, 1<<32 + 1, 1 << 32}, {5<<32 + 4, 2, 5<<32 + 4, 5 << 32}, {5<<32 + 4, 31, 5<<32 + 4 + 1<<31, 5<<32 + 4},
	} {
		if got := slots.Set(x.w, x.i); got != x.set {
			t.Errorf("Set(%d, %d): %d, want %d", x.w, x.i, got, x.set)
		}
		if got := slots.Clear(x.w, x.i); got != x.clear {
			t.Errorf("Clear(%d, %d): %d, want %d", x.w, x.i, got, x.clear)
		}
	}
}

func TestSetAndClearOfNoBit(t *testing.T) {
	for _, i := range numbers() {
		if i >= 0 && i < 32 {
			continue
		}
		for _, w := range words() {
			if got := slots.Set(w, i); got != w {
				t.Fatalf("Set(%d, %d): %d", w, i, got)
			}
			if got := slots.Clear(w, i); got != w {
				t.Fatalf("Clear(%d, %d): %d", w, i, got)
			}
		}
	}
}

func TestFirst(t *testing.T) {
	for _, x := range [][3]int{
		{0, 32, 0}, {0, 1, 0}, {0, 0, -1}, {0, -1, -1}, {0, math.MinInt, -1}, {0, math.MaxInt, 0}, {1, 1, -1}, {1, 2, 1}, {2, 1, 0}, {11, 32, 2}, {11, 3, 2}, {11, 2, -1}, {11, 1, -1}, {11, math.MaxInt, 2},
		{1<<31 - 1, 31, -1}, {1<<31 - 1, 32, 31}, {1<<31 - 1, 33, 31}, {1<<30 - 1, 31, 30}, {1<<30 - 1, 30, -1}, {1<<32 - 1, 31, -1}, {1<<32 - 1, 32, -1}, {1<<32 - 1, 33, -1}, {1<<32 - 1, 64, -1}, {1<<32 - 1, math.MaxInt, -1}, {1<<31 - 1 + 1<<32, 32, 31},
		{-1, 32, -1}, {-1, 33, -1}, {-1, math.MaxInt, -1}, {-1, 0, -1}, {-1, -1, -1}, {-1, math.MinInt, -1}, {-2, 32, 0}, {-3, 32, 1}, {-12, 32, 0}, {-5, 32, 2}, {-1 - 1<<31, 32, 31}, {-1 - 1<<31, 31, -1},
		{math.MaxInt, 32, -1}, {math.MaxInt, 64, -1}, {math.MaxInt, math.MaxInt, -1}, {math.MaxInt - 1<<31, 32, 31}, {math.MinInt, 32, 0}, {math.MinInt, 1, 0}, {math.MinInt, 0, -1}, {math.MinInt + 1, 32, 1}, {1 << 32, 32, 0}, {-1 << 32, 32, 0},
	} {
		if got := slots.First(x[0], x[1]); got != x[2] {
			t.Errorf("First(%d, %d): %d, want %d", x[0], x[1], got, x[2])
		}
	}
}

func TestCount(t *testing.T) {
	for _, x := range [][3]int{
		{0, 32, 0}, {0, 0, 0}, {0, -1, 0}, {0, math.MaxInt, 0}, {1, 32, 1}, {1, 1, 1}, {1, 0, 0}, {1, -1, 0}, {2, 1, 0}, {2, 2, 1}, {11, 32, 3}, {11, 4, 3}, {11, 3, 2}, {11, 2, 2}, {11, 1, 1}, {11, 0, 0},
		{1 << 31, 32, 1}, {1 << 31, 31, 0}, {1 << 31, 33, 1}, {1<<32 - 1, 31, 31}, {1<<32 - 1, 32, 32},
		{-1, 31, 31}, {-1, 32, 32}, {-1, 33, 32}, {-1, 63, 32}, {-1, 64, 32}, {-1, 65, 32}, {-1, math.MaxInt, 32}, {-1, 1, 1}, {-1, 0, 0}, {-1, -1, 0}, {-1, -32, 0}, {-1, math.MinInt, 0}, {-2, 32, 31}, {-12, 32, 29},
		{math.MaxInt, 32, 32}, {math.MaxInt, 64, 32}, {math.MaxInt, math.MaxInt, 32}, {math.MinInt, 32, 0}, {math.MinInt, 64, 0}, {math.MinInt, math.MaxInt, 0}, {math.MinInt + 1, 64, 1},
		{1 << 32, 32, 0}, {1 << 32, 33, 0}, {1 << 32, 64, 0}, {-1 << 32, 64, 0}, {-1 << 31, 64, 1}, {5<<32 + 5, 64, 2},
	} {
		if got := slots.Count(x[0], x[1]); got != x[2] {
			t.Errorf("Count(%d, %d): %d, want %d", x[0], x[1], got, x[2])
		}
	}
}

func TestList(t *testing.T) {
	for _, x := range []struct {
		w, n int
		want []int
	}{
		{0, 32, nil}, {0, 0, nil}, {0, -1, nil}, {0, math.MaxInt, nil}, {1, 32, []int{0}}, {1, 1, []int{0}}, {1, 0, nil}, {1, -1, nil}, {2, 1, nil}, {2, 2, []int{1}},
		{11, 32, []int{0, 1, 3}}, {11, 4, []int{0, 1, 3}}, {11, 3, []int{0, 1}}, {1<<31 + 1, 32, []int{0, 31}}, {1<<31 + 1, 31, []int{0}}, {1<<31 + 1, 33, []int{0, 31}}, {3 << 30, 31, []int{30}},
		{-1, 32, below(32)}, {-1, 31, below(31)}, {-1, 33, below(32)}, {-1, 64, below(32)}, {-1, math.MaxInt, below(32)}, {-1, 0, nil}, {-1, -1, nil}, {-1, math.MinInt, nil}, {-2, 3, []int{1, 2}}, {-12, 5, []int{2, 4}},
		{math.MaxInt, 64, below(32)}, {math.MinInt, 64, nil}, {math.MinInt + 1, 64, []int{0}}, {1 << 32, 64, nil}, {1<<33 - 1<<31, 64, []int{31}}, {-1 << 32, math.MaxInt, nil}, {5<<32 + 6, 64, []int{1, 2}},
	} {
		if got := slots.List(x.w, x.n); !slices.Equal(got, x.want) {
			t.Errorf("List(%d, %d): %v, want %v", x.w, x.n, got, x.want)
		}
	}
}

// TestLooksOfAll holds First, Count and List against a look at each bit.
func TestLooksOfAll(t *testing.T) {
	for _, w := range words() {
		for _, n := range numbers() {
			first, ones := -1, []int(nil)
			for _, i := range below(n) {
				if one(w, i) {
					ones = append(ones, i)
				} else if first < 0 {
					first = i
				}
			}
			if got := slots.First(w, n); got != first {
				t.Fatalf("First(%d, %d): %d, want %d", w, n, got, first)
			}
			if got := slots.Count(w, n); got != len(ones) {
				t.Fatalf("Count(%d, %d): %d, want %d", w, n, got, len(ones))
			}
			if got := slots.List(w, n); !slices.Equal(got, ones) {
				t.Fatalf("List(%d, %d): %v, want %v", w, n, got, ones)
			}
		}
	}
}

// A list that was told is its asker's own: what is written there, or put on, is in no other one.
func TestListsApart(t *testing.T) {
	for _, w := range edges {
		a := slots.List(w, 32)
		b := slots.List(w, 32)
		want := slices.Clone(b)
		for i := range a {
			a[i] = -7
		}
		_ = append(a, -7)
		if c := slots.List(w, 32); !slices.Equal(b, want) || !slices.Equal(c, want) {
			t.Errorf("List(%d, 32): %v, and then %v, want %v", w, b, c, want)
		}
	}
}

// P4.2

// TestOneBit looks at all 64 bits of the number: those that are no bits of a word are another's, if they are anybody's, and stay as well.
func TestOneBit(t *testing.T) {
	for _, w := range words() {
		for i := range 32 {
			set, clear := slots.Set(w, i), slots.Clear(w, i)
			if !slots.Has(set, i) || slots.Has(clear, i) {
				t.Fatalf("bit %d of %d, set and cleared: %d, %d", i, w, set, clear)
			}
			for k := range 64 {
				was := uint64(w) / power(k) % 2
				if k != i && (uint64(set)/power(k)%2 != was || uint64(clear)/power(k)%2 != was) {
					t.Fatalf("bit %d of %d, set and cleared: %d, %d: bit %d is another", i, w, set, clear, k)
				}
			}
			if slots.Set(set, i) != set || slots.Clear(clear, i) != clear || slots.Set(clear, i) != set || slots.Clear(set, i) != clear {
				t.Fatalf("bit %d of %d, set and cleared again: not as at first", i, w)
			}
		}
	}
}

func TestSetIsHad(t *testing.T) {
	w := 0
	var had []int
	for k := range 32 {
		i := k * 13 % 32
		w = slots.Set(w, i)
		had = append(had, i)
		slices.Sort(had)
		if got := slots.List(w, 32); !slices.Equal(got, had) {
			t.Fatalf("set %v: List %v", had, got)
		}
	}
	for k := range 32 {
		i := k * 11 % 32
		w = slots.Clear(w, i)
		had = slices.DeleteFunc(had, func(x int) bool { return x == i })
		if got := slots.List(w, 32); !slices.Equal(got, had) {
			t.Fatalf("left set %v: List %v", had, got)
		}
	}
	if w != 0 {
		t.Errorf("all bits cleared: %d", w)
	}
}

// P4.3

func TestFirstIsSet(t *testing.T) {
	for _, w := range words() {
		for _, n := range numbers() {
			i := slots.First(w, n)
			if i < 0 {
				if i != -1 || slots.Count(w, n) != len(below(n)) {
					t.Fatalf("First(%d, %d): %d, with %d bits", w, n, i, slots.Count(w, n))
				}
				continue
			}
			if i >= n || i > 31 || slots.Has(w, i) || slots.Count(w, i) != i {
				t.Fatalf("First(%d, %d): %d", w, n, i)
			}
			if set := slots.Set(w, i); slots.Count(set, n) != slots.Count(w, n)+1 {
				t.Fatalf("Count of %d below %d: %d, and %d with bit %d", w, n, slots.Count(w, n), slots.Count(set, n), i)
			}
		}
	}
}

// TestFilled sets the first bit as long as there is one: what is left has all bits below n, and nothing else is changed.
func TestFilled(t *testing.T) {
	for _, w := range edges {
		for n := -1; n <= 34; n++ {
			got, want, last := w, w, -1
			for i := slots.First(got, n); i >= 0; i = slots.First(got, n) {
				if i <= last {
					t.Fatalf("First(%d, %d): %d, behind %d", got, n, i, last)
				}
				got, last = slots.Set(got, i), i
			}
			for _, i := range below(n) {
				want = int(uint64(want) | power(i))
			}
			if got != want {
				t.Fatalf("%d, filled below %d: %d, want %d", w, n, got, want)
			}
		}
	}
}

// The chapter's example.
func TestExample(t *testing.T) {
	if got := slots.First(11, 32); got != 2 {
		t.Errorf("First(11, 32): %d", got)
	}
	if got := slots.Count(11, 32); got != 3 {
		t.Errorf("Count(11, 32): %d", got)
	}
	if got := slots.List(11, 32); !slices.Equal(got, []int{0, 1, 3}) {
		t.Errorf("List(11, 32): %v", got)
	}
}
