package vlock_test

import (
	"math"
	"testing"

	"assart/api"
	"assart/vlock"
)

// top is the greatest version there may be.
const top = 1 << 40

// around are numbers that edges are near of: of versions, workers and words, of 32 bits, and of all.
var around = []int{
	0, 63, 64, 127, 128, 256, 1 << 16, 1 << 20, 1 << 31, 1 << 32, 1 << 33, 1 << 39, top, 1 << 41, 1 << 42, 1 << 61, 1 << 62,
	-63, -64, -127, -128, -256, -1 << 31, -1 << 32, -1 << 39, -1 << 40, -1 << 41, -1 << 42, -1 << 61, -1 << 62,
}

// numbers are those from -300 to 300, those near of all edges, the least and the greatest ones, and some of all kinds.
func numbers() []int {
	var l []int
	for i := -300; i <= 300; i++ {
		l = append(l, i)
	}
	for i := range 140 {
		l = append(l, math.MinInt+i, math.MaxInt-i)
	}
	for _, a := range around {
		for i := -4; i <= 4; i++ {
			l = append(l, a+i)
		}
	}
	x := uint64(88172645463325252)
	for range 500 {
		x ^= x << 13
		x ^= x >> 7
		x ^= x << 17
		l = append(l, int(x), int(x>>22), int(x>>23), int(x>>24), int(x>>32), -int(x>>23))
	}
	return l
}

// versions are all numbers that may be a version, of those above.
func versions() []int {
	var l []int
	for _, n := range numbers() {
		if n >= 0 && n <= top {
			l = append(l, n)
		}
	}
	return l
}

// P5.1

func TestFree(t *testing.T) {
	for _, x := range [][2]int{
		{0, 0}, {1, 2}, {2, 4}, {3, 6}, {63, 126}, {64, 128}, {65, 130}, {1 << 31, 1 << 32}, {1<<31 - 1, 1<<32 - 2}, {1 << 32, 1 << 33}, {1 << 39, 1 << 40},
		{top - 1, 1<<41 - 2}, {top, 1 << 41}, {top + 1, -1}, {top + 2, -1}, {1 << 41, -1}, {1 << 62, -1}, {1<<62 + 1, -1}, {math.MaxInt - 1, -1}, {math.MaxInt, -1},
		{-1, -1}, {-2, -1}, {-top, -1}, {-1 << 62, -1}, {-1<<62 - 1, -1}, {math.MinInt, -1}, {math.MinInt + 1, -1}, {math.MinInt + 3, -1},
	} {
		if got := vlock.Free(x[0]); got != x[1] {
			t.Errorf("Free(%d): %d, want %d", x[0], got, x[1])
		}
	}
}

func TestHeld(t *testing.T) {
	for o := range 64 {
		if got := vlock.Held(o); got != o+o+1 {
			t.Errorf("Held(%d): %d", o, got)
		}
	}
	for _, x := range [][2]int{
		{0, 1}, {1, 3}, {3, 7}, {62, 125}, {63, 127}, {64, -1}, {65, -1}, {127, -1}, {128, -1}, {256, -1}, {1 << 32, -1}, {1<<32 + 1, -1}, {top, -1}, {1 << 62, -1}, {1<<63 - 1, -1}, {math.MaxInt - 1, -1},
		{-1, -1}, {-2, -1}, {-63, -1}, {-64, -1}, {-1 << 32, -1}, {-1 << 62, -1}, {-1<<62 - 1, -1}, {math.MinInt, -1}, {math.MinInt + 1, -1}, {math.MinInt + 63, -1},
	} {
		if got := vlock.Held(x[0]); got != x[1] {
			t.Errorf("Held(%d): %d, want %d", x[0], got, x[1])
		}
	}
}

func TestVersion(t *testing.T) {
	for _, x := range []struct {
		w, v int
		ok   bool
	}{
		{0, 0, true}, {2, 1, true}, {4, 2, true}, {6, 3, true}, {126, 63, true}, {128, 64, true}, {130, 65, true}, {1 << 32, 1 << 31, true}, {1<<41 - 2, top - 1, true}, {1 << 41, top, true},
		{1, 0, false}, {3, 0, false}, {7, 0, false}, {127, 0, false}, {129, 0, false}, {1<<32 + 1, 0, false}, {1<<41 - 1, 0, false}, {1<<41 + 1, 0, false}, {1<<41 + 2, 0, false}, {1<<41 + 4, 0, false}, {1 << 42, 0, false}, {1 << 62, 0, false},
		{-1, 0, false}, {-2, 0, false}, {-3, 0, false}, {-4, 0, false}, {-126, 0, false}, {-1 << 41, 0, false}, {-1 << 62, 0, false},
		{math.MaxInt, 0, false}, {math.MaxInt - 1, 0, false}, {math.MinInt, 0, false}, {math.MinInt + 1, 0, false}, {math.MinInt + 2, 0, false},
	} {
		if v, ok := vlock.Version(x.w); v != x.v || ok != x.ok {
			t.Errorf("Version(%d): %d, %t", x.w, v, ok)
		}
	}
}

func TestOwner(t *testing.T) {
	for _, x := range []struct {
		w, o int
		ok   bool
	}{
		{1, 0, true}, {3, 1, true}, {7, 3, true}, {125, 62, true}, {127, 63, true},
		{129, 0, false}, {131, 0, false}, {255, 0, false}, {257, 0, false}, {1<<32 + 1, 0, false}, {1<<32 + 127, 0, false}, {1<<41 - 1, 0, false}, {1<<41 + 1, 0, false}, {1<<62 + 1, 0, false},
		{0, 0, false}, {2, 0, false}, {6, 0, false}, {126, 0, false}, {128, 0, false}, {1 << 41, 0, false}, {1<<41 + 2, 0, false},
		{-1, 0, false}, {-2, 0, false}, {-3, 0, false}, {-125, 0, false}, {-127, 0, false}, {-129, 0, false}, {-1<<41 - 1, 0, false},
		{math.MaxInt, 0, false}, {math.MaxInt - 1, 0, false}, {math.MinInt, 0, false}, {math.MinInt + 1, 0, false}, {math.MinInt + 127, 0, false},
	} {
		if o, ok := vlock.Owner(x.w); o != x.o || ok != x.ok {
			t.Errorf("Owner(%d): %d, %t", x.w, o, ok)
		}
	}
}

func TestFresh(t *testing.T) {
	for _, x := range []struct {
		w, limit int
		want     bool
	}{
		{0, 0, true}, {0, 1, true}, {0, -1, false}, {0, math.MinInt, false}, {0, math.MaxInt, true}, {2, 0, false}, {2, 1, true}, {2, 2, true}, {2, -1, false},
		{6, 3, true}, {6, 2, false}, {6, 4, true}, {6, 0, false}, {6, -1, false}, {6, -3, false}, {6, math.MinInt, false}, {6, math.MaxInt, true}, {6, 6, true}, {128, 63, false}, {128, 64, true},
		{1 << 41, top, true}, {1 << 41, top - 1, false}, {1 << 41, top + 1, true}, {1 << 41, 1 << 41, true}, {1 << 41, math.MaxInt, true}, {1 << 41, -1, false}, {1<<41 - 2, top - 1, true}, {1<<41 - 2, top - 2, false},
		{1, 0, false}, {1, math.MaxInt, false}, {7, 3, false}, {7, 9, false}, {127, 63, false}, {127, math.MaxInt, false}, {129, math.MaxInt, false}, {1<<41 - 1, math.MaxInt, false}, {1<<41 + 1, math.MaxInt, false}, {1<<41 + 2, top + 1, false}, {1<<41 + 2, math.MaxInt, false}, {1 << 62, math.MaxInt, false},
		{-1, 0, false}, {-1, math.MaxInt, false}, {-2, 0, false}, {-2, -1, false}, {-2, math.MaxInt, false}, {-6, 3, false},
		{math.MaxInt, math.MaxInt, false}, {math.MaxInt - 1, math.MaxInt, false}, {math.MinInt, 0, false}, {math.MinInt, math.MinInt, false}, {math.MinInt, math.MaxInt, false}, {math.MinInt + 1, math.MaxInt, false},
	} {
		if got := vlock.Fresh(x.w, x.limit); got != x.want {
			t.Errorf("Fresh(%d, %d): %t", x.w, x.limit, got)
		}
	}
}

// TestLimits holds what the chapter says of them against the numbers of api.
func TestLimits(t *testing.T) {
	if api.MaxClock != top || api.MaxWorkers != 64 {
		t.Fatalf("MaxClock %d, MaxWorkers %d", api.MaxClock, api.MaxWorkers)
	}
	if vlock.Free(api.MaxClock) < 0 || vlock.Free(api.MaxClock+1) != -1 {
		t.Errorf("Free, of the last version and the next number: %d, %d", vlock.Free(api.MaxClock), vlock.Free(api.MaxClock+1))
	}
	if vlock.Held(api.MaxWorkers-1) < 0 || vlock.Held(api.MaxWorkers) != -1 {
		t.Errorf("Held, of the last worker and the next number: %d, %d", vlock.Held(api.MaxWorkers-1), vlock.Held(api.MaxWorkers))
	}
}

// P5.2

// TestThereAndBack holds words made of all numbers against what is told of them.
func TestThereAndBack(t *testing.T) {
	for _, n := range numbers() {
		w := vlock.Free(n)
		v, free := vlock.Version(w)
		if may := n >= 0 && n <= top; free != may || may != (w >= 0) || may && v != n || !may && w != -1 {
			t.Errorf("Free(%d): %d, of version %d, %t", n, w, v, free)
		}
		if _, held := vlock.Owner(w); held {
			t.Errorf("Free(%d): %d is held", n, w)
		}
		w = vlock.Held(n)
		o, held := vlock.Owner(w)
		if may := n >= 0 && n <= 63; held != may || may != (w >= 0) || may && o != n || !may && w != -1 {
			t.Errorf("Held(%d): %d, of worker %d, %t", n, w, o, held)
		}
		if _, free := vlock.Version(w); free {
			t.Errorf("Held(%d): %d is free", n, w)
		}
	}
}

// TestOneForm holds all words against what they are by the bits of a number: the lowest one tells free ones from held ones, the others tell of which.
func TestOneForm(t *testing.T) {
	for _, w := range numbers() {
		v, free := vlock.Version(w)
		o, held := vlock.Owner(w)
		rest := uint64(w) >> 1
		if want := w&1 == 0 && rest <= top; free != want || want && uint64(v) != rest || !want && v != 0 {
			t.Errorf("Version(%d): %d, %t", w, v, free)
		}
		if want := w&1 == 1 && rest < 64; held != want || want && uint64(o) != rest || !want && o != 0 {
			t.Errorf("Owner(%d): %d, %t", w, o, held)
		}
		if free && vlock.Free(v) != w || held && vlock.Held(o) != w || free && held {
			t.Errorf("%d: version %d, %t, owner %d, %t: not led back to", w, v, free, o, held)
		}
	}
}

// P5.3

func TestRising(t *testing.T) {
	all := versions()
	for _, a := range all {
		if a < top && vlock.Free(a) >= vlock.Free(a+1) {
			t.Errorf("Free(%d): %d, and of one more %d", a, vlock.Free(a), vlock.Free(a+1))
		}
		for _, b := range all {
			if a < b != (vlock.Free(a) < vlock.Free(b)) {
				t.Fatalf("Free(%d): %d, Free(%d): %d", a, vlock.Free(a), b, vlock.Free(b))
			}
		}
	}
}

func TestFreshStays(t *testing.T) {
	limits := numbers()
	for _, w := range []int{-2, -1, 0, 1, 2, 6, 7, 126, 127, 128, 129, 1 << 32, 1<<41 - 2, 1<<41 - 1, 1 << 41, 1<<41 + 1, 1<<41 + 2, math.MinInt, math.MaxInt} {
		v, free := vlock.Version(w)
		for _, limit := range limits {
			fresh := vlock.Fresh(w, limit)
			if fresh != (free && v <= limit) {
				t.Fatalf("Fresh(%d, %d): %t", w, limit, fresh)
			}
			if fresh && (!vlock.Fresh(w, max(limit, limit+1)) || !vlock.Fresh(w, math.MaxInt)) {
				t.Fatalf("Fresh(%d, %d), and not with a greater limit", w, limit)
			}
		}
		if free && (!vlock.Fresh(w, v) || vlock.Fresh(w, v-1)) {
			t.Errorf("Fresh(%d): %t at its version, %t below", w, vlock.Fresh(w, v), vlock.Fresh(w, v-1))
		}
	}
}

// The chapter's example.
func TestExample(t *testing.T) {
	if free, held := vlock.Free(3), vlock.Held(3); free != 6 || held != 7 {
		t.Errorf("Free(3), Held(3): %d, %d", free, held)
	}
	if a, b, c := vlock.Fresh(6, 3), vlock.Fresh(6, 2), vlock.Fresh(7, 9); !a || b || c {
		t.Errorf("Fresh(6, 3), Fresh(6, 2), Fresh(7, 9): %t, %t, %t", a, b, c)
	}
}
