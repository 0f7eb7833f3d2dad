package view_test

import (
	"math"
	"slices"
	"testing"

	"assart/api"
	"assart/view"
)

// program is what Run and Do are handed.
type program = func(v *view.View)

// below are addresses that no word has.
var below = []int{-1, -2, -128, math.MinInt32, math.MinInt + 1, math.MinInt}

// high are great addresses that a word may have.
var high = []int{1 << 20, 1<<31 - 1, 1 << 31, 1 << 32, 1 << 40, math.MaxInt - 1, math.MaxInt}

// pairs makes pairs of numbers that are an address and what stands there, in turn.
func pairs(l ...int) []api.Pair {
	var out []api.Pair
	for i := 0; i+1 < len(l); i += 2 {
		out = append(out, api.Pair{Addr: l[i], Val: l[i+1]})
	}
	return out
}

// reads is a program that reads addresses one by one, and keeps what it was told in the last run in got.
func reads(got *[]int, addrs ...int) program {
	return func(v *view.View) {
		*got = nil
		for _, a := range addrs {
			*got = append(*got, v.Read(a))
		}
	}
}

// writes is a program that writes these pairs one by one.
func writes(l ...int) program {
	return func(v *view.View) {
		for _, p := range pairs(l...) {
			v.Write(p.Addr, p.Val)
		}
	}
}

// needs holds a run against its end at an address: nothing is told of what it wrote.
func needs(t *testing.T, known []api.Pair, prog program, want int) {
	t.Helper()
	if a, l := view.Run(known, prog); a != want || len(l) != 0 {
		t.Errorf("Run with %v: needs %d, wrote %v; want %d", known, a, l, want)
	}
}

// done holds a run against what it should have written.
func done(t *testing.T, known []api.Pair, prog program, want ...int) {
	t.Helper()
	if a, l := view.Run(known, prog); a != -1 || !slices.Equal(l, pairs(want...)) {
		t.Errorf("Run with %v: needs %d, wrote %v; want %v", known, a, l, pairs(want...))
	}
}

// does holds a program over plain words against what should stand there, and what should have been needed.
func does(t *testing.T, words []int, prog program, want []int, needed ...int) {
	t.Helper()
	l, n, e := view.Do(words, prog)
	if e != api.OK || !slices.Equal(l, want) || !slices.Equal(n, pairs(needed...)) {
		t.Errorf("Do over %v: %v, needed %v, error %d; want %v, %v", words, l, n, e, want, pairs(needed...))
	}
}

// refused holds a program over plain words against ErrRange, and nothing.
func refused(t *testing.T, words []int, prog program) {
	t.Helper()
	if l, n, e := view.Do(words, prog); e != api.ErrRange || len(l) != 0 || len(n) != 0 {
		t.Errorf("Do over %v: %v, needed %v, error %d; want error %d", words, l, n, e, api.ErrRange)
	}
}

// dead holds a view that does not stand against what it may do: it reads 0, and does not end anything.
func dead(t *testing.T, name string, v *view.View) {
	t.Helper()
	for _, a := range append([]int{0, 1, 2, 3}, slices.Concat(below, high)...) {
		v.Write(a, 7)
		if x := v.Read(a); x != 0 {
			t.Errorf("%s: Read(%d) is %d", name, a, x)
		}
	}
}

// P7.1

func TestBelow(t *testing.T) {
	for _, a := range below {
		var got []int
		done(t, nil, reads(&got, a))
		if !slices.Equal(got, []int{0}) {
			t.Errorf("Read(%d): %v", a, got)
		}
		done(t, pairs(a, 7), reads(&got, a))
		if !slices.Equal(got, []int{0}) {
			t.Errorf("Read(%d), with 7 known of it: %v", a, got)
		}
		done(t, nil, writes(a, 7))
		done(t, nil, writes(3, 5, a, 7, 0, 6), 0, 6, 3, 5)
		done(t, nil, func(v *view.View) {
			v.Write(a, 7)
			v.Write(1, 10+v.Read(a))
		}, 1, 10)
		does(t, []int{4, 5}, writes(a, 7), []int{4, 5})
		does(t, []int{4, 5}, reads(&got, a), []int{4, 5})
	}
}

// TestRead reads what was written, what is known, and both.
func TestRead(t *testing.T) {
	for _, a := range append([]int{0, 1, 31}, high...) {
		var got []int
		keep := func(v *view.View) { got = append(got, v.Read(a)) }
		done(t, pairs(a, 8), keep)
		done(t, nil, func(v *view.View) {
			v.Write(a, 9)
			keep(v)
		}, a, 9)
		done(t, pairs(a, 8), func(v *view.View) {
			keep(v)
			v.Write(a, 9)
			keep(v)
			v.Write(a, -9)
			keep(v)
			keep(v)
		}, a, -9)
		if !slices.Equal(got, []int{8, 9, 8, 9, -9, -9}) {
			t.Errorf("what was read of %d: %v", a, got)
		}
	}
}

// TestReadZero reads zeros that were written, and that are known: they are no less there than other numbers.
func TestReadZero(t *testing.T) {
	var got []int
	done(t, pairs(0, 0, 1, 5), func(v *view.View) {
		reads(&got, 0)(v)
		v.Write(1, 0)
		v.Write(2, 0)
		got = append(got, v.Read(1), v.Read(2))
	}, 1, 0, 2, 0)
	if !slices.Equal(got, []int{0, 0, 0}) {
		t.Errorf("zeros: %v", got)
	}
}

// TestReadWords reads words of all sorts of numbers.
func TestReadWords(t *testing.T) {
	words := []int{0, 1, -1, 1 << 32, -1 << 32, math.MaxInt, math.MinInt}
	does(t, words, func(v *view.View) {
		for a := range words {
			v.Write(a, v.Read(len(words)-1-a))
		}
	}, []int{math.MinInt, math.MaxInt, -1 << 32, 1 << 32, -1 << 32, math.MaxInt, math.MinInt}, 6, math.MinInt, 5, math.MaxInt, 4, -1<<32, 3, 1<<32)
}

// TestNeeded ends runs at their first read of what is not known, and goes no step on.
func TestNeeded(t *testing.T) {
	for _, a := range append([]int{0, 1, 31}, high...) {
		steps := 0
		prog := func(v *view.View) {
			v.Write(5, 1)
			steps++
			v.Read(a)
			steps += 10
			v.Read(6)
			steps += 100
		}
		needs(t, nil, prog, a)
		if steps != 1 {
			t.Errorf("needs %d: went on to %d", a, steps)
		}
		needs(t, pairs(a, 2), prog, 6)
		if steps != 12 {
			t.Errorf("needs 6: went on to %d", steps)
		}
		done(t, pairs(a, 2, 6, 3), prog, 5, 1)
		if steps != 123 {
			t.Errorf("needs nothing: went on to %d", steps)
		}
	}
}

// TestNeededOnce reads an address several times: it is needed at the first one, and not at all behind a write.
func TestNeededOnce(t *testing.T) {
	words := []int{4, 5, 6}
	var got []int
	does(t, words, reads(&got, 1, 1, 0, 1, 0, 2, 2), words, 1, 5, 0, 4, 2, 6)
	if !slices.Equal(got, []int{5, 5, 4, 5, 4, 6, 6}) {
		t.Errorf("read several times: %v", got)
	}
	does(t, words, func(v *view.View) {
		v.Write(2, 9)
		v.Write(1, v.Read(2)+v.Read(0))
		v.Write(0, v.Read(1)+v.Read(2))
	}, []int{22, 13, 9}, 0, 4)
}

func TestWrite(t *testing.T) {
	done(t, nil, writes(3, 5), 3, 5)
	done(t, nil, writes(3, 5, 3, 6, 3, 7), 3, 7)
	done(t, nil, writes(9, 1, 2, 2, 5, 3, 2, 4, 9, 5, 0, 6), 0, 6, 2, 4, 5, 3, 9, 5)
	done(t, nil, writes(3, 5, 3, 0), 3, 0)
	done(t, pairs(3, 5), writes(3, 5), 3, 5)
	done(t, nil, writes(math.MaxInt, math.MinInt, 0, math.MaxInt, 1<<32, -1), 0, math.MaxInt, 1<<32, -1, math.MaxInt, math.MinInt)
	n := 300
	var falling, rising []int
	for i := range n {
		falling = append(falling, n-1-i, i)
		rising = append(rising, i, n-1-i)
	}
	done(t, nil, writes(falling...), rising...)
	done(t, nil, writes(rising...), rising...)
}

// TestOtherViews asks views that no run made, and such that theirs is over, in each way in which that may be.
func TestOtherViews(t *testing.T) {
	dead(t, "nil", nil)
	dead(t, "one that nothing made", &view.View{})
	var kept *view.View
	var twin view.View
	keep := func(v *view.View) {
		kept, twin = v, *v
		v.Write(1, 5)
		v.Read(2)
	}
	needs(t, pairs(3, 7), keep, 2)
	dead(t, "one that has needed", kept)
	dead(t, "a copy of one that has needed", &twin)
	done(t, pairs(2, 6, 3, 7), keep, 1, 5)
	dead(t, "one that is done", kept)
	dead(t, "a copy of one that is done", &twin)
	does(t, []int{0, 1, 2}, keep, []int{0, 5, 2}, 2, 2)
	dead(t, "one of Do", kept)
	done(t, pairs(2, 6), func(v *view.View) {
		dead(t, "one of another run", kept)
		v.Write(0, v.Read(2))
	}, 0, 6)
}

// TestOlderView keeps a view through a later run: neither does anything to the other one.
func TestOlderView(t *testing.T) {
	var older *view.View
	done(t, nil, func(v *view.View) {
		older = v
		v.Write(1, 5)
	}, 1, 5)
	needs(t, nil, func(v *view.View) {
		older.Write(2, 8)
		older.Read(3)
		v.Read(2)
	}, 2)
	done(t, nil, func(v *view.View) {
		older.Write(2, 8)
		v.Write(4, older.Read(2))
	}, 4, 0)
}

// TestDeferred lets programs read and write in what they defer: behind the run's end that counts for nothing, else it does.
func TestDeferred(t *testing.T) {
	var got []int
	prog := func(v *view.View) {
		defer func() {
			got = append(got, v.Read(7), v.Read(8))
			v.Write(9, 1)
			got = append(got, v.Read(9))
		}()
		v.Write(9, 4)
		v.Read(6)
	}
	needs(t, pairs(7, 70), prog, 6)
	if !slices.Equal(got, []int{0, 0, 0}) {
		t.Errorf("read behind the end: %v", got)
	}
	got = nil
	needs(t, pairs(6, 60, 7, 70), prog, 8)
	if len(got) != 0 {
		t.Errorf("read of what is deferred, which needs: %v", got)
	}
	done(t, pairs(6, 60, 7, 70, 8, 80), prog, 9, 1)
	if !slices.Equal(got, []int{70, 80, 1}) {
		t.Errorf("read of what is deferred: %v", got)
	}
	does(t, []int{0, 0, 0, 0, 0, 0, 16, 17, 18, 19}, prog, []int{0, 0, 0, 0, 0, 0, 16, 17, 18, 1}, 6, 16, 7, 17, 8, 18)
}

// TestRecovered lets programs catch what ends their run: it has ended all the same.
func TestRecovered(t *testing.T) {
	prog := func(v *view.View) {
		func() {
			defer func() { _ = recover() }()
			v.Write(1, 5)
			v.Read(3)
			v.Write(2, 6)
		}()
		v.Read(4)
		v.Write(0, 7)
	}
	needs(t, nil, prog, 3)
	needs(t, pairs(3, 0), prog, 4)
	done(t, pairs(3, 0, 4, 0), prog, 0, 7, 1, 5, 2, 6)
	needs(t, nil, func(v *view.View) {
		defer func() {
			_ = recover()
			panic("behind the end")
		}()
		v.Read(3)
	}, 3)
}

// P7.2

func TestNoProgram(t *testing.T) {
	for _, known := range [][]api.Pair{nil, {}, pairs(1, 2), pairs(-1, 2, 1, 2, 1, 3)} {
		done(t, known, nil)
	}
	for _, words := range [][]int{nil, {}, {7}, {7, 8, 9}} {
		does(t, words, nil, words)
	}
}

// TestNothing runs programs that write nothing, and such that read nothing.
func TestNothing(t *testing.T) {
	var got []int
	for _, known := range [][]api.Pair{nil, {}, pairs(1, 2)} {
		done(t, known, func(*view.View) {})
		done(t, known, reads(&got, -1))
		done(t, known, writes(1, 3, 0, 4), 0, 4, 1, 3)
	}
	done(t, pairs(1, 2), reads(&got, 1, 1))
}

// TestFirstPair knows several pairs of an address: the first one stands.
func TestFirstPair(t *testing.T) {
	var got []int
	known := pairs(5, 1, 3, 2, 5, 3, 0, 4, 3, 5, 5, 6, -1, 7, 0, 4, 9, 8, 9, 0)
	done(t, known, reads(&got, 0, 3, 5, 9))
	if !slices.Equal(got, []int{4, 2, 1, 8}) {
		t.Errorf("of several pairs: %v", got)
	}
	done(t, pairs(5, 0, 5, 1), reads(&got, 5))
	if !slices.Equal(got, []int{0}) {
		t.Errorf("a first pair of 0: %v", got)
	}
	needs(t, known, reads(&got, 3, 4), 4)
	done(t, known, func(v *view.View) {
		v.Write(5, v.Read(5)+10)
		v.Write(3, v.Read(5))
	}, 3, 11, 5, 11)
}

// TestKnownOrder knows addresses in each order.
func TestKnownOrder(t *testing.T) {
	known := pairs(0, 10, 7, 17, 2, 12, 1<<40, 14)
	for i := range known {
		l := slices.Concat(known[i:], known[:i])
		for range 2 {
			slices.Reverse(l)
			var got []int
			done(t, l, reads(&got, 2, 1<<40, 0, 7))
			if !slices.Equal(got, []int{12, 14, 10, 17}) {
				t.Errorf("with %v: %v", l, got)
			}
		}
	}
}

// TestRunApart changes what was told, and what was known: nothing of one run is another one's.
func TestRunApart(t *testing.T) {
	room := append(pairs(1, 7, 1, 8, 4, 9), pairs(0, 50, 0, 51)...)
	known, was := room[:3], slices.Clone(room)
	prog := func(v *view.View) {
		v.Write(2, v.Read(1))
		v.Write(1, 3)
		v.Write(0, v.Read(4))
	}
	_, a := view.Run(known, prog)
	_, b := view.Run(known, prog)
	if !slices.Equal(room, was) {
		t.Errorf("the pairs that were handed in: %v", room)
	}
	want := pairs(0, 9, 1, 3, 2, 7)
	a[0], a[2] = api.Pair{}, api.Pair{}
	_ = append(a[:1], pairs(5, 5, 5, 5, 5, 5)...)
	if !slices.Equal(b, want) || !slices.Equal(room, was) {
		t.Errorf("another run's answer: %v; what is known: %v", b, room)
	}
	known[0].Val = 70
	if !slices.Equal(b, want) {
		t.Errorf("an answer, when what was known is another: %v", b)
	}
	done(t, known, prog, 0, 9, 1, 3, 2, 70)
}

// TestKnownChanged changes the pairs while the program runs: it knows what it knew when it began.
func TestKnownChanged(t *testing.T) {
	known := pairs(1, 7, 2, 8)
	done(t, known, func(v *view.View) {
		known[0], known[1] = api.Pair{Addr: 5, Val: 5}, api.Pair{Addr: 1, Val: 9}
		v.Write(0, v.Read(1)*10+v.Read(2))
	}, 0, 78)
}

// TestWithin runs programs in programs, each by its own view, and by the other one's.
func TestWithin(t *testing.T) {
	steps := 0
	outer := func(v *view.View) {
		steps = 0
		words, needed, e := view.Do([]int{3, 4}, func(w *view.View) {
			w.Write(0, w.Read(1)+v.Read(5))
			v.Write(6, w.Read(0))
		})
		steps++
		v.Write(7, words[0]+len(needed)+int(e))
	}
	needs(t, nil, outer, 5)
	if steps != 0 {
		t.Error("the outer run went on behind its end")
	}
	done(t, pairs(5, 20), outer, 6, 24, 7, 25)
	done(t, nil, func(v *view.View) {
		v.Write(1, 2)
		a, _ := view.Run(nil, func(w *view.View) { w.Read(v.Read(1)) })
		v.Write(0, a)
	}, 0, 2, 1, 2)
	needs(t, nil, func(v *view.View) {
		view.Run(nil, func(w *view.View) {
			defer v.Read(8)
			w.Read(9)
		})
		v.Read(7)
	}, 8)
}

// TestPanics runs functions that panic by themselves, which no program does: Run and Do end, and tell nothing of what those did.
func TestPanics(t *testing.T) {
	bad := func(v *view.View) {
		v.Write(1, 5)
		if v.Read(0) == 3 {
			panic("by itself")
		}
	}
	done(t, pairs(0, 3), bad)
	done(t, pairs(0, 4), bad, 1, 5)
	needs(t, nil, bad, 0)
	does(t, []int{3, 7}, bad, []int{3, 7}, 0, 3)
	done(t, nil, func(v *view.View) {
		view.Run(nil, func(*view.View) { panic(1) })
		v.Write(0, 1)
	}, 0, 1)
}

// P7.3

func TestDo(t *testing.T) {
	move := func(v *view.View) { v.Write(2, v.Read(1)) }
	does(t, []int{5, 6, 7}, move, []int{5, 6, 6}, 1, 6)
	swap := func(v *view.View) {
		x, y := v.Read(2), v.Read(0)
		v.Write(0, x)
		v.Write(2, y)
	}
	does(t, []int{5, 6, 7}, swap, []int{7, 6, 5}, 2, 7, 0, 5)
	chase := func(v *view.View) {
		a := 0
		for range 4 {
			a = v.Read(a)
		}
		v.Write(a, -1)
	}
	does(t, []int{3, 4, 1, 2, 9}, chase, []int{3, 4, 1, 2, -1}, 0, 3, 3, 2, 2, 1, 1, 4)
}

// TestDoSmall goes over no words, and over one.
func TestDoSmall(t *testing.T) {
	var got []int
	for _, words := range [][]int{nil, {}} {
		does(t, words, func(*view.View) {}, nil)
		does(t, words, reads(&got, -1), nil)
		does(t, words, writes(-1, 5), nil)
		refused(t, words, reads(&got, 0))
		refused(t, words, writes(0, 0))
	}
	does(t, []int{7}, func(*view.View) {}, []int{7})
	does(t, []int{7}, reads(&got, 0, -1, 0), []int{7}, 0, 7)
	does(t, []int{7}, writes(0, 8), []int{8})
	does(t, []int{7}, func(v *view.View) { v.Write(0, v.Read(0)*2) }, []int{14}, 0, 7)
	refused(t, []int{7}, reads(&got, 1))
	refused(t, []int{7}, writes(1, 8))
}

// TestDoRange needs, and writes, addresses beyond the words, at first and behind others.
func TestDoRange(t *testing.T) {
	words := []int{4, 5, 6}
	var got []int
	for _, a := range append([]int{3, 4}, high...) {
		refused(t, words, reads(&got, a))
		refused(t, words, reads(&got, 0, 2, a))
		refused(t, words, reads(&got, a, 0))
		refused(t, words, writes(a, 0))
		refused(t, words, writes(0, 1, a, 0, 2, 3))
		refused(t, words, func(v *view.View) {
			v.Write(1, v.Read(0))
			v.Write(a, v.Read(2))
		})
		refused(t, words, func(v *view.View) {
			v.Write(a, 1)
			v.Write(0, v.Read(a))
		})
		refused(t, words, func(v *view.View) {
			v.Write(a, 1)
			v.Read(a - 4 + v.Read(0))
		})
	}
	does(t, words, func(v *view.View) { v.Write(2, v.Read(2)+1) }, []int{4, 5, 7}, 2, 6)
	if !slices.Equal(words, []int{4, 5, 6}) {
		t.Errorf("the words that were handed in: %v", words)
	}
}

// TestDoNeeded tells what stood there at first, whatever the program wrote there later.
func TestDoNeeded(t *testing.T) {
	does(t, []int{1, 2, 3}, func(v *view.View) {
		for a := range 3 {
			v.Write(a, v.Read(a)+10)
			v.Write(a, v.Read(a)+100)
		}
	}, []int{111, 112, 113}, 0, 1, 1, 2, 2, 3)
}

// TestDoApart changes what was told, and what was handed in: neither is the other.
func TestDoApart(t *testing.T) {
	room := []int{4, 5, 6, 7, 8}
	words := room[:3]
	prog := func(v *view.View) { v.Write(0, v.Read(2)+v.Read(1)) }
	a, n, _ := view.Do(words, prog)
	if !slices.Equal(room, []int{4, 5, 6, 7, 8}) {
		t.Errorf("the words that were handed in: %v", room)
	}
	words[1], words[2] = 50, 60
	if !slices.Equal(a, []int{11, 5, 6}) || !slices.Equal(n, pairs(2, 6, 1, 5)) {
		t.Errorf("an answer, when the words are others: %v, %v", a, n)
	}
	a[0], a[1], a[2], n[0] = 0, 0, 0, api.Pair{}
	_ = append(a, 1, 2)
	if !slices.Equal(room, []int{4, 50, 60, 7, 8}) {
		t.Errorf("the words, when the answer is another: %v", room)
	}
	b, _, _ := view.Do(words, func(*view.View) {})
	b[0] = 9
	if words[0] != 4 {
		t.Error("the answer of a program that writes nothing is the words that were handed in")
	}
}

// TestDoRuns counts runs: one for each word that is needed, and one.
func TestDoRuns(t *testing.T) {
	for n := range 20 {
		runs := 0
		view.Do(make([]int, 20), func(v *view.View) {
			runs++
			for a := range n {
				v.Read(a)
				v.Read(a)
			}
		})
		if runs != n+1 {
			t.Errorf("%d words needed in %d runs", n, runs)
		}
	}
}

// TestDoMany goes over as many words as a great arena has in its parts ahead of user words.
func TestDoMany(t *testing.T) {
	const n = 1500
	words := make([]int, n)
	for a := range words {
		words[a] = a * 7
	}
	l, needed, e := view.Do(words, func(v *view.View) {
		sum := 0
		for a := n - 1; a >= 0; a-- {
			sum += v.Read(a)
			v.Write(a, sum)
		}
	})
	if e != api.OK || len(needed) != n || len(l) != n {
		t.Fatalf("error %d, %d needed", e, len(needed))
	}
	sum := 0
	for a := n - 1; a >= 0; a-- {
		sum += words[a]
		if l[a] != sum || needed[n-1-a] != (api.Pair{Addr: a, Val: words[a]}) {
			t.Fatalf("word %d: %d, needed %v", a, l[a], needed[n-1-a])
		}
	}
}

// P7.4

// memory is what a program can do: by a view, or by plain words.
type memory interface {
	Read(a int) int
	Write(a, x int)
}

// plain is words that are read and written at once, with what was read of them ahead of any write.
type plain struct {
	words, first []int
	known        map[int]bool
	needed       []api.Pair
	beyond       bool
}

func (p *plain) Read(a int) int {
	if a < 0 {
		return 0
	}
	if a >= len(p.words) {
		p.beyond = true
		return 0
	}
	if !p.known[a] {
		p.known[a] = true
		p.needed = append(p.needed, api.Pair{Addr: a, Val: p.first[a]})
	}
	return p.words[a]
}

func (p *plain) Write(a, x int) {
	if a >= len(p.words) {
		p.beyond = true
	} else if a >= 0 {
		p.known[a] = true
		p.words[a] = x
	}
}

// made is a program of made numbers: what it does next hangs on what it has read. Some of its addresses are below 0, and, if wide, some are none of n words.
func made(seed uint64, n int, wide bool) func(m memory) {
	return func(m memory) {
		x := seed*2862933555777941757 + 3037000493
		for range 4 + seed%24 {
			x ^= x << 13
			x ^= x >> 7
			x ^= x << 17
			a := int(x>>20%uint64(n+1)) - 1
			if wide && x>>50%32 == 0 {
				a += n
			}
			if x>>8%3 == 0 {
				m.Write(a, int(x>>40)-1<<22)
			} else {
				x += uint64(m.Read(a)) * 0x9E3779B97F4A7C15
			}
		}
	}
}

// inRow does a program by Runs, each with one pair more, and tells what they needed, and what was written; false, if one needs what is none of the words. Each run is made again with the same known in another order, and with pairs that are not read.
func inRow(t *testing.T, words []int, prog program) ([]api.Pair, []api.Pair, bool) {
	t.Helper()
	var known []api.Pair
	for {
		a, l := view.Run(known, prog)
		more := slices.Clone(known)
		slices.Reverse(more)
		more = append(more, known...)
		for _, b := range []int{len(words) + 1000, math.MaxInt, -1, math.MinInt} {
			more = append(more, api.Pair{Addr: b, Val: 7}, api.Pair{Addr: b, Val: 8})
		}
		for _, k := range [][]api.Pair{known, more} {
			if b, m := view.Run(k, prog); b != a || !slices.Equal(l, m) {
				t.Fatalf("again with %v: needs %d, wrote %v; at first %d, %v", k, b, m, a, l)
			}
		}
		if a < 0 {
			return known, l, true
		}
		if slices.ContainsFunc(known, func(p api.Pair) bool { return p.Addr == a }) {
			t.Fatalf("needs %d, with %v", a, known)
		}
		if a >= len(words) {
			return nil, nil, false
		}
		known = append(known, api.Pair{Addr: a, Val: words[a]})
	}
}

// TestInRow holds what Do does in a row against Runs one by one, and both against plain words.
func TestInRow(t *testing.T) {
	beyond := 0
	for seed := range uint64(3000) {
		n := 1 + int(seed%13)
		words := make([]int, n)
		for a := range words {
			words[a] = int(seed)*31 + a*a*17 - 400
		}
		body := made(seed, n, seed%2 == 0)
		prog := func(v *view.View) { body(v) }
		p := &plain{words: slices.Clone(words), first: words, known: map[int]bool{}}
		body(p)
		l, needed, e := view.Do(words, prog)
		known, wrote, ok := inRow(t, words, prog)
		if p.beyond {
			beyond++
			refused(t, words, prog)
			continue
		}
		if e != api.OK || !slices.Equal(l, p.words) || !slices.Equal(needed, p.needed) {
			t.Fatalf("seed %d: Do: %v, %v, error %d; plain: %v, %v", seed, l, needed, e, p.words, p.needed)
		}
		after := slices.Clone(words)
		for _, q := range wrote {
			after[q.Addr] = q.Val
		}
		rising := slices.IsSortedFunc(wrote, func(a, b api.Pair) int { return a.Addr - b.Addr })
		if !ok || !rising || !slices.Equal(known, needed) || !slices.Equal(after, l) {
			t.Fatalf("seed %d: Runs: %v, %v; Do: %v, %v", seed, known, wrote, needed, l)
		}
	}
	if beyond < 100 || beyond > 1400 {
		t.Errorf("%d of 3000 programs go beyond their words", beyond)
	}
}

// TestUnread knows what a program does not read, and more and more of it: that does not matter.
func TestUnread(t *testing.T) {
	prog := func(v *view.View) { v.Write(4, v.Read(2)+v.Read(3)) }
	var known []api.Pair
	for a := range 50 {
		known = append(known, api.Pair{Addr: a*1000 + 5, Val: a}, api.Pair{Addr: 4, Val: a})
		needs(t, known, prog, 2)
		needs(t, append(slices.Clone(known), pairs(2, 10)...), prog, 3)
		needs(t, append(pairs(3, 20), known...), prog, 2)
		done(t, slices.Concat(pairs(3, 20), known, pairs(2, 10)), prog, 4, 30)
	}
}

// The chapter's example.
func TestExample(t *testing.T) {
	prog := func(v *view.View) { v.Write(2, v.Read(1)) }
	needs(t, nil, prog, 1)
	done(t, pairs(1, 7), prog, 2, 7)
}
