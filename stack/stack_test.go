package stack_test

import (
	"math"
	"slices"
	"testing"

	"assart/api"
	"assart/stack"
	"assart/view"
)

// odd are numbers at which numbers are greatest, least, or no addresses; some of them wrap round when something is added or taken away.
var odd = []int{math.MinInt, math.MinInt + 1, math.MinInt + 2, math.MinInt32, -1 << 20, -17, -3, -2, -1, 0, 1, 1 << 20, 1 << 31, 1 << 32, 1 << 40, 1 << 62, math.MaxInt - 2, math.MaxInt - 1, math.MaxInt}

// below are numbers below 0.
var below = odd[:9]

// place is where a stack stands.
type place struct{ base, limit int }

// has tells whether a word is the stack's own.
func (s place) has(a int) bool { return a >= s.base && a <= s.base+s.limit }

// things tells so many things, none of which is like another one, or like a word that is none.
func things(n int) []int {
	var l []int
	for i := range n {
		l = append(l, 501+7*i)
	}
	return l
}

// filled tells words that are numbers of no thing, and no count.
func filled(n int) []int {
	var words []int
	for a := range n {
		words = append(words, 9000+a)
	}
	return words
}

// lay lets words say that the stack has these things. Its other words stay as they are.
func (s place) lay(words []int, kept []int) []int {
	words = slices.Clone(words)
	words[s.base] = len(kept)
	copy(words[s.base+1:], kept)
	return words
}

// told tells what the words say that the stack has.
func (s place) told(words []int) []int {
	n := words[s.base]
	if n < 0 || n > s.limit {
		n = 0
	}
	return words[s.base+1 : s.base+1+n]
}

// known tells the stack's own words, as pairs, so that a program that needs another one ends there.
func (s place) known(words []int) []api.Pair {
	var pairs []api.Pair
	for a, x := range words {
		if s.has(a) {
			pairs = append(pairs, api.Pair{Addr: a, Val: x})
		}
	}
	return pairs
}

// does does a program that needs and writes no words but the stack's own, and tells all words behind it.
func (s place) does(t *testing.T, words []int, prog func(v *view.View)) []int {
	t.Helper()
	need, wrote := view.Run(s.known(words), prog)
	if need != -1 {
		t.Errorf("at %d with the limit %d: needs the word %d", s.base, s.limit, need)
	}
	words = slices.Clone(words)
	for _, x := range wrote {
		if !s.has(x.Addr) {
			t.Errorf("at %d with the limit %d: writes the word %d", s.base, s.limit, x.Addr)
			continue
		}
		words[x.Addr] = x.Val
	}
	return words
}

// stands holds a stack's words against the things that it is to have. Words behind those are nobody's business.
func (s place) stands(t *testing.T, what string, words, want []int) {
	t.Helper()
	if got := s.told(words); words[s.base] != len(want) || !slices.Equal(got, want) {
		t.Errorf("%s, at %d with the limit %d: the count is %d, the things are %v, want %v", what, s.base, s.limit, words[s.base], got, want)
	}
}

// looks holds Len and All against the things that there are; neither writes anything.
func (s place) looks(t *testing.T, words, want []int) {
	t.Helper()
	out := s.does(t, words, func(v *view.View) { s.asks(t, v, want) })
	if !slices.Equal(out, words) {
		t.Errorf("at %d with the limit %d: Len and All have written", s.base, s.limit)
	}
}

// asks holds Len and All by a view against the things that there are.
func (s place) asks(t *testing.T, v *view.View, want []int) {
	t.Helper()
	if n := stack.Len(v, s.base, s.limit); n != len(want) {
		t.Errorf("at %d with the limit %d: Len is %d, want %d", s.base, s.limit, n, len(want))
	}
	if got := stack.All(v, s.base, s.limit); !slices.Equal(got, want) {
		t.Errorf("at %d with the limit %d: All is %v, want %v", s.base, s.limit, got, want)
	}
}

// pushes holds Push of x, by words that say that the stack has these things, against what it is to do, and tells the words behind it.
func (s place) pushes(t *testing.T, words, kept []int, x int) []int {
	t.Helper()
	want := len(kept) < s.limit
	out := s.does(t, words, func(v *view.View) {
		if stack.Push(v, s.base, s.limit, x) != want {
			t.Errorf("at %d with the limit %d, with %v: Push(%d) is not %t", s.base, s.limit, kept, x, want)
		}
	})
	if !want {
		if !slices.Equal(out, words) {
			t.Errorf("at %d with the limit %d, with %v: Push(%d) that is refused has written", s.base, s.limit, kept, x)
		}
		return out
	}
	s.stands(t, "Push", out, append(slices.Clone(kept), x))
	return out
}

// pops holds Pop likewise.
func (s place) pops(t *testing.T, words, kept []int) []int {
	t.Helper()
	x, ok := 0, len(kept) > 0
	if ok {
		x = kept[len(kept)-1]
	}
	out := s.does(t, words, func(v *view.View) {
		if y, k := stack.Pop(v, s.base, s.limit); y != x || k != ok {
			t.Errorf("at %d with the limit %d, with %v: Pop is %d, %t", s.base, s.limit, kept, y, k)
		}
	})
	if !ok {
		if !slices.Equal(out, words) {
			t.Errorf("at %d with the limit %d: Pop of none has written", s.base, s.limit)
		}
		return out
	}
	s.stands(t, "Pop", out, kept[:len(kept)-1])
	return out
}

// blind runs a program that knows nothing, and holds it against needing and writing nothing.
func blind(t *testing.T, what string, prog func(v *view.View)) {
	t.Helper()
	if need, wrote := view.Run(nil, prog); need != -1 || len(wrote) != 0 {
		t.Errorf("%s: needs %d, wrote %v", what, need, wrote)
	}
}

// each calls f with stacks of several bases and limits, and with each number of things that they may have, in words that go on behind them.
func each(f func(s place, words, kept []int)) {
	for _, base := range []int{1, 2, 3, 7, 31, 128} {
		for _, limit := range []int{0, 1, 2, 3, 8, 16} {
			s := place{base, limit}
			for n := range limit + 1 {
				kept := things(n)
				f(s, s.lay(filled(base+limit+5), kept), kept)
			}
		}
	}
}

// wrong calls f with stacks whose count may not be: below 0, or above the limit.
func wrong(f func(s place, words []int)) {
	for _, base := range []int{1, 2, 9} {
		for _, limit := range []int{0, 1, 2, 5} {
			s := place{base, limit}
			for _, n := range append([]int{limit + 1, limit + 2, 2*limit + 1, 100}, odd...) {
				if n < 0 || n > limit {
					words := filled(base + limit + 5)
					words[base] = n
					f(s, words)
				}
			}
		}
	}
}

// P12.1

// TestLooks asks stacks of none, of some, and of as many as the limit.
func TestLooks(t *testing.T) {
	each(func(s place, words, kept []int) { s.looks(t, words, kept) })
}

// TestLooksWrong asks stacks whose count may not be: there are none.
func TestLooksWrong(t *testing.T) {
	wrong(func(s place, words []int) { s.looks(t, words, nil) })
}

// TestPush pushes where there is room for several more, for one more, and for none.
func TestPush(t *testing.T) {
	each(func(s place, words, kept []int) { s.pushes(t, words, kept, 77) })
}

// TestPushFull pushes up to the limit, and twice beyond.
func TestPushFull(t *testing.T) {
	for _, limit := range []int{0, 1, 2, 8, 16, 100} {
		s := place{3, limit}
		var kept []int
		words := s.lay(filled(limit+9), kept)
		for i := range limit + 2 {
			words = s.pushes(t, words, kept, -i)
			if i < limit {
				kept = append(kept, -i)
			}
			s.looks(t, words, kept)
		}
	}
}

// TestPushWrong pushes behind a count that may not be: the thing is the only one. With the limit 0 it is refused.
func TestPushWrong(t *testing.T) {
	wrong(func(s place, words []int) {
		out := s.pushes(t, words, nil, 6)
		if s.limit == 0 {
			s.looks(t, out, nil)
			return
		}
		s.looks(t, out, []int{6})
		s.pops(t, out, []int{6})
	})
}

// TestPop pops of none, of one, of several.
func TestPop(t *testing.T) {
	each(func(s place, words, kept []int) { s.pops(t, words, kept) })
}

// TestPopWrong pops where the count may not be: there is none, and the count stays.
func TestPopWrong(t *testing.T) {
	wrong(func(s place, words []int) { s.pops(t, s.pops(t, words, nil), nil) })
}

// TestPopPush pushes behind Pop, once and twice, where there are as many as the limit or fewer.
func TestPopPush(t *testing.T) {
	each(func(s place, words, kept []int) {
		words = s.pops(t, words, kept)
		rest := kept[:max(0, len(kept)-1)]
		words = s.pushes(t, words, rest, 13)
		if len(rest) == s.limit {
			return
		}
		rest = append(slices.Clone(rest), 13)
		s.looks(t, words, rest)
		words = s.pushes(t, words, rest, 14)
		if len(rest) < s.limit {
			rest = append(rest, 14)
		}
		s.looks(t, words, rest)
		s.pops(t, words, rest)
	})
}

// TestNumbers keeps things of any number, twice the same ones too.
func TestNumbers(t *testing.T) {
	kept := append(slices.Clone(odd), odd...)
	s := place{5, len(kept)}
	words := s.lay(filled(100), nil)
	for i, x := range kept {
		words = s.pushes(t, words, kept[:i], x)
	}
	s.looks(t, words, kept)
	for i := len(kept); i > 0; i-- {
		words = s.pops(t, words, kept[:i])
	}
	s.looks(t, words, nil)
}

// TestNoStack asks of bases and limits of which there is no stack: nothing is kept, no word is needed or written.
func TestNoStack(t *testing.T) {
	none := func(base, limit int) {
		t.Helper()
		blind(t, "no stack", func(v *view.View) {
			for _, x := range []int{0, 1, -5, math.MaxInt} {
				if stack.Push(v, base, limit, x) {
					t.Errorf("at %d with the limit %d: Push(%d)", base, limit, x)
				}
				if y, ok := stack.Pop(v, base, limit); y != 0 || ok {
					t.Errorf("at %d with the limit %d: Pop is %d, %t", base, limit, y, ok)
				}
				place{base, limit}.asks(t, v, nil)
			}
		})
	}
	for _, base := range append([]int{0}, below...) {
		for _, limit := range append([]int{0, 1, 2, 16}, odd...) {
			none(base, limit)
		}
	}
	for _, limit := range below {
		for _, base := range append([]int{1, 2, 3, 128}, odd...) {
			none(base, limit)
		}
	}
}

// TestNoStackWords asks the same where words say that there would be things: all stay as they are.
func TestNoStackWords(t *testing.T) {
	words := []int{3, 1, 2, 1, 2, 1, 2, 1}
	for _, s := range []place{{0, 3}, {0, 0}, {-1, 3}, {-2, 5}, {3, -1}, {3, -2}, {1, math.MinInt}} {
		out, needed, e := view.Do(words, func(v *view.View) {
			s.asks(t, v, nil)
			if stack.Push(v, s.base, s.limit, 9) {
				t.Errorf("at %d with the limit %d: Push", s.base, s.limit)
			}
			if x, ok := stack.Pop(v, s.base, s.limit); x != 0 || ok {
				t.Errorf("at %d with the limit %d: Pop is %d, %t", s.base, s.limit, x, ok)
			}
			s.asks(t, v, nil)
		})
		if e != api.OK || len(needed) != 0 || !slices.Equal(out, words) {
			t.Errorf("at %d with the limit %d: error %d, needs %v, words %v", s.base, s.limit, e, needed, out)
		}
	}
}

// TestLimitZero pushes and pops where nothing can be kept, whatever the count says.
func TestLimitZero(t *testing.T) {
	for _, n := range odd {
		s := place{2, 0}
		words := []int{11, 12, n, 14}
		s.looks(t, words, nil)
		words = s.pushes(t, words, nil, 5)
		words = s.pops(t, words, nil)
		if want := []int{11, 12, n, 14}; !slices.Equal(words, want) {
			t.Errorf("the words are %v, want %v", words, want)
		}
	}
}

// TestAllApart writes into what All told: it is told the same again, and no word changes.
func TestAllApart(t *testing.T) {
	s := place{1, 4}
	words := s.lay(filled(9), []int{5, 6, 7})
	out := s.does(t, words, func(v *view.View) {
		got := stack.All(v, s.base, s.limit)
		for i := range got {
			got[i] = 0
		}
		_ = append(got, 1)
		s.asks(t, v, []int{5, 6, 7})
	})
	if !slices.Equal(out, words) {
		t.Errorf("the words are %v", out)
	}
}

// P12.2

// TestLastFirst pushes as long as there is room, and pops until there is none, in one program and in several.
func TestLastFirst(t *testing.T) {
	for _, base := range []int{1, 2, 64} {
		for _, limit := range []int{0, 1, 2, 3, 8, 16, 200} {
			s := place{base, limit}
			words := s.lay(filled(base+limit+1), nil)
			out := s.does(t, words, func(v *view.View) { lastFirst(t, v, s) })
			s.stands(t, "all popped", out, nil)
			var got []int
			for _, x := range things(limit) {
				words = s.does(t, words, func(v *view.View) { stack.Push(v, base, limit, x) })
			}
			for range limit {
				x := 0
				words = s.does(t, words, func(v *view.View) { x, _ = stack.Pop(v, base, limit) })
				got = append(got, x)
			}
			slices.Reverse(got)
			if !slices.Equal(got, things(limit)) {
				t.Errorf("at %d with the limit %d: popped %v, from the last one on", base, limit, got)
			}
		}
	}
}

// lastFirst pushes and pops by one view.
func lastFirst(t *testing.T, v *view.View, s place) {
	t.Helper()
	for i := range s.limit + 2 {
		if stack.Push(v, s.base, s.limit, 3*i+1) != (i < s.limit) {
			t.Errorf("at %d with the limit %d: Push of the thing %d is not %t", s.base, s.limit, i, i < s.limit)
		}
	}
	for n := s.limit - 1; n >= 0; n-- {
		if x, ok := stack.Pop(v, s.base, s.limit); x != 3*n+1 || !ok {
			t.Errorf("at %d with the limit %d: Pop is %d, %t, want %d", s.base, s.limit, x, ok, 3*n+1)
		}
	}
	if x, ok := stack.Pop(v, s.base, s.limit); x != 0 || ok {
		t.Errorf("at %d with the limit %d: Pop of none is %d, %t", s.base, s.limit, x, ok)
	}
}

// TestAllRows makes all rows of nine calls of Push and Pop, and holds each against a plain list.
func TestAllRows(t *testing.T) {
	for limit := range 5 {
		s := place{2, limit}
		for row := range 1 << 9 {
			out := s.does(t, s.lay(filled(limit+4), nil), func(v *view.View) {
				var kept []int
				for i := range 9 {
					kept = s.call(t, v, kept, row>>i&1, i+1)
				}
				s.asks(t, v, kept)
			})
			if len(s.told(out)) > limit {
				t.Errorf("with the limit %d: the words are %v", limit, out)
			}
		}
	}
}

// call pushes or pops, and tells a plain list that did so too.
func (s place) call(t *testing.T, v *view.View, kept []int, kind, x int) []int {
	t.Helper()
	if kind == 0 {
		ok := stack.Push(v, s.base, s.limit, x)
		if ok != (len(kept) < s.limit) {
			t.Errorf("at %d with the limit %d, with %v: Push(%d) is %t", s.base, s.limit, kept, x, ok)
		}
		if len(kept) < s.limit {
			kept = append(slices.Clone(kept), x)
		}
		return kept
	}
	want, has := 0, len(kept) > 0
	if has {
		want, kept = kept[len(kept)-1], kept[:len(kept)-1]
	}
	if y, ok := stack.Pop(v, s.base, s.limit); y != want || ok != has {
		t.Errorf("at %d with the limit %d: Pop is %d, %t, want %d, %t", s.base, s.limit, y, ok, want, has)
	}
	return kept
}

// P12.3

// TestBeside uses one of three stacks that stand side by side, with any number of things each: the other ones' words, and those around, stay.
func TestBeside(t *testing.T) {
	for limit := range 4 {
		row := []place{{2, limit}, {3 + limit, 2}, {6 + limit, limit}}
		for n := range (limit + 1) * 3 * (limit + 1) {
			kept := [][]int{things(n % (limit + 1)), things(n / (limit + 1) % 3), things(n / (limit + 1) / 3)}
			words := filled(10 + 2*limit)
			for i, s := range row {
				words = s.lay(words, kept[i])
			}
			for i, s := range row {
				others := func(what string, out []int) {
					t.Helper()
					for a, x := range out {
						if !s.has(a) && x != words[a] {
							t.Errorf("%s at %d with the limit %d: the word %d is %d", what, s.base, s.limit, a, x)
						}
					}
					for j, k := range row {
						if j != i {
							k.looks(t, out, kept[j])
						}
					}
				}
				s.looks(t, words, kept[i])
				others("Push", s.pushes(t, words, kept[i], 88))
				others("Pop", s.pops(t, words, kept[i]))
			}
		}
	}
}

// TestRows makes many calls of stacks that stand side by side, in programs of several, over plain words.
func TestRows(t *testing.T) {
	for seed := range 100 {
		x := uint64(seed)*2862933555777941757 + 3037000493
		next := func(n int) int {
			x ^= x << 13
			x ^= x >> 7
			x ^= x << 17
			return int(x >> 20 % uint64(n))
		}
		base := 1 + next(4)
		var row []place
		for range 1 + next(4) {
			row = append(row, place{base, next(7)})
			base += row[len(row)-1].limit + 1
		}
		words := filled(base + 2)
		for _, s := range row {
			words = s.lay(words, nil)
		}
		first := slices.Clone(words)
		kept := make([][]int, len(row))
		for range 15 {
			was, from := slices.Clone(kept), x
			out, needed, e := view.Do(words, func(v *view.View) {
				// The program is run again and again, and has to do the same.
				copy(kept, was)
				x = from
				for range 6 {
					i := next(len(row))
					kept[i] = row[i].call(t, v, kept[i], next(5)/3, next(9)-4)
					row[i].asks(t, v, kept[i])
				}
			})
			if e != api.OK {
				t.Fatalf("error %d", e)
			}
			words = out
			rowStands(t, row, kept, first, words, needed)
		}
	}
}

// rowStands holds all words against what stacks are to have, and what was read against their words.
func rowStands(t *testing.T, row []place, kept [][]int, first, words []int, needed []api.Pair) {
	t.Helper()
	owned := func(a int) bool {
		return slices.ContainsFunc(row, func(s place) bool { return s.has(a) })
	}
	for i, s := range row {
		s.stands(t, "a row of calls", words, kept[i])
	}
	for a, x := range words {
		if !owned(a) && x != first[a] {
			t.Errorf("the word %d, which is no stack's, is %d", a, x)
		}
	}
	for _, p := range needed {
		if !owned(p.Addr) {
			t.Errorf("the word %d, which is no stack's, was read", p.Addr)
		}
	}
}

// Greatest numbers

// TestGreatLimit has a limit that is greater than all words together: what is there is used like any other stack.
func TestGreatLimit(t *testing.T) {
	for _, limit := range []int{1 << 20, 1 << 40, 1 << 62, math.MaxInt - 1, math.MaxInt} {
		out, _, e := view.Do(make([]int, 8), func(v *view.View) {
			var kept []int
			for i, kind := range []int{1, 0, 0, 0, 1, 0, 1, 1, 0} {
				kept = place{1, limit}.call(t, v, kept, kind, i)
			}
			place{1, limit}.asks(t, v, kept)
		})
		if e != api.OK || out[1] != 2 || out[2] != 1 || out[3] != 8 {
			t.Errorf("with the limit %d: error %d, words %v", limit, e, out)
		}
	}
}

// TestLastWords has stacks whose base is among the greatest addresses: nothing is kept beyond them, and each call ends, whatever the count says.
func TestLastWords(t *testing.T) {
	for back := range 4 {
		base := math.MaxInt - back
		for _, limit := range []int{0, 1, 2, 3, 4, 1 << 40, math.MaxInt - 1, math.MaxInt} {
			room := min(limit, back)
			for _, n := range append([]int{2, 3, 4}, odd...) {
				kept := things(min(max(n, 0), room))
				if n < 0 || n > room {
					kept = nil
				}
				known := []api.Pair{{Addr: base, Val: n}}
				for i, x := range things(back) {
					known = append(known, api.Pair{Addr: base + 1 + i, Val: x})
				}
				need, wrote := view.Run(known, func(v *view.View) { last(t, v, place{base, limit}, kept, room) })
				if need != -1 {
					t.Errorf("at %d with the limit %d: needs %d", base, limit, need)
				}
				for _, p := range wrote {
					if p.Addr < base {
						t.Errorf("at %d with the limit %d: writes %d", base, limit, p.Addr)
					}
				}
			}
		}
	}
}

// last pushes until there is no room any more, and pops all.
func last(t *testing.T, v *view.View, s place, kept []int, room int) {
	t.Helper()
	s.asks(t, v, kept)
	for len(kept) < room {
		if !stack.Push(v, s.base, s.limit, len(kept)) {
			t.Errorf("at %d with the limit %d, with %v: Push", s.base, s.limit, kept)
		}
		kept = append(kept, len(kept))
		s.asks(t, v, kept)
	}
	if stack.Push(v, s.base, s.limit, 5) {
		t.Errorf("at %d with the limit %d, with %v: Push of one more", s.base, s.limit, kept)
	}
	s.asks(t, v, kept)
	for len(kept) > 0 {
		want := kept[len(kept)-1]
		kept = kept[:len(kept)-1]
		if x, ok := stack.Pop(v, s.base, s.limit); x != want || !ok {
			t.Errorf("at %d with the limit %d: Pop is %d, %t, want %d", s.base, s.limit, x, ok, want)
		}
		s.asks(t, v, kept)
	}
	if x, ok := stack.Pop(v, s.base, s.limit); x != 0 || ok {
		t.Errorf("at %d with the limit %d: Pop of none is %d, %t", s.base, s.limit, x, ok)
	}
}

// TestGreatCount has a count that the limit lets be, of more things than could ever be told: All needs the first one.
func TestGreatCount(t *testing.T) {
	need, wrote := view.Run([]api.Pair{{Addr: 1, Val: 1 << 62}}, func(v *view.View) {
		if n := stack.Len(v, 1, math.MaxInt); n != 1<<62 {
			t.Errorf("Len is %d", n)
		}
		stack.All(v, 1, math.MaxInt)
	})
	if need != 2 || len(wrote) != 0 {
		t.Errorf("needs %d, wrote %v", need, wrote)
	}
}

// Views

// dead holds a view that reads 0 of all, and writes nothing, against what is told by it: nothing is kept.
func dead(t *testing.T, what string, v *view.View) {
	t.Helper()
	for range 2 {
		if !stack.Push(v, 1, 2, 7) || stack.Push(v, 1, 0, 7) || stack.Push(v, 0, 2, 7) || stack.Push(v, 1, -1, 7) {
			t.Errorf("%s: Push", what)
		}
		if x, ok := stack.Pop(v, 1, 2); x != 0 || ok {
			t.Errorf("%s: Pop is %d, %t", what, x, ok)
		}
		place{1, 2}.asks(t, v, nil)
	}
}

// TestNoView asks by no view, by one whose run ended where it needed a word, and by one whose run is over.
func TestNoView(t *testing.T) {
	dead(t, "nil", nil)
	dead(t, "a view that nothing made", &view.View{})
	var kept *view.View
	keep := func(v *view.View) {
		kept = v
		stack.Push(v, 1, 2, 7)
	}
	if need, wrote := view.Run(nil, keep); need != 1 || len(wrote) != 0 {
		t.Errorf("needs %d, wrote %v", need, wrote)
	}
	dead(t, "one that needed a word", kept)
	if need, _ := view.Run([]api.Pair{{Addr: 1}, {Addr: 2}, {Addr: 3}}, keep); need != -1 {
		t.Errorf("needs %d", need)
	}
	dead(t, "one that is done", kept)
}

// TestNoWords does programs over words that do not have all of the stack's: those that are needed or written are none.
func TestNoWords(t *testing.T) {
	for _, c := range []struct {
		words []int
		prog  func(v *view.View)
	}{
		{[]int{0}, func(v *view.View) { stack.Len(v, 1, 2) }},
		{[]int{0, 0}, func(v *view.View) { stack.Push(v, 1, 2, 7) }},
		{[]int{0, 1}, func(v *view.View) { stack.Pop(v, 1, 2) }},
		{[]int{0, 2, 5}, func(v *view.View) { stack.All(v, 1, 2) }},
	} {
		if out, _, e := view.Do(c.words, c.prog); e != api.ErrRange || len(out) != 0 {
			t.Errorf("over %v: error %d, words %v", c.words, e, out)
		}
	}
}

// The chapter's example.
func TestExample(t *testing.T) {
	_, _, e := view.Do(make([]int, 4), func(v *view.View) {
		for i, want := range []bool{true, true, false} {
			if stack.Push(v, 1, 2, 7+i) != want {
				t.Errorf("Push(%d) is not %t", 7+i, want)
			}
		}
		if x, ok := stack.Pop(v, 1, 2); x != 8 || !ok {
			t.Errorf("Pop is %d, %t", x, ok)
		}
	})
	if e != api.OK {
		t.Errorf("error %d", e)
	}
}
