package model_test

import (
	"math"
	"slices"
	"testing"

	"assart/alone"
	"assart/api"
	"assart/layout"
	"assart/live"
	"assart/model"
	"assart/view"
)

// beyond are numbers that are no address, size, alignment or kind; some of them wrap round to small ones when something is added, or when they are multiplied.
var beyond = []int{math.MinInt, math.MinInt + 1, math.MinInt32, -1 << 20, -257, -129, -128, -33, -32, -4, -2, -1, 1 << 20, 1<<20 + 1, 1 << 31, 1 << 32, 1<<32 + 1, 1 << 58, 1 << 59, 1 << 62, math.MaxInt - 128, math.MaxInt - 31, math.MaxInt - 30, math.MaxInt - 1, math.MaxInt}

// sizes are how many words each class's blocks have.
var sizes = []int{1, 2, 4, 8, 16}

// kinds are all kinds of calls.
var kinds = []int{api.CMalloc, api.CFree, api.CCalloc, api.CRealloc, api.CAligned, api.CUsable, api.CFlush, api.CTrim, api.CExit, api.CStats, api.CLoad, api.CStore}

// least and greatest are configurations with all numbers as small, and as great, as they may be.
var (
	least    = api.Config{Workers: 1, CPUs: 1, Pages: 1, Stripes: 1, Clock: 1, Private: 1, Batch: 1}
	greatest = api.Config{Workers: 64, CPUs: 8, Pages: 256, Stripes: 64, Tries: 16, Wait: 64, Clock: 1 << 40, Private: 8, Cache: 8, Bin: 16, Batch: 8}
)

// of tells a configuration of so many pages.
func of(pages int) api.Config {
	c := least
	c.Pages = pages
	return c
}

// fresh tells a model of a configuration that may be, and its layout.
func fresh(t *testing.T, c api.Config) (*model.Model, layout.Layout) {
	t.Helper()
	m, e := model.New(c)
	l, wrong := layout.Of(c)
	if m == nil || e != api.OK || wrong != api.OK {
		t.Fatalf("New of %v: error %d", c, e)
	}
	return m, l
}

// words tells how many words a block has that is asked for so.
func words(n, align int) int {
	for _, size := range sizes {
		if max(n, align) <= size {
			return size
		}
	}
	has := 32
	for has < n {
		has += 32
	}
	return has
}

// place is the block that a word has.
type place struct {
	addr, words int
	ok          bool
}

// look is all that a model tells of itself, of all addresses of an arena, and of some around.
type look struct {
	live   []api.Pair
	places []place
	words  []int
}

// looked tells a look at a model.
func looked(m *model.Model, l layout.Layout) look {
	s := look{live: m.Live()}
	for a := -2; a < l.Words()+3; a++ {
		b, n, ok := m.Block(a)
		s.places = append(s.places, place{b, n, ok})
		s.words = append(s.words, m.Word(a))
	}
	return s
}

// same holds two looks against each other.
func same(t *testing.T, what string, got, want look) {
	t.Helper()
	if !slices.Equal(got.live, want.live) {
		t.Errorf("%s: live are %v, want %v", what, got.live, want.live)
	}
	for i, x := range want.places {
		if got.places[i] != x {
			t.Errorf("%s: the word %d is of %v, want %v", what, i-2, got.places[i], x)
		}
	}
	for i, x := range want.words {
		if got.words[i] != x {
			t.Errorf("%s: the word %d is %d, want %d", what, i-2, got.words[i], x)
		}
	}
}

// is has a call be answered so.
func is(t *testing.T, m *model.Model, c api.Call, r api.Reply) {
	t.Helper()
	if !m.Step(c, r) {
		t.Errorf("%v may not be answered %v; live are %v", c, r, m.Live())
	}
}

// not has a call not be answered so.
func not(t *testing.T, m *model.Model, c api.Call, r api.Reply) {
	t.Helper()
	if m.Copy().Step(c, r) {
		t.Errorf("%v may be answered %v; live are %v", c, r, m.Live())
	}
}

// has holds all live blocks against these: each one's address, and how many words were asked for.
func has(t *testing.T, m *model.Model, want ...api.Pair) {
	t.Helper()
	if all := m.Live(); !slices.Equal(all, want) {
		t.Errorf("live are %v, want %v", all, want)
	}
}

// clock is the answer that each call may have.
var clock = api.Reply{Err: api.ErrClock}

// parts tells all numbers of a reply's stats, by which they can be changed.
func parts(s *api.Stats) []*int {
	return []*int{&s.Blocks, &s.Asked, &s.Words, &s.Kept, &s.Open, &s.Mapped, &s.Used}
}

// steps are by how much numbers are changed that are to be wrong.
var steps = []int{math.MinInt, -1 << 32, -32, -3, -2, -1, 1, 2, 3, 4, 16, 32, 1 << 32, math.MaxInt}

// errors tells all replies that are as r, but for the error; that of the clock is left out.
func errors(r api.Reply) []api.Reply {
	var all []api.Reply
	for e := api.Errno(-1); e < 22; e++ {
		other := r
		other.Err = e
		if e != r.Err && other != clock {
			all = append(all, other)
		}
	}
	return all
}

// changed tells all replies that are as r, but for one number.
func changed(r api.Reply, number func(r *api.Reply) *int) []api.Reply {
	var all []api.Reply
	for _, n := range steps {
		other := r
		*number(&other) += n
		all = append(all, other)
	}
	return all
}

// addrs, and those below, tell replies of which that number is changed.
func addrs(r api.Reply) []api.Reply {
	return changed(r, func(r *api.Reply) *int { return &r.Addr })
}

func counts(r api.Reply) []api.Reply {
	return changed(r, func(r *api.Reply) *int { return &r.Size })
}

func values(r api.Reply) []api.Reply {
	return changed(r, func(r *api.Reply) *int { return &r.Value })
}

func stats(r api.Reply) []api.Reply {
	var all []api.Reply
	for i := range parts(&r.Stats) {
		all = append(all, changed(r, func(r *api.Reply) *int { return parts(&r.Stats)[i] })...)
	}
	return all
}

// only has a call be answered so, and not otherwise in any one number; nothing changes by what may not be, and by the clock's end.
func only(t *testing.T, m *model.Model, l layout.Layout, c api.Call, r api.Reply) {
	t.Helper()
	old, other := looked(m, l), m.Copy()
	for _, wrong := range slices.Concat(errors(r), addrs(r), counts(r), values(r), stats(r)) {
		if other.Step(c, wrong) {
			t.Errorf("%v may be answered %v, as well as %v; live are %v", c, wrong, r, m.Live())
		}
	}
	is(t, other, c, clock)
	same(t, "what may not be", looked(other, l), old)
	is(t, m, c, r)
}

// unchanged has a call be answered so alone, and nothing be changed by that.
func unchanged(t *testing.T, m *model.Model, l layout.Layout, c api.Call, r api.Reply) {
	t.Helper()
	old := looked(m, l)
	only(t, m, l, c, r)
	same(t, "what changes nothing", looked(m, l), old)
}

// made tells a function that makes numbers below n, the same ones of the same seed.
func made(seed int) func(n int) int {
	x := uint64(seed)*2862933555777941757 + 3037000493
	return func(n int) int {
		x ^= x << 13
		x ^= x >> 7
		x ^= x << 17
		return int(x >> 20 % uint64(n))
	}
}

// some tells a model of six pages with four live blocks, in all words of which something stands, and in those behind the first one, which have a block no more.
func some(t *testing.T) (*model.Model, layout.Layout) {
	t.Helper()
	m, l := fresh(t, of(6))
	u := l.User()
	is(t, m, api.Call{Kind: api.CMalloc, Size: 6 * 32}, api.Reply{Addr: u, Size: 6 * 32})
	for i := range 6 * 32 {
		is(t, m, api.Call{Kind: api.CStore, Addr: u + i, Value: 100 + i}, api.Reply{})
	}
	is(t, m, api.Call{Kind: api.CFree, Addr: u}, api.Reply{})
	is(t, m, api.Call{Kind: api.CMalloc, Size: 3}, api.Reply{Addr: u + 4, Size: 4})
	is(t, m, api.Call{Kind: api.CMalloc, Size: 40}, api.Reply{Addr: u + 32, Size: 64})
	is(t, m, api.Call{Kind: api.CAligned, Size: 3, Align: 16}, api.Reply{Addr: u + 112, Size: 16})
	is(t, m, api.Call{Kind: api.CMalloc}, api.Reply{Addr: u + 191, Size: 1})
	has(t, m, api.Pair{Addr: u + 4, Val: 3}, api.Pair{Addr: u + 32, Val: 40}, api.Pair{Addr: u + 112, Val: 3}, api.Pair{Addr: u + 191})
	return m, l
}

// someOwn are how far behind the first user word some's blocks begin, and someEnds how many words these have.
var (
	someOwn  = []int{4, 32, 112, 191}
	someEnds = []int{4, 64, 16, 1}
)

// owner tells which of some's blocks has the word that is so far behind the first user word.
func owner(i int) (int, int, bool) {
	for k, first := range someOwn {
		if i >= first && i < first+someEnds[k] {
			return first, someEnds[k], true
		}
	}
	return 0, 0, false
}

// P20.2: New

// fields tells all numbers of a configuration, by which they can be changed.
func fields(c *api.Config) []*int {
	return []*int{&c.Workers, &c.CPUs, &c.Pages, &c.Stripes, &c.Tries, &c.Wait, &c.Clock, &c.Private, &c.Cache, &c.Bin, &c.Batch}
}

// TestNew has each number of a configuration be less, and more, than it may be: it is as Check says, and there is a model just if that is OK.
func TestNew(t *testing.T) {
	for _, c := range []api.Config{least, greatest, of(7), {}} {
		for i := range fields(&c) {
			for _, n := range append([]int{0, 1, 2, 9, 16, 17, 256, 257, 1 << 40, 1<<40 + 1}, beyond...) {
				other := c
				*fields(&other)[i] = n
				m, e := model.New(other)
				if want := layout.Check(other); e != want || (m != nil) != (want == api.OK) {
					t.Errorf("New of %v: a model %t, and the error %d, want %d", other, m != nil, e, want)
				}
			}
		}
	}
	for _, pages := range []int{-1, 0, 257} {
		if m, e := model.New(of(pages)); m != nil || e != api.ErrArg {
			t.Errorf("of %d pages: a model %t, and the error %d", pages, m != nil, e)
		}
	}
}

// TestFresh has a new model have no live blocks, and 0 in all words.
func TestFresh(t *testing.T) {
	for _, c := range []api.Config{least, greatest, of(7)} {
		m, l := fresh(t, c)
		n := l.Words() + 5
		same(t, "a new model", looked(m, l), look{nil, make([]place, n), make([]int, n)})
		unchanged(t, m, l, api.Call{Kind: api.CFree, Addr: l.User()}, api.Reply{Err: api.ErrPointer})
		unchanged(t, m, l, api.Call{Kind: api.CLoad, Addr: l.User()}, api.Reply{Err: api.ErrPointer})
	}
}

// P20.1: ErrClock, and Asks

// calls tells calls of all kinds, and of such as are none, of which some may be, and some may not.
func calls(l layout.Layout) []api.Call {
	var all []api.Call
	for _, kind := range append([]int{-1, 0, 13, 256 + api.CMalloc}, kinds...) {
		for _, a := range []int{0, -1, l.User(), l.User() + 4, l.User() + 5, l.User() + 32, l.Words(), math.MaxInt} {
			for _, n := range []int{-1, 0, 3, 40, math.MaxInt} {
				for _, align := range []int{-1, 0, 1, 3, 64, 256} {
					all = append(all, api.Call{Kind: kind, Addr: a, Size: n, Align: align, Value: 9})
				}
			}
		}
	}
	return all
}

// mayBe tells whether a call may be.
func mayBe(c api.Call) bool {
	switch c.Kind {
	case api.CMalloc, api.CCalloc, api.CRealloc:
		return c.Size >= 0
	case api.CAligned:
		return c.Size >= 0 && slices.Contains([]int{1, 2, 4, 8, 16, 32, 64, 128}, c.Align)
	}
	return slices.Contains(kinds, c.Kind)
}

// TestClock has all calls be answered ErrClock, and nothing else: nothing changes. With anything else they are not.
func TestClock(t *testing.T) {
	m, l := some(t)
	old := looked(m, l)
	for _, c := range calls(l) {
		is(t, m, c, clock)
		for _, r := range slices.Concat(addrs(clock), counts(clock), values(clock), stats(clock)) {
			not(t, m, c, r)
		}
	}
	same(t, "of the clock's end", looked(m, l), old)
}

// TestAsks has all calls that may not be be answered ErrArg alone: nothing changes. Calls that may be are not.
func TestAsks(t *testing.T) {
	m, l := some(t)
	old := looked(m, l)
	wrong := 0
	for _, c := range calls(l) {
		if mayBe(c) {
			not(t, m, c, api.Reply{Err: api.ErrArg})
			continue
		}
		wrong++
		is(t, m, c, api.Reply{Err: api.ErrArg})
		for _, r := range []api.Reply{{}, {Err: api.ErrMemory}, {Err: api.ErrPointer}, {Addr: l.User(), Size: 4}, {Err: api.ErrArg, Addr: 1}, {Err: api.ErrArg, Size: 1}, {Err: api.ErrArg, Value: 1}, {Err: api.ErrArg, Stats: api.Stats{Open: 1}}} {
			not(t, m, c, r)
		}
	}
	same(t, "of calls that may not be", looked(m, l), old)
	if wrong < 500 {
		t.Errorf("%d calls that may not be", wrong)
	}
	for _, kind := range append([]int{0, 13}, beyond...) {
		unchanged(t, m, l, api.Call{Kind: kind, Addr: l.User() + 4}, api.Reply{Err: api.ErrArg})
	}
	for _, align := range append([]int{0, 3, 5, 24, 256}, beyond...) {
		unchanged(t, m, l, api.Call{Kind: api.CAligned, Size: 1, Align: align}, api.Reply{Err: api.ErrArg})
	}
	for _, n := range beyond {
		for _, kind := range []int{api.CMalloc, api.CCalloc, api.CRealloc, api.CAligned} {
			if n < 0 {
				unchanged(t, m, l, api.Call{Kind: kind, Size: n, Align: 1}, api.Reply{Err: api.ErrArg})
				unchanged(t, m, l, api.Call{Kind: kind, Addr: l.User() + 4, Size: n, Align: 1}, api.Reply{Err: api.ErrArg})
			}
		}
	}
}

// P20.1: CMalloc, CCalloc, CAligned, CRealloc of 0

// asks tells the calls that ask for a new block of n words anywhere. What they do not need says something.
func asks(n int) []api.Call {
	return []api.Call{
		{Kind: api.CMalloc, Addr: 7, Size: n, Align: 128, Value: 3},
		{Kind: api.CCalloc, Addr: 7, Size: n, Align: 3, Value: 3},
		{Kind: api.CRealloc, Size: n, Align: 64, Value: 3},
		{Kind: api.CAligned, Addr: 7, Size: n, Align: 1, Value: 3},
	}
}

// TestMalloc has blocks of many sizes be told at each address in and around the user words: those are told that have all their words there.
func TestMalloc(t *testing.T) {
	m, l := fresh(t, of(3))
	for n := range 130 {
		for _, c := range asks(n) {
			for a := -2; a < l.Words()+3; a++ {
				r := api.Reply{Addr: a, Size: words(n, 1)}
				next := m.Copy()
				want := a >= l.User() && a+words(n, 1) <= l.Words()
				if next.Step(c, r) != want {
					t.Errorf("%v may be answered %v: %t", c, r, !want)
				}
				if want {
					has(t, next, api.Pair{Addr: a, Val: n})
				} else {
					has(t, next)
				}
			}
			is(t, m, c, api.Reply{Err: api.ErrMemory})
		}
	}
	has(t, m)
}

// TestMallocTold has a block be told with each number of the reply another one: it may not be.
func TestMallocTold(t *testing.T) {
	m, l := some(t)
	for n := range 33 {
		for _, c := range asks(n) {
			r := api.Reply{Addr: l.User() + 128, Size: words(n, 1)}
			for _, wrong := range slices.Concat(errors(r), counts(r), values(r), stats(r)) {
				not(t, m, c, wrong)
			}
			other := m.Copy()
			is(t, other, c, r)
			if b, size, ok := other.Block(r.Addr); b != r.Addr || size != r.Size || !ok {
				t.Errorf("%v answered %v: the block at %d has %d words", c, r, b, size)
			}
			unchanged(t, m, l, api.Call{Kind: api.CUsable, Addr: r.Addr}, api.Reply{Err: api.ErrPointer})
		}
	}
}

// TestMallocRefused has a block be refused with each error, and with what is told of blocks: of errors ErrMemory alone may be, whether there is room or not.
func TestMallocRefused(t *testing.T) {
	m, l := some(t)
	old := looked(m, l)
	for _, n := range []int{0, 1, 3, 16, 17, 192, 193, 1 << 20, 1<<20 + 1, math.MaxInt} {
		for _, c := range append(asks(n), api.Call{Kind: api.CAligned, Size: n, Align: 128}) {
			is(t, m, c, api.Reply{Err: api.ErrMemory})
			for _, r := range slices.Concat(errors(api.Reply{}), errors(api.Reply{Addr: l.User() + 128, Size: words(min(n, 999), 1)})) {
				if r != (api.Reply{Err: api.ErrMemory}) {
					not(t, m, c, r)
				}
			}
			not(t, m, c, api.Reply{})
			not(t, m, c, api.Reply{Err: api.ErrMemory, Addr: l.User()})
			not(t, m, c, api.Reply{Err: api.ErrMemory, Size: n + 1})
			not(t, m, c, api.Reply{Err: api.ErrMemory, Value: 1})
		}
	}
	same(t, "refused", looked(m, l), old)
}

// TestMallocGreat has blocks be asked for that no arena has room for: there is no block of as many words, whatever they may be rounded to.
func TestMallocGreat(t *testing.T) {
	for _, c := range []api.Config{least, greatest} {
		m, l := fresh(t, c)
		all := 32 * c.Pages
		for _, n := range append([]int{all + 1, all + 31, all + 32}, beyond...) {
			if n < 0 {
				continue
			}
			for _, a := range append([]int{0, 1, 128, l.User(), l.User() + 1, l.Words() - 1, l.Words()}, beyond...) {
				for _, size := range append([]int{0, 1, 32, all, all + 32, n, (n + 31) / 32 * 32, (n-1)/32*32 + 32}, beyond...) {
					for _, call := range asks(n) {
						if m.Step(call, api.Reply{Addr: a, Size: size}) {
							t.Fatalf("of %d pages: %v may be answered by %d words at %d", c.Pages, call, size, a)
						}
					}
				}
			}
		}
		has(t, m)
		is(t, m, api.Call{Kind: api.CMalloc, Size: all}, api.Reply{Addr: l.User(), Size: all})
		has(t, m, api.Pair{Addr: l.User(), Val: all})
		not(t, m, api.Call{Kind: api.CMalloc}, api.Reply{Addr: l.Words() - 1, Size: 1})
	}
}

// TestMallocFar has blocks be told at addresses that are none, some of which wrap round.
func TestMallocFar(t *testing.T) {
	m, l := some(t)
	for _, a := range append([]int{0, 1, l.User() - 1, l.Words(), l.Words() + 1}, beyond...) {
		for _, n := range []int{0, 1, 4, 16, 32, 64} {
			for _, c := range asks(n) {
				not(t, m, c, api.Reply{Addr: a, Size: words(n, 1)})
			}
		}
	}
}

// TestMeets has a second block be told at each address beside blocks: it may be just if it has none of their words.
func TestMeets(t *testing.T) {
	m, l := some(t)
	for _, n := range []int{0, 1, 2, 3, 5, 16, 20, 33, 70} {
		for _, c := range asks(n) {
			for i := range 192 {
				want := i+words(n, 1) <= 192
				for k := i; k < i+words(n, 1); k++ {
					if _, _, ok := owner(k); ok {
						want = false
					}
				}
				if r := (api.Reply{Addr: l.User() + i, Size: words(n, 1)}); m.Copy().Step(c, r) != want {
					t.Errorf("%v, with others, may be answered %v: %t", c, r, !want)
				}
			}
		}
	}
}

// TestAligned has blocks be asked for at each multiple: they are told there, and nowhere else, with as many words as they have then.
func TestAligned(t *testing.T) {
	m, l := fresh(t, of(9))
	if l.User()%128 != 0 {
		t.Fatalf("the user words begin at %d", l.User())
	}
	for _, align := range []int{1, 2, 4, 8, 16, 32, 64, 128} {
		for _, n := range []int{0, 1, 2, 3, 4, 7, 8, 9, 15, 16, 17, 32, 33, 64, 65, 128, 129, 288} {
			c := api.Call{Kind: api.CAligned, Addr: 3, Size: n, Align: align, Value: 4}
			for i := range 288 {
				r := api.Reply{Addr: l.User() + i, Size: words(n, align)}
				want := i%align == 0 && i+r.Size <= 288
				next := m.Copy()
				if next.Step(c, r) != want {
					t.Errorf("%v may be answered %v: %t", c, r, !want)
				}
				if want {
					has(t, next, api.Pair{Addr: r.Addr, Val: n})
				}
			}
			r := api.Reply{Addr: l.User(), Size: words(n, align)}
			for _, wrong := range slices.Concat(errors(r), counts(r), values(r), stats(r)) {
				if wrong != (api.Reply{Err: api.ErrMemory}) {
					not(t, m, c, wrong)
				}
			}
			is(t, m, c, api.Reply{Err: api.ErrMemory})
		}
	}
	has(t, m)
}

// TestCalloc has blocks of CCalloc have zeros, in all of their words and nowhere else; those of the others have what stood there.
func TestCalloc(t *testing.T) {
	for _, n := range []int{0, 1, 2, 3, 9, 16, 17, 33, 64} {
		for _, c := range asks(n) {
			m, l := some(t)
			is(t, m, api.Call{Kind: api.CFree, Addr: l.User() + 32}, api.Reply{})
			want := looked(m, l).words
			a := l.User() + 40
			if n > 16 {
				a = l.User() + 32
			}
			is(t, m, c, api.Reply{Addr: a, Size: words(n, 1)})
			if c.Kind == api.CCalloc {
				clear(want[a+2 : a+2+words(n, 1)])
			}
			if got := looked(m, l).words; !slices.Equal(got, want) {
				t.Errorf("%v at %d: the words are %v, want %v", c, a, got, want)
			}
			for i := range words(n, 1) {
				only(t, m, l, api.Call{Kind: api.CLoad, Addr: a + i}, api.Reply{Value: want[a+2+i]})
			}
		}
	}
	m, l := some(t)
	want := looked(m, l)
	is(t, m, api.Call{Kind: api.CCalloc, Size: 4}, api.Reply{Err: api.ErrMemory})
	not(t, m, api.Call{Kind: api.CCalloc, Size: 4}, api.Reply{Addr: l.User() + 6, Size: 4})
	same(t, "CCalloc without room", looked(m, l), want)
}

// P20.1: CFree

// TestFree frees each live block: that may be answered so alone, and the others stay as they are; again, it is refused.
func TestFree(t *testing.T) {
	for k, i := range someOwn {
		m, l := some(t)
		want := looked(m, l)
		a := l.User() + i
		c := api.Call{Kind: api.CFree, Addr: a, Size: -1, Align: 3, Value: 5}
		only(t, m, l, c, api.Reply{})
		want.live = slices.Delete(want.live, k, k+1)
		clear(want.places[a+2 : a+2+someEnds[k]])
		same(t, "freed", looked(m, l), want)
		unchanged(t, m, l, c, api.Reply{Err: api.ErrPointer})
		is(t, m, api.Call{Kind: api.CMalloc, Size: someEnds[k]}, api.Reply{Addr: a, Size: words(someEnds[k], 1)})
	}
}

// TestFreeNothing frees 0: that is answered, and nothing changes.
func TestFreeNothing(t *testing.T) {
	m, l := some(t)
	unchanged(t, m, l, api.Call{Kind: api.CFree, Size: -3, Align: 3, Value: 9}, api.Reply{})
	empty, l := fresh(t, least)
	unchanged(t, empty, l, api.Call{Kind: api.CFree}, api.Reply{})
}

// TestNoBlock asks for the block at each address, and at such as are none: without a live block whose first word it is, ErrPointer is all that may be.
func TestNoBlock(t *testing.T) {
	m, l := some(t)
	all := slices.Clone(beyond)
	for a := -2; a < l.Words()+3; a++ {
		if !slices.Contains(someOwn, a-l.User()) {
			all = append(all, a)
		}
	}
	for _, a := range all {
		for _, kind := range []int{api.CFree, api.CRealloc, api.CUsable} {
			if a == 0 && kind != api.CUsable {
				continue
			}
			for _, n := range []int{0, 3, 40} {
				unchanged(t, m, l, api.Call{Kind: kind, Addr: a, Size: n, Align: 1}, api.Reply{Err: api.ErrPointer})
			}
			not(t, m, api.Call{Kind: kind, Addr: a, Size: 3}, api.Reply{Addr: l.User() + 128, Size: 4})
			not(t, m, api.Call{Kind: kind, Addr: a, Size: 3}, api.Reply{Addr: a, Size: 4})
			not(t, m, api.Call{Kind: kind, Addr: a, Size: 3}, api.Reply{Size: 4})
		}
	}
}

// P20.1: CRealloc

// TestReallocStays has each block be of each size for which a new one would have as many words: it stays where it is, and is of that size. ErrMemory, and another place, may not be.
func TestReallocStays(t *testing.T) {
	for n := range 70 {
		for to := range 70 {
			for _, align := range []int{1, 4, 16, 64} {
				if words(to, 1) != words(n, align) {
					continue
				}
				m, l := fresh(t, of(8))
				a := l.User() + 128
				is(t, m, api.Call{Kind: api.CAligned, Size: n, Align: align}, api.Reply{Addr: a, Size: words(n, align)})
				c := api.Call{Kind: api.CRealloc, Addr: a, Size: to, Align: 3, Value: 2}
				not(t, m, c, api.Reply{Err: api.ErrMemory})
				not(t, m, c, api.Reply{Addr: l.User(), Size: words(to, 1)})
				not(t, m, c, api.Reply{Size: words(to, 1)})
				is(t, m, c, clock)
				has(t, m, api.Pair{Addr: a, Val: n})
				is(t, m, c, api.Reply{Addr: a, Size: words(to, 1)})
				has(t, m, api.Pair{Addr: a, Val: to})
				if b, size, ok := m.Block(a + words(to, 1) - 1); b != a || size != words(to, 1) || !ok {
					t.Errorf("of %d words by %d, then %d: %d has %d words, %t", n, align, to, b, size, ok)
				}
			}
		}
	}
	m, l := some(t)
	want := looked(m, l)
	want.live[0].Val = 4
	only(t, m, l, api.Call{Kind: api.CRealloc, Addr: l.User() + 4, Size: 4}, api.Reply{Addr: l.User() + 4, Size: 4})
	same(t, "a block that stays", looked(m, l), want)
}

// TestReallocMoves has each of the blocks be of each size for which a new one would have other words: it is told at each address that is free of all blocks, of its own too, begins as the old one did, and the old one is live no more.
func TestReallocMoves(t *testing.T) {
	first, l := some(t)
	before := looked(first, l)
	asked := []int{3, 40, 3, 0}
	moves := 0
	for k, i := range someOwn {
		for _, n := range []int{0, 1, 2, 3, 4, 5, 8, 9, 16, 17, 30, 33, 40, 65} {
			if words(n, 1) == someEnds[k] {
				continue
			}
			c := api.Call{Kind: api.CRealloc, Addr: l.User() + i, Size: n, Align: 3, Value: 2}
			for to := range 192 {
				m := first.Copy()
				free := to+words(n, 1) <= 192
				for w := to; w < to+words(n, 1); w++ {
					if _, _, ok := owner(w); ok {
						free = false
					}
				}
				r := api.Reply{Addr: l.User() + to, Size: words(n, 1)}
				if m.Step(c, r) != free {
					t.Fatalf("%v may be answered %v: %t", c, r, !free)
				}
				if !free {
					continue
				}
				moves++
				want := slices.Clone(before.words)
				copy(want[r.Addr+2:r.Addr+2+min(asked[k], n)], before.words[c.Addr+2:])
				got := looked(m, l)
				if !slices.Equal(got.words, want) {
					t.Errorf("%v answered %v: the words are %v, want %v", c, r, got.words, want)
				}
				list := slices.Delete(slices.Clone(before.live), k, k+1)
				list = append(list, api.Pair{Addr: r.Addr, Val: n})
				slices.SortFunc(list, func(a, b api.Pair) int { return a.Addr - b.Addr })
				has(t, m, list...)
				if b, size, ok := m.Block(r.Addr + r.Size - 1); b != r.Addr || size != r.Size || !ok || got.places[c.Addr+2].ok {
					t.Errorf("%v answered %v: %d has %d words, %t, and the old block is live %t", c, r, b, size, ok, got.places[c.Addr+2].ok)
				}
			}
		}
	}
	same(t, "copies were moved", looked(first, l), before)
	if moves < 500 {
		t.Errorf("%d moves", moves)
	}
}

// TestReallocCopies holds how many words are copied against numbers written out: as many as were asked for in both. Behind these what stood in the new block stays.
func TestReallocCopies(t *testing.T) {
	for _, c := range []struct{ old, new, copied int }{
		{0, 5, 0}, {1, 5, 1}, {3, 5, 3}, {3, 1, 1}, {3, 0, 0}, {4, 5, 4}, {7, 40, 7}, {8, 4, 4}, {40, 7, 7}, {40, 70, 40}, {33, 32, 32}, {64, 65, 64}, {65, 2, 2}, {70, 0, 0},
	} {
		m, l := fresh(t, of(8))
		u := l.User()
		is(t, m, api.Call{Kind: api.CMalloc, Size: 8 * 32}, api.Reply{Addr: u, Size: 8 * 32})
		for a := u; a < l.Words(); a++ {
			is(t, m, api.Call{Kind: api.CStore, Addr: a, Value: a}, api.Reply{})
		}
		is(t, m, api.Call{Kind: api.CFree, Addr: u}, api.Reply{})
		is(t, m, api.Call{Kind: api.CMalloc, Size: c.old}, api.Reply{Addr: u, Size: words(c.old, 1)})
		is(t, m, api.Call{Kind: api.CRealloc, Addr: u, Size: c.new}, api.Reply{Addr: u + 128, Size: words(c.new, 1)})
		for i := range 128 {
			want := u + 128 + i
			if i < c.copied {
				want = u + i
			}
			if m.Word(u+i) != u+i || m.Word(u+128+i) != want {
				t.Errorf("%d words become %d: the word %d is %d, and was %d, want %d", c.old, c.new, i, m.Word(u+128+i), m.Word(u+i), want)
			}
		}
	}
}

// TestReallocRefused has a block that would move be refused, and be told wrongly: it stays as it is.
func TestReallocRefused(t *testing.T) {
	m, l := some(t)
	old := looked(m, l)
	a := l.User() + 32
	for _, n := range append([]int{0, 3, 16, 32, 65, 192, 193}, beyond...) {
		if n < 0 {
			continue
		}
		c := api.Call{Kind: api.CRealloc, Addr: a, Size: n}
		is(t, m, c, api.Reply{Err: api.ErrMemory})
		size := words(min(n, 1<<20), 1)
		for _, r := range slices.Concat(errors(api.Reply{Err: api.ErrMemory}), errors(api.Reply{Addr: l.User() + 128, Size: size})) {
			if r == (api.Reply{Addr: l.User() + 128, Size: size}) && size <= 64 {
				continue
			}
			if r != (api.Reply{Err: api.ErrMemory}) {
				not(t, m, c, r)
			}
		}
		for _, r := range []api.Reply{{}, {Addr: a, Size: size}, {Addr: a, Size: 64}, {Addr: a + 32, Size: size}, {Addr: l.User() + 4, Size: size}, {Addr: l.Words(), Size: size}, {Addr: l.User() + 128, Size: size + 1}, {Addr: l.User() + 128, Size: size, Value: 1}, {Addr: l.User() + 128, Size: size, Stats: api.Stats{Used: 1}}, {Err: api.ErrMemory, Addr: a}} {
			not(t, m, c, r)
		}
	}
	same(t, "refused", looked(m, l), old)
}

// P20.1: CUsable, CLoad, CStore

// TestUsable asks how many words each block has.
func TestUsable(t *testing.T) {
	m, l := some(t)
	for k, i := range someOwn {
		unchanged(t, m, l, api.Call{Kind: api.CUsable, Addr: l.User() + i, Size: -9, Align: 3, Value: 4}, api.Reply{Size: someEnds[k]})
	}
}

// TestLoadStore loads and stores each word that there is, and at addresses that are none: just those of a live block, those too that were not asked for, are told, and are others then.
func TestLoadStore(t *testing.T) {
	m, l := some(t)
	old := looked(m, l)
	var all []int
	for a := -2; a < l.Words()+3; a++ {
		all = append(all, a)
	}
	for _, a := range append(all, beyond...) {
		get := api.Call{Kind: api.CLoad, Addr: a, Size: -1, Align: 3, Value: 77}
		set := api.Call{Kind: api.CStore, Addr: a, Size: -1, Align: 3, Value: -a}
		if _, _, ok := owner(a - l.User()); !ok || a < 0 {
			unchanged(t, m, l, get, api.Reply{Err: api.ErrPointer})
			unchanged(t, m, l, set, api.Reply{Err: api.ErrPointer})
			continue
		}
		unchanged(t, m, l, get, api.Reply{Value: 100 + a - l.User()})
		only(t, m, l, set, api.Reply{})
		old.words[a+2] = -a
		unchanged(t, m, l, get, api.Reply{Value: -a})
	}
	same(t, "stored", looked(m, l), old)
	for _, x := range append([]int{0, 1}, beyond...) {
		is(t, m, api.Call{Kind: api.CStore, Addr: l.User() + 7, Value: x}, api.Reply{})
		unchanged(t, m, l, api.Call{Kind: api.CLoad, Addr: l.User() + 7}, api.Reply{Value: x})
	}
}

// TestStays frees a block in which something was stored: it is told to whoever has the block next, if it does not ask for zeros.
func TestStays(t *testing.T) {
	m, l := fresh(t, of(2))
	a := l.User() + 8
	is(t, m, api.Call{Kind: api.CMalloc, Size: 3}, api.Reply{Addr: a, Size: 4})
	is(t, m, api.Call{Kind: api.CStore, Addr: a + 3, Value: 7}, api.Reply{})
	is(t, m, api.Call{Kind: api.CFree, Addr: a}, api.Reply{})
	unchanged(t, m, l, api.Call{Kind: api.CLoad, Addr: a + 3}, api.Reply{Err: api.ErrPointer})
	is(t, m, api.Call{Kind: api.CMalloc, Size: 1}, api.Reply{Addr: a + 3, Size: 1})
	unchanged(t, m, l, api.Call{Kind: api.CLoad, Addr: a + 3}, api.Reply{Value: 7})
	is(t, m, api.Call{Kind: api.CFree, Addr: a + 3}, api.Reply{})
	is(t, m, api.Call{Kind: api.CCalloc, Size: 2}, api.Reply{Addr: a + 2, Size: 2})
	unchanged(t, m, l, api.Call{Kind: api.CLoad, Addr: a + 3}, api.Reply{})
}

// P20.1: CFlush, CExit, CTrim, CStats

// TestFlush has CFlush and CExit be answered OK alone, as often as they come.
func TestFlush(t *testing.T) {
	m, l := some(t)
	for _, kind := range []int{api.CExit, api.CFlush, api.CExit} {
		unchanged(t, m, l, api.Call{Kind: kind, Addr: -3, Size: -3, Align: 3, Value: 3}, api.Reply{})
	}
}

// TestTrim has CTrim be answered by each number of pages that there may be, and by no other one.
func TestTrim(t *testing.T) {
	for _, pages := range []int{1, 2, 6, 256} {
		m, l := fresh(t, of(pages))
		is(t, m, api.Call{Kind: api.CMalloc, Size: 3}, api.Reply{Addr: l.User(), Size: 4})
		old := looked(m, l)
		c := api.Call{Kind: api.CTrim, Addr: -3, Size: -3, Align: 3, Value: 3}
		for n := -3; n < pages+4; n++ {
			r := api.Reply{Size: n}
			if m.Step(c, r) != (n >= 0 && n <= pages) {
				t.Errorf("of %d pages CTrim is answered by %d wrongly", pages, n)
			}
			for _, wrong := range slices.Concat(errors(r), addrs(r), values(r), stats(r)) {
				not(t, m, c, wrong)
			}
		}
		for _, n := range beyond {
			not(t, m, c, api.Reply{Size: n})
		}
		same(t, "trimmed", looked(m, l), old)
	}
}

// TestStats has CStats be answered by stats that are right of the live blocks, and by no others.
func TestStats(t *testing.T) {
	m, l := some(t)
	old := looked(m, l)
	c := api.Call{Kind: api.CStats, Addr: -3, Size: -3, Align: 3, Value: 3}
	for used := -1; used < 9; used++ {
		for mapped := -1; mapped < 9; mapped++ {
			for kept := -1; kept < 200; kept++ {
				s := api.Stats{Blocks: 4, Asked: 46, Words: 85, Kept: kept, Open: 32*used - 85 - kept, Mapped: mapped, Used: used}
				want := kept >= 0 && s.Open >= 0 && used >= 0 && used <= mapped && mapped <= 6
				if m.Step(c, api.Reply{Stats: s}) != want {
					t.Errorf("CStats may be answered %v: %t", s, !want)
				}
			}
		}
	}
	r := api.Reply{Stats: api.Stats{Blocks: 4, Asked: 46, Words: 85, Kept: 10, Open: 97, Mapped: 6, Used: 6}}
	only(t, m, l, c, r)
	for _, wrong := range slices.Concat(stats(r), []api.Reply{
		{}, {Stats: api.Stats{Blocks: 3, Asked: 46, Words: 85, Kept: 10, Open: 97, Mapped: 6, Used: 6}},
		{Stats: api.Stats{Blocks: 4, Asked: 45, Words: 85, Kept: 10, Open: 97, Mapped: 6, Used: 6}},
		{Stats: api.Stats{Blocks: 4, Asked: 46, Words: 84, Kept: 10, Open: 98, Mapped: 6, Used: 6}},
		{Stats: api.Stats{Blocks: 4, Asked: 46, Words: 86, Kept: 10, Open: 96, Mapped: 6, Used: 6}},
		{Stats: api.Stats{Blocks: 4, Asked: 46, Words: 85, Kept: 1 << 45, Open: 32<<40 - 85 - 1<<45, Mapped: 1 << 40, Used: 1 << 40}},
	}) {
		not(t, m, c, wrong)
	}
	same(t, "asked how much there is", looked(m, l), old)
}

// TestStatsEmpty asks how much there is of a model without live blocks, and behind some that were freed: pages may be used all the same.
func TestStatsEmpty(t *testing.T) {
	m, l := fresh(t, of(2))
	for range 2 {
		c := api.Call{Kind: api.CStats}
		is(t, m, c, api.Reply{})
		is(t, m, c, api.Reply{Stats: api.Stats{Mapped: 2}})
		is(t, m, c, api.Reply{Stats: api.Stats{Kept: 3, Open: 29, Mapped: 1, Used: 1}})
		is(t, m, c, api.Reply{Stats: api.Stats{Kept: 64, Mapped: 2, Used: 2}})
		not(t, m, c, api.Reply{Stats: api.Stats{Mapped: 3}})
		not(t, m, c, api.Reply{Stats: api.Stats{Mapped: -1}})
		not(t, m, c, api.Reply{Stats: api.Stats{Kept: 96, Mapped: 3, Used: 3}})
		not(t, m, c, api.Reply{Stats: api.Stats{Blocks: 1, Asked: 0, Words: 1, Open: 31, Mapped: 1, Used: 1}})
		is(t, m, api.Call{Kind: api.CMalloc, Size: 3}, api.Reply{Addr: l.User(), Size: 4})
		not(t, m, c, api.Reply{})
		is(t, m, api.Call{Kind: api.CRealloc, Addr: l.User(), Size: 40}, api.Reply{Err: api.ErrMemory})
		is(t, m, api.Call{Kind: api.CRealloc, Addr: l.User(), Size: 2}, api.Reply{Addr: l.User() + 9, Size: 2})
		is(t, m, c, api.Reply{Stats: api.Stats{Blocks: 1, Asked: 2, Words: 2, Open: 30, Mapped: 1, Used: 1}})
		is(t, m, api.Call{Kind: api.CFree, Addr: l.User() + 9}, api.Reply{})
	}
}

// P20.2: looks

// TestLooks asks of each address which live block has it, and what stands there.
func TestLooks(t *testing.T) {
	m, l := some(t)
	for a := -2; a < l.Words()+3; a++ {
		i := a - l.User()
		first, n, own := owner(i)
		want, x := place{}, 0
		if own {
			want = place{l.User() + first, n, true}
		}
		if i >= 0 && i < 192 {
			x = 100 + i
		}
		if b, n, ok := m.Block(a); (place{b, n, ok}) != want {
			t.Errorf("the word %d is of %d, %d, %t, want %v", a, b, n, ok, want)
		}
		if got := m.Word(a); got != x {
			t.Errorf("the word %d is %d, want %d", a, got, x)
		}
	}
	for _, a := range beyond {
		if b, n, ok := m.Block(a); b != 0 || n != 0 || ok || m.Word(a) != 0 {
			t.Errorf("the word %d is %d, of %d, %d, %t", a, m.Word(a), b, n, ok)
		}
	}
}

// TestNil asks nothing, and one that nothing made, for all.
func TestNil(t *testing.T) {
	_, l := some(t)
	var none *model.Model
	for _, c := range calls(l) {
		for _, r := range []api.Reply{{}, clock, {Err: api.ErrArg}, {Err: api.ErrNil}, {Err: api.ErrMemory}, {Err: api.ErrPointer}, {Addr: l.User(), Size: 4}} {
			if none.Step(c, r) {
				t.Errorf("nil: %v may be answered %v", c, r)
			}
			blank := &model.Model{}
			blank.Step(c, r)
			has(t, blank)
		}
	}
	n := l.Words() + 5
	same(t, "nil", looked(none, l), look{nil, make([]place, n), make([]int, n)})
	same(t, "one that nothing made", looked((&model.Model{}).Copy(), l), look{nil, make([]place, n), make([]int, n)})
	if none.Copy() != nil {
		t.Error("nil has a copy")
	}
	for _, a := range beyond {
		if b, n, ok := none.Block(a); b != 0 || n != 0 || ok || none.Word(a) != 0 {
			t.Errorf("nil has at %d: %d, %d, %t", a, b, n, ok)
		}
	}
}

// TestToldApart changes what was told: the model stays as it is, and what it told ahead does, whatever it does.
func TestToldApart(t *testing.T) {
	m, l := some(t)
	want, list := looked(m, l), m.Live()
	for i := range list {
		list[i] = api.Pair{Addr: -7, Val: -7}
	}
	same(t, "what was told is changed", looked(m, l), want)
	list = m.Live()
	is(t, m, api.Call{Kind: api.CFree, Addr: l.User() + 4}, api.Reply{})
	is(t, m, api.Call{Kind: api.CRealloc, Addr: l.User() + 32, Size: 41}, api.Reply{Addr: l.User() + 32, Size: 64})
	is(t, m, api.Call{Kind: api.CMalloc, Size: 1}, api.Reply{Addr: l.User(), Size: 1})
	if !slices.Equal(list, want.live) {
		t.Errorf("what was told ahead is changed: %v, want %v", list, want.live)
	}
}

// TestCopy has a model and its copy go apart, whichever goes on: the other one stays as it is.
func TestCopy(t *testing.T) {
	for _, second := range []bool{false, true} {
		m, l := some(t)
		other := m.Copy()
		want := looked(m, l)
		same(t, "a copy", looked(other, l), want)
		if second {
			m, other = other, m
		}
		u := l.User()
		is(t, m, api.Call{Kind: api.CStore, Addr: u + 5, Value: -5}, api.Reply{})
		is(t, m, api.Call{Kind: api.CRealloc, Addr: u + 4, Size: 4}, api.Reply{Addr: u + 4, Size: 4})
		same(t, "the other one has gone on", looked(other, l), want)
		is(t, m, api.Call{Kind: api.CFree, Addr: u + 4}, api.Reply{})
		is(t, m, api.Call{Kind: api.CCalloc, Size: 32}, api.Reply{Addr: u, Size: 32})
		is(t, m, api.Call{Kind: api.CRealloc, Addr: u + 191, Size: 2}, api.Reply{Addr: u + 180, Size: 2})
		same(t, "the other one has gone on", looked(other, l), want)
		want = looked(m, l)
		is(t, other, api.Call{Kind: api.CFree, Addr: u + 32}, api.Reply{})
		is(t, other, api.Call{Kind: api.CCalloc, Size: 32}, api.Reply{Addr: u + 128, Size: 32})
		same(t, "the copy has gone on", looked(m, l), want)
	}
}

// P20.3

// config makes a configuration that may be, of a few pages.
func config(next func(n int) int) api.Config {
	return api.Config{
		Workers: 1 + next(4), CPUs: 1 + next(3), Pages: 1 + next(9), Stripes: 1 + next(4), Tries: next(3), Wait: next(3), Clock: 1 + next(50),
		Private: 1 + next(3), Cache: next(4), Bin: next(4), Batch: 1 + next(4),
	}
}

// ask makes a call, mostly one that may be, and of one of these addresses, which were told.
func ask(l layout.Layout, told []int, next func(n int) int) api.Call {
	c := api.Call{Kind: kinds[next(len(kinds))], Size: next(20), Align: 1 << next(8), Value: next(900) - 300}
	if len(told) > 0 {
		c.Addr = told[next(len(told))]
	}
	switch next(12) {
	case 0:
		c.Kind = next(20) - 4
	case 1, 2:
		c.Addr = l.User() + next(32*l.Config().Pages)
	case 3, 4:
		c.Size = next(200) - 5
	case 5:
		c.Addr = 0
	case 6:
		c.Addr, c.Size = beyond[next(len(beyond))], beyond[next(len(beyond))]
	}
	return c
}

// agrees holds all of a model against a heap's words.
func agrees(t *testing.T, m *model.Model, l layout.Layout, h *alone.Heap) {
	t.Helper()
	all := h.Words()
	want := look{words: make([]int, l.Words()+5)}
	copy(want.words[l.User()+2:], all[l.User():])
	if _, _, e := view.Do(all, func(v *view.View) {
		want.live, want.places = live.All(v, l), nil
		for a := -2; a < l.Words()+3; a++ {
			b, n, ok := live.At(v, l, a)
			want.places = append(want.places, place{b, n, ok})
		}
	}); e != api.OK {
		t.Fatalf("looked at, the error %d", e)
	}
	same(t, "a heap's", looked(m, l), want)
}

// TestAlone has made calls be done by the allocator alone, with made configurations: each may be answered so, and not otherwise, and the model is as the heap.
func TestAlone(t *testing.T) {
	answered, done := map[api.Errno]int{}, map[int]int{}
	for seed := range 120 {
		next := made(seed)
		c := config(next)
		m, l := fresh(t, c)
		h, _ := alone.New(c)
		var told []int
		for i := range 120 {
			call := ask(l, told, next)
			r := h.Do(next(c.Workers), next(c.CPUs), call)
			// A call of a worker that has gone is not done.
			if r.Err == api.ErrGone {
				continue
			}
			for _, wrong := range slices.Concat(errors(r), values(r), stats(r)) {
				if wrong != (api.Reply{Err: api.ErrMemory}) && !rights(call, r, wrong) {
					not(t, m, call, wrong)
				}
			}
			is(t, m, call, r)
			if i%10 == 0 || r.Err != api.OK {
				agrees(t, m, l, h)
			}
			if r.Addr > 0 {
				told = append(told, r.Addr)
			}
			answered[r.Err]++
			done[call.Kind]++
			if t.Failed() {
				t.Fatalf("of the row %d, of %v: %v is answered %v", seed, c, call, r)
			}
		}
		agrees(t, m, l, h)
	}
	for _, e := range []api.Errno{api.OK, api.ErrArg, api.ErrMemory, api.ErrPointer} {
		if answered[e] < 100 {
			t.Errorf("%d calls are answered %d", answered[e], e)
		}
	}
	for _, kind := range kinds {
		if done[kind] < 100 {
			t.Errorf("%d calls of %d", done[kind], kind)
		}
	}
}

// rights tells whether another reply of CStats may be, too, as a model does not know how much is mapped.
func rights(c api.Call, r, other api.Reply) bool {
	r.Stats.Mapped = other.Stats.Mapped
	return c.Kind == api.CStats && r == other
}

// TestAloneGreatest has calls be done alone where all is as great as it may be, and as little.
func TestAloneGreatest(t *testing.T) {
	for _, c := range []api.Config{least, greatest} {
		m, l := fresh(t, c)
		h, _ := alone.New(c)
		all := 32 * c.Pages
		do := func(worker int, call api.Call) {
			t.Helper()
			is(t, m, call, h.Do(worker%c.Workers, worker%c.CPUs, call))
		}
		do(0, api.Call{Kind: api.CMalloc, Size: all})
		do(63, api.Call{Kind: api.CStore, Addr: l.Words() - 1, Value: math.MinInt})
		do(1, api.Call{Kind: api.CMalloc})
		do(2, api.Call{Kind: api.CStats})
		do(2, api.Call{Kind: api.CRealloc, Addr: l.User(), Size: all - 31})
		do(3, api.Call{Kind: api.CFree, Addr: l.User()})
		for i := range 400 {
			do(i, api.Call{Kind: api.CMalloc, Size: i % 20})
		}
		for _, b := range m.Live() {
			do(b.Addr, api.Call{Kind: api.CRealloc, Addr: b.Addr, Size: b.Val * 2})
		}
		agrees(t, m, l, h)
		for _, b := range m.Live() {
			do(b.Addr, api.Call{Kind: api.CFree, Addr: b.Addr})
		}
		for worker := range c.Workers {
			do(worker, api.Call{Kind: api.CFlush})
		}
		do(5, api.Call{Kind: api.CTrim})
		do(5, api.Call{Kind: api.CStats})
		has(t, m)
	}
}

// P20.4, P20.5

// had is a live block: how many words were asked for, and how many it has.
type had struct{ asked, words int }

// plain is a model beside one, that goes through all live blocks for all that is asked.
type plain struct {
	l     layout.Layout
	live  map[int]had
	words []int
}

// at tells the live block that has a word.
func (p *plain) at(a int) (int, had, bool) {
	for first, b := range p.live {
		if a >= first && a < first+b.words {
			return first, b, true
		}
	}
	return 0, had{}, false
}

// fits tells whether a block may be told so.
func (p *plain) fits(n, align int, r api.Reply) bool {
	if n > 1<<20 || r != (api.Reply{Addr: r.Addr, Size: words(n, align)}) || r.Addr%align != 0 || r.Addr > 1<<20 {
		return false
	}
	for a := r.Addr; a < r.Addr+r.Size; a++ {
		if _, _, ok := p.at(a); ok || a < p.l.User() || a >= p.l.Words() {
			return false
		}
	}
	return true
}

// may tells whether a call may be answered so; if it may, it is.
func (p *plain) may(c api.Call, r api.Reply) bool {
	first, b, ok := p.at(c.Addr)
	own := ok && first == c.Addr
	lost := r == api.Reply{Err: api.ErrPointer}
	switch {
	case r == clock:
		return true
	case !mayBe(c):
		return r == api.Reply{Err: api.ErrArg}
	case c.Kind == api.CMalloc, c.Kind == api.CCalloc, c.Kind == api.CAligned, c.Kind == api.CRealloc:
		return p.block(c, r, b, own)
	case c.Kind == api.CFree:
		if !own && c.Addr != 0 {
			return lost
		}
		if r == (api.Reply{}) {
			delete(p.live, c.Addr)
			return true
		}
		return false
	case c.Kind == api.CUsable:
		return lost && !own || own && r == api.Reply{Size: b.words}
	case c.Kind == api.CLoad:
		return lost && !ok || ok && r == api.Reply{Value: p.words[c.Addr]}
	case c.Kind == api.CStore:
		if ok && r == (api.Reply{}) {
			p.words[c.Addr] = c.Value
			return true
		}
		return lost && !ok
	case c.Kind == api.CTrim:
		return r == api.Reply{Size: r.Size} && r.Size >= 0 && r.Size <= p.l.Config().Pages
	case c.Kind == api.CStats:
		return p.stats(r)
	}
	return r == api.Reply{}
}

// block tells whether a call for a block may be answered so, where one may be its own already.
func (p *plain) block(c api.Call, r api.Reply, b had, own bool) bool {
	align := 1
	if c.Kind == api.CAligned {
		align = c.Align
	}
	again := c.Kind == api.CRealloc && c.Addr != 0
	switch {
	case again && !own:
		return r == api.Reply{Err: api.ErrPointer}
	case again && c.Size <= 1<<20 && words(c.Size, 1) == b.words:
		if r != (api.Reply{Addr: c.Addr, Size: b.words}) {
			return false
		}
		p.live[c.Addr] = had{c.Size, b.words}
		return true
	case r == api.Reply{Err: api.ErrMemory}:
		return true
	case !p.fits(c.Size, align, r):
		return false
	}
	for i := range r.Size {
		switch {
		case c.Kind == api.CCalloc:
			p.words[r.Addr+i] = 0
		case again && i < min(b.asked, c.Size):
			p.words[r.Addr+i] = p.words[c.Addr+i]
		}
	}
	if again {
		delete(p.live, c.Addr)
	}
	p.live[r.Addr] = had{c.Size, r.Size}
	return true
}

// stats tells whether there may be so much.
func (p *plain) stats(r api.Reply) bool {
	s := r.Stats
	n := had{}
	for _, b := range p.live {
		n.asked += b.asked
		n.words += b.words
	}
	return r == api.Reply{Stats: s} && s.Blocks == len(p.live) && s.Asked == n.asked && s.Words == n.words &&
		s.Kept >= 0 && s.Open >= 0 && s.Used >= 0 && s.Used <= s.Mapped && s.Mapped <= p.l.Config().Pages && s.Words+s.Kept+s.Open == 32*s.Used
}

// looked tells a look at it.
func (p *plain) looked() look {
	var s look
	for a := -2; a < p.l.Words()+3; a++ {
		first, b, ok := p.at(a)
		s.places = append(s.places, place{first, b.words, ok})
		x := 0
		if a >= p.l.User() && a < p.l.Words() {
			x = p.words[a]
		}
		s.words = append(s.words, x)
		if ok && first == a {
			s.live = append(s.live, api.Pair{Addr: a, Val: b.asked})
		}
	}
	return s
}

// told makes a reply, mostly such a one as may be.
func (p *plain) told(c api.Call, next func(n int) int) api.Reply {
	_, b, ok := p.at(c.Addr)
	var r api.Reply
	switch {
	case !mayBe(c):
		r.Err = api.ErrArg
	case c.Kind == api.CMalloc, c.Kind == api.CCalloc, c.Kind == api.CAligned, c.Kind == api.CRealloc:
		r = api.Reply{Addr: p.l.User() + next(32*p.l.Config().Pages), Size: words(min(c.Size, 1<<20), 1)}
		if c.Kind == api.CAligned {
			r.Size = words(min(c.Size, 1<<20), c.Align)
			r.Addr -= r.Addr % c.Align
		}
		if c.Kind == api.CRealloc && r.Size == b.words {
			r.Addr = c.Addr
		}
	case c.Kind == api.CUsable:
		r.Size = b.words
	case c.Kind == api.CLoad && ok:
		r.Value = p.words[c.Addr]
	case c.Kind == api.CTrim:
		r.Size = next(p.l.Config().Pages + 2)
	case c.Kind == api.CStats:
		s := api.Stats{Blocks: len(p.live), Mapped: p.l.Config().Pages}
		for _, b := range p.live {
			s.Asked += b.asked
			s.Words += b.words
		}
		s.Used = next(p.l.Config().Pages + 1)
		s.Kept = next(20)
		s.Open = 32*s.Used - s.Words - s.Kept
		r.Stats = s
	}
	switch next(12) {
	case 0, 1:
		r = api.Reply{Err: api.ErrPointer}
	case 2:
		r = api.Reply{Err: api.Errno(next(22))}
	case 3:
		*[]*int{&r.Addr, &r.Size, &r.Value, &r.Stats.Asked, &r.Stats.Open}[next(5)] += steps[next(len(steps))]
	case 4:
		r.Err = api.Errno(next(22))
	}
	return r
}

// TestRows has made calls be answered by made replies, of which many may not be: each is held against the plain model, with all blocks and words. Live blocks never meet, and what may not be changes nothing.
func TestRows(t *testing.T) {
	right, wrong := map[int]int{}, map[int]int{}
	for seed := range 150 {
		next := made(5000 + seed)
		m, l := fresh(t, of(1+next(7)))
		beside := &plain{l, map[int]had{}, make([]int, l.Words())}
		for range 150 {
			var told []int
			for _, b := range m.Live() {
				told = append(told, b.Addr, b.Addr, b.Addr+b.Val)
			}
			c := ask(l, told, next)
			r := beside.told(c, next)
			old := looked(m, l)
			want := beside.may(c, r)
			got := m.Step(c, r)
			if got != want {
				t.Errorf("%v may be answered %v: %t, want %t", c, r, got, want)
			}
			now := looked(m, l)
			same(t, "behind a made call", now, beside.looked())
			apart(t, m, l)
			if got {
				right[c.Kind]++
			} else {
				wrong[c.Kind]++
				same(t, "what may not be", now, old)
			}
			if t.Failed() {
				t.Fatalf("of the row %d, of %d pages: %v is answered %v", seed, l.Config().Pages, c, r)
			}
		}
	}
	for _, kind := range kinds {
		if right[kind] < 100 || wrong[kind] < 100 {
			t.Errorf("of %d: %d that may be, %d that may not", kind, right[kind], wrong[kind])
		}
	}
}

// apart has no two live blocks meet: each has just its own words, all of them there.
func apart(t *testing.T, m *model.Model, l layout.Layout) {
	t.Helper()
	end := l.User()
	for _, b := range m.Live() {
		first, n, ok := m.Block(b.Addr)
		if !ok || first != b.Addr || first < end || n < max(b.Val, 1) || first+n > l.Words() {
			t.Errorf("the block %v is %d of %d words, %t, behind %d", b, first, n, ok, end)
		}
		end = first + n
	}
}

// The chapter's example.

// TestExample has CMalloc of 3 be answered at each multiple of 4 that is free.
func TestExample(t *testing.T) {
	m, l := fresh(t, of(1))
	c := api.Call{Kind: api.CMalloc, Size: 3}
	for _, i := range []int{28, 0, 16, 4, 12, 24, 8, 20} {
		not(t, m, c, api.Reply{Addr: l.User() + i, Size: 3})
		is(t, m, c, api.Reply{Addr: l.User() + i, Size: 4})
		not(t, m, c, api.Reply{Addr: l.User() + i, Size: 4})
	}
	for a := l.User() - 4; a < l.Words()+4; a++ {
		not(t, m, c, api.Reply{Addr: a, Size: 4})
	}
	unchanged(t, m, l, api.Call{Kind: api.CStats}, api.Reply{Stats: api.Stats{Blocks: 8, Asked: 24, Words: 32, Mapped: 1, Used: 1}})
}
