package audit_test

import (
	"math"
	"math/bits"
	"slices"
	"testing"

	"assart/alone"
	"assart/api"
	"assart/audit"
	"assart/layout"
)

// beyond are numbers that say nothing, wherever they stand, but in a user word; some of them wrap round to small ones when something is added, or when they are multiplied.
var beyond = []int{math.MinInt, math.MinInt + 1, math.MinInt32, -1 << 20, -257, -33, -8, -3, -2, -1, 1 << 41, 1<<41 + 2, 1 << 58, 1 << 59, 1 << 62, math.MaxInt - 31, math.MaxInt - 1, math.MaxInt}

// sizes are how many words each class's blocks have.
var sizes = []int{1, 2, 4, 8, 16}

// kinds are all kinds of calls.
var kinds = []int{api.CMalloc, api.CFree, api.CCalloc, api.CRealloc, api.CAligned, api.CUsable, api.CFlush, api.CTrim, api.CExit, api.CStats, api.CLoad, api.CStore}

// least and greatest are configurations with all numbers as small, and as great, as they may be.
var (
	least    = api.Config{Workers: 1, CPUs: 1, Pages: 1, Stripes: 1, Clock: 1, Private: 1, Batch: 1}
	greatest = api.Config{Workers: 64, CPUs: 8, Pages: 256, Stripes: 64, Tries: 16, Wait: 64, Clock: 1 << 40, Private: 8, Cache: 8, Bin: 16, Batch: 8}
)

// some tells a configuration of two CPUs, with room for some blocks everywhere, and a last chunk of three pages.
func some() api.Config {
	return api.Config{Workers: 3, CPUs: 2, Pages: 15, Stripes: 3, Tries: 1, Wait: 1, Clock: 9, Private: 2, Cache: 2, Bin: 3, Batch: 2}
}

// laid tells the layout of a configuration that may be.
func laid(t *testing.T, c api.Config) layout.Layout {
	t.Helper()
	l, e := layout.Of(c)
	if e != api.OK {
		t.Fatalf("a layout of %v: error %d", c, e)
	}
	return l
}

// book is words, with what is held, as they are written down one by one.
type book struct {
	l           layout.Layout
	words, held []int
}

// blank tells a book of words that are all 0.
func blank(t *testing.T, c api.Config) *book {
	t.Helper()
	l := laid(t, c)
	return &book{l: l, words: make([]int, l.Words())}
}

// copied tells a book apart.
func (b *book) copied() *book {
	return &book{b.l, slices.Clone(b.words), slices.Clone(b.held)}
}

// with tells a book apart of which the word at a is x.
func (b *book) with(a, x int) *book {
	n := b.copied()
	n.words[a] = x
	return n
}

// small has a page be of a class, with such bits, and all blocks that are taken live. It is in no list.
func (b *book) small(p, c, taken int) {
	b.words[b.l.Table(p/4)] = 1
	b.words[b.l.Kind(p)] = c + 1
	b.words[b.l.Bits(p)] = taken
	b.words[b.l.Count(p)] = 32 / sizes[c]
	for i := range 32 / sizes[c] {
		if taken>>i&1 == 1 {
			b.words[b.l.Count(p)]--
			b.words[b.l.Live(b.block(p, i))] = 1 + sizes[c]
		}
	}
}

// block tells the address of a block of a class's page.
func (b *book) block(p, i int) int { return b.l.Addr(p) + i*sizes[b.words[b.l.Kind(p)]-1] }

// run has pages be one block of which so many words were asked for.
func (b *book) run(p, n, asked int) {
	for q := p; q < p+n; q++ {
		b.words[b.l.Table(q/4)] = 1
		b.words[b.l.Kind(q)] = 7
	}
	b.words[b.l.Kind(p)] = 6
	b.words[b.l.Count(p)] = n
	b.words[b.l.Live(b.l.Addr(p))] = 1 + asked
}

// list has pages be in a list, in that order.
func (b *book) list(c, f int, pages ...int) {
	for i, p := range pages {
		if i == 0 {
			b.words[b.l.Head(c, f)] = p + 1
			b.words[b.l.Prev(p)] = 0
		} else {
			b.words[b.l.Next(pages[i-1])] = p + 1
			b.words[b.l.Prev(p)] = pages[i-1] + 1
		}
		b.words[b.l.Next(p)] = 0
	}
}

// stack has blocks stand in a stack or bin from the word at base on; they are not live then.
func (b *book) stack(base int, blocks ...int) {
	b.words[base] = len(blocks)
	for i, a := range blocks {
		b.words[base+1+i] = a
		b.words[b.l.Live(a)] = 0
	}
}

// hold has blocks be held; they are not live then.
func (b *book) hold(blocks ...int) {
	for _, a := range blocks {
		b.held = append(b.held, a)
		b.words[b.l.Live(a)] = 0
	}
}

// is holds Check against what it is to tell.
func (b *book) is(t *testing.T, what string, want api.Errno) {
	t.Helper()
	if e := audit.Check(b.l, b.words, b.held); e != want {
		t.Errorf("%s: Check tells %d, want %d", what, e, want)
	}
}

// page holds Page against what it is to tell.
func (b *book) page(t *testing.T, what string, p int, want api.Errno) {
	t.Helper()
	if e := audit.Page(b.l, b.words, p); e != want {
		t.Errorf("%s: Page of %d tells %d, want %d", what, p, e, want)
	}
}

// full tells a book in which there is something of everything. Pages 7 and 11 are free, and mapped; 12 to 14 are not mapped.
func full(t *testing.T) *book {
	t.Helper()
	b := blank(t, some())
	b.small(0, 0, 1<<32-1)
	b.small(1, 2, 0x0f)
	b.small(2, 2, 0xf0)
	b.small(3, 2, 0x01)
	b.run(4, 3, 90)
	b.small(8, 4, 2)
	b.run(9, 1, 0)
	b.small(10, 3, 13)
	b.list(2, 4, 2, 1)
	b.list(2, 7, 3)
	b.list(4, 1, 8)
	b.list(3, 1, 10)
	b.stack(b.l.Cache(0, 2), b.block(1, 0), b.block(2, 4))
	b.stack(b.l.Cache(1, 2), b.block(1, 2))
	b.stack(b.l.Cache(1, 0), b.block(0, 9))
	b.stack(b.l.Bin(0), b.block(0, 5), b.block(0, 6), b.block(0, 0))
	b.stack(b.l.Bin(3), b.block(10, 3))
	b.hold(b.block(0, 31), b.block(10, 0), b.block(2, 7))
	return b
}

// made tells a function that makes numbers below n, the same ones of the same seed.
func made(seed int) func(n int) int {
	x := uint64(seed)*2862933555777941757 + 3037000493
	return func(n int) int {
		x ^= x << 13
		x ^= x >> 7
		x ^= x << 17
		return int(x >> 20 % uint64(n))
	}
}

// plain is a book's words as the document tells them, place by place, without any of the layers that look at them.
type plain struct{ *book }

// length tells of how many pages a run is that begins with p, as the pages behind it say.
func (s plain) length(p int) int {
	n := 1
	for p+n < s.l.Config().Pages && s.words[s.l.Kind(p+n)] == 7 {
		n++
	}
	return n
}

// pageOf tells what is wrong with a page.
func (s plain) pageOf(p int) api.Errno {
	kind, count, taken := s.words[s.l.Kind(p)], s.words[s.l.Count(p)], s.words[s.l.Bits(p)]
	bad := kind < 0 || kind > 7 || kind != 0 && s.words[s.l.Table(p/4)] != 1
	switch kind {
	case 0:
		bad = bad || count != 0 || taken != 0
	case 7:
		bad = bad || count != 0 || taken != 0 || p == 0 || s.words[s.l.Kind(p-1)]/6 != 1 || s.words[s.l.Kind(p-1)] > 7
	case 6:
		bad = bad || taken != 0 || count != s.length(p)
	case 1, 2, 3, 4, 5:
		n := 32 / sizes[kind-1]
		bad = bad || taken == 0 || uint64(taken)>>n != 0
		if !bad && count+bits.OnesCount64(uint64(taken)) != n {
			return api.ErrCount
		}
	}
	if bad {
		return api.ErrKind
	}
	return api.OK
}

// locked tells whether the clock, the flag or a lock is wrong.
func (s plain) locked() bool {
	clock := s.words[1]
	bad := s.words[2] != 0 || clock < 0 || clock > s.l.Config().Clock
	for _, w := range s.words[3 : 3+s.l.Config().Stripes] {
		bad = bad || w < 0 || w%2 != 0 || w/2 > clock
	}
	return bad
}

// member is a page as it is met in a list, behind another one, or behind -1.
type member struct{ class, number, page, ahead int }

// members tells all pages that are met in all lists; a list is left behind a page that is none.
func (s plain) members() []member {
	var all []member
	for c := range sizes {
		for f := 1; f <= 32/sizes[c]; f++ {
			ahead, w := -1, s.words[s.l.Head(c, f)]
			for n := 0; w != 0 && n <= s.l.Config().Pages; n++ {
				all = append(all, member{c, f, w - 1, ahead})
				if s.l.Next(w-1) == 0 {
					break
				}
				ahead, w = w-1, s.words[s.l.Next(w-1)]
			}
		}
	}
	return all
}

// unlisted tells whether a list, or a page that is in none, is wrong.
func (s plain) unlisted() bool {
	times := make([]int, s.l.Config().Pages)
	for _, m := range s.members() {
		if m.page < 0 || m.page >= len(times) || s.words[s.l.Kind(m.page)] != m.class+1 || s.words[s.l.Count(m.page)] != m.number || s.words[s.l.Prev(m.page)] != m.ahead+1 {
			return true
		}
		times[m.page]++
	}
	for p, n := range times {
		kind := s.words[s.l.Kind(p)]
		if n > 1 || n == 0 && (kind >= 1 && kind <= 5 && s.words[s.l.Count(p)] != 0 || s.words[s.l.Next(p)] != 0 || s.words[s.l.Prev(p)] != 0) {
			return true
		}
	}
	return false
}

// blocks tells all blocks that are taken, and all runs: the class, or -1, by the address; and how many words they have.
func (s plain) blocks() (classes, words map[int]int) {
	classes, words = map[int]int{}, map[int]int{}
	for p := range s.l.Config().Pages {
		kind := s.words[s.l.Kind(p)]
		if kind == 6 {
			classes[s.l.Addr(p)], words[s.l.Addr(p)] = -1, 32*s.words[s.l.Count(p)]
		}
		if kind < 1 || kind > 5 {
			continue
		}
		for i := range 32 / sizes[kind-1] {
			if a := s.l.Addr(p) + i*sizes[kind-1]; s.words[s.l.Bits(p)]>>i&1 == 1 {
				classes[a], words[a] = kind-1, sizes[kind-1]
			}
		}
	}
	return classes, words
}

// keeps tells how often each address is kept, and whether something is kept that may not be.
func (s plain) keeps() (map[int]int, bool) {
	classes, _ := s.blocks()
	times, bad := map[int]int{}, false
	shelf := func(c, base, limit int) {
		n := s.words[base]
		if n < 0 || n > limit {
			bad = true
			return
		}
		for _, a := range s.words[base+1 : base+1+n] {
			k, ok := classes[a]
			bad = bad || !ok || k != c
			times[a]++
		}
	}
	for c := range sizes {
		for cpu := range s.l.Config().CPUs {
			shelf(c, s.l.Cache(cpu, c), s.l.Config().Cache)
		}
		shelf(c, s.l.Bin(c), s.l.Config().Bin)
	}
	for _, a := range s.held {
		times[a]++
	}
	for a, n := range times {
		c, ok := classes[a]
		bad = bad || n > 1 || !ok || c == -1
	}
	return times, bad
}

// lost tells whether a block is live that may not be, or neither live nor kept.
func (s plain) lost() bool {
	classes, words := s.blocks()
	times, _ := s.keeps()
	for a := s.l.User(); a < s.l.Words(); a++ {
		w := s.words[s.l.Live(a)]
		c, ok := classes[a]
		switch {
		case w < 0 || w != 0 && !ok || ok && w > words[a]+1:
			return true
		case ok && c == -1 && w == 0:
			return true
		case ok && c >= 0 && (w != 0) == (times[a] != 0):
			return true
		}
	}
	return false
}

// check tells what is wrong with the words.
func (s plain) check() api.Errno {
	if len(s.words) != s.l.Words() || len(s.words) == 0 {
		return api.ErrArg
	}
	if s.locked() {
		return api.ErrLock
	}
	told := map[api.Errno]int{}
	for p := range s.l.Config().Pages {
		told[s.pageOf(p)]++
	}
	for k := range s.l.Chunks() {
		if uint(s.words[s.l.Table(k)]) > 1 {
			told[api.ErrKind]++
		}
	}
	switch _, kept := s.keeps(); {
	case told[api.ErrKind] > 0:
		return api.ErrKind
	case told[api.ErrCount] > 0:
		return api.ErrCount
	case s.unlisted():
		return api.ErrList
	case kept:
		return api.ErrCache
	case s.lost():
		return api.ErrLive
	}
	return api.OK
}

// agrees holds Check, and Page of all pages, against plain words, and tells what they told.
func (b *book) agrees(t *testing.T, what string) api.Errno {
	t.Helper()
	s := plain{b}
	want := s.check()
	b.is(t, what, want)
	for p := range b.l.Config().Pages {
		b.page(t, what, p, s.pageOf(p))
	}
	return want
}

// The example, and words that may be

// TestExample is the chapter's example, of layouts small and great.
func TestExample(t *testing.T) {
	for _, c := range []api.Config{least, greatest, some(), {Workers: 1, CPUs: 1, Pages: 1, Stripes: 1, Clock: 9, Private: 1, Batch: 1}} {
		b := blank(t, c)
		b.is(t, "words that are all 0", api.OK)
		b.with(layout.Flag, 1).is(t, "with the flag", api.ErrLock)
		for p := range c.Pages {
			b.page(t, "words that are all 0", p, api.OK)
			b.with(layout.Flag, 1).page(t, "with the flag", p, api.OK)
		}
	}
}

// TestFull has a book with something of everything be all right, and each page of it.
func TestFull(t *testing.T) {
	b := full(t)
	if e := b.agrees(t, "full"); e != api.OK {
		t.Errorf("full: plain words tell %d", e)
	}
}

// TestNotAsked has words be any numbers of which nothing is said: the word 0, those ahead of the user words, those, and what stands in stacks and bins behind what they keep.
func TestNotAsked(t *testing.T) {
	for _, b := range []*book{full(t), blank(t, some()), blank(t, least)} {
		places := []int{0}
		for a := b.l.Live(b.l.Words()-1) + 1; a < b.l.Words(); a++ {
			places = append(places, a)
		}
		shelf := func(base, limit int) {
			for i := b.words[base]; i < limit; i++ {
				places = append(places, base+1+i)
			}
		}
		for c := range sizes {
			shelf(b.l.Bin(c), b.l.Config().Bin)
			for cpu := range b.l.Config().CPUs {
				shelf(b.l.Cache(cpu, c), b.l.Config().Cache)
			}
		}
		all := b.copied()
		for i, a := range places {
			x := beyond[i%len(beyond)]
			b.with(a, x).is(t, "a word of which nothing is said", api.OK)
			all.words[a] = x
		}
		if e := all.agrees(t, "all words of which nothing is said"); e != api.OK {
			t.Errorf("plain words tell %d", e)
		}
	}
}

// P21.1: ErrArg

// TestOtherWords has there be too few words, or too many, and those be wrong in all else, too.
func TestOtherWords(t *testing.T) {
	for _, c := range []api.Config{least, greatest, some()} {
		l := laid(t, c)
		for _, n := range []int{0, 1, 2, 3, 4, l.User(), l.Words() - 128, l.Words() - 32, l.Words() - 1, l.Words() + 1, l.Words() + 32, 2 * l.Words(), 1 << 20} {
			for _, x := range []int{0, 1, -1, math.MinInt} {
				b := &book{l: l, words: slices.Repeat([]int{x}, n), held: []int{x, x}}
				b.is(t, "other words", api.ErrArg)
				for _, p := range []int{0, c.Pages - 1, c.Pages, -1} {
					b.page(t, "other words", p, api.ErrArg)
				}
			}
		}
		for _, words := range [][]int{nil, {}} {
			b := &book{l: l, words: words}
			b.is(t, "no words", api.ErrArg)
			b.page(t, "no words", 0, api.ErrArg)
		}
	}
}

// TestNoLayout has there be no layout.
func TestNoLayout(t *testing.T) {
	for _, words := range [][]int{nil, {}, {0}, make([]int, 160), {1, 2, 3, 4}} {
		for _, held := range [][]int{nil, {}, {0}, {128}} {
			b := &book{words: words, held: held}
			b.is(t, "no layout", api.ErrArg)
		}
		for _, p := range append([]int{0, 1, 255}, beyond...) {
			(&book{words: words}).page(t, "no layout", p, api.ErrArg)
		}
	}
}

// TestBehindTheEnd has words stand in a longer list, with others behind their end.
func TestBehindTheEnd(t *testing.T) {
	b := full(t)
	long := append(slices.Clone(b.words), 7, 7, 7)
	held := append(slices.Clone(b.held), -1, -1)
	n := &book{b.l, long[:len(b.words)], held[:len(b.held)]}
	n.is(t, "a part of a longer list", api.OK)
	n.page(t, "a part of a longer list", 14, api.OK)
	if !slices.Equal(long[len(b.words):], []int{7, 7, 7}) || !slices.Equal(held[len(b.held):], []int{-1, -1}) {
		t.Errorf("behind the end are %v and %v", long[len(b.words):], held[len(b.held):])
	}
}

// P21.1: ErrLock

// TestFlag has the flag be any number but 0.
func TestFlag(t *testing.T) {
	for _, b := range []*book{full(t), blank(t, least), blank(t, greatest)} {
		for _, x := range append([]int{1, 2, 3, 63, 64, 65}, beyond...) {
			b.with(layout.Flag, x).is(t, "the flag", api.ErrLock)
		}
	}
}

// TestClock has the clock be at its end, and beyond it, and below 0.
func TestClock(t *testing.T) {
	for _, end := range []int{1, 2, 9, 1 << 20, 1<<40 - 1, 1 << 40} {
		c := some()
		c.Clock = end
		b := blank(t, c)
		for _, x := range []int{0, 1, end / 2, end - 1, end} {
			b.with(layout.Clock, x).is(t, "the clock", api.OK)
		}
		for _, x := range append([]int{end + 1, end + 2, 2*end + 1, 1<<40 + 1}, beyond...) {
			b.with(layout.Clock, x).is(t, "the clock", api.ErrLock)
		}
	}
}

// TestLocks has each lock be free, of a version up to the clock, and beyond it, or held, or none's.
func TestLocks(t *testing.T) {
	many := greatest
	many.Pages = 1
	for _, c := range []api.Config{least, many, some()} {
		for _, clock := range []int{0, 1, c.Clock / 2, c.Clock} {
			b := blank(t, c).with(layout.Clock, clock)
			for i := range c.Stripes {
				for _, v := range []int{0, clock / 2, clock} {
					b.with(layout.Locks+i, 2*v).is(t, "a lock", api.OK)
				}
				for _, x := range append([]int{2*clock + 1, 2*clock + 2, 2*clock + 4, 1, 3, 127, 1<<41 + 4}, beyond...) {
					if x != 2*clock {
						b.with(layout.Locks+i, x).is(t, "a lock", api.ErrLock)
					}
				}
			}
		}
	}
}

// TestAllLocks has all locks be free, each of a version of its own.
func TestAllLocks(t *testing.T) {
	b := blank(t, greatest).with(layout.Clock, 63)
	for i := range 64 {
		b.words[layout.Locks+i] = 2 * i
	}
	b.is(t, "locks of all versions", api.OK)
	b.with(layout.Clock, 62).is(t, "locks of all versions, and a clock that is behind", api.ErrLock)
}

// P21.1, P21.2: ErrKind

// TestTables has each chunk's word be 0, 1, or none of these.
func TestTables(t *testing.T) {
	for _, c := range []api.Config{least, greatest, some()} {
		b := blank(t, c)
		for k := range b.l.Chunks() {
			b.with(b.l.Table(k), 1).is(t, "a chunk without used pages", api.OK)
			for _, x := range append([]int{2, 3, 4, 7, 256, 1<<32 + 1}, beyond...) {
				n := b.with(b.l.Table(k), x)
				n.is(t, "a chunk's word", api.ErrKind)
				n.page(t, "a free page of such a chunk", 4*k, api.OK)
			}
		}
	}
}

// TestNoPage has Page be asked of pages that are none.
func TestNoPage(t *testing.T) {
	for _, b := range []*book{full(t), blank(t, least), blank(t, greatest)} {
		n := b.l.Config().Pages
		for _, p := range append([]int{n, n + 1, n + 4, 2 * n, 257, 1 << 32}, beyond...) {
			b.page(t, "no page", p, api.ErrArg)
		}
		b.page(t, "the last page", n-1, api.OK)
	}
}

// TestNoKind has a page have a Kind that is none, with whatever else.
func TestNoKind(t *testing.T) {
	for _, x := range append([]int{8, 9, 14, 15, 16, 256, 1<<32 + 6, 1 << 32}, beyond...) {
		for _, count := range []int{0, 1, 31, 32, -1} {
			for _, taken := range []int{0, 1, 2, 3, -1} {
				b := full(t)
				b.words[b.l.Kind(7)], b.words[b.l.Count(7)], b.words[b.l.Bits(7)] = x, count, taken
				b.page(t, "a Kind that is none", 7, api.ErrKind)
				b.is(t, "a Kind that is none", api.ErrKind)
			}
		}
	}
}

// TestNotMapped has chunks that have used pages not be mapped, or have a word that is none: all of their pages that are used are told.
func TestNotMapped(t *testing.T) {
	for k := range 3 {
		for _, x := range append([]int{0, 2, 3}, beyond...) {
			b := full(t)
			b.words[b.l.Table(k)] = x
			b.is(t, "not mapped", api.ErrKind)
			for p := range 15 {
				want := api.OK
				if p/4 == k && p != 7 && p != 11 {
					want = api.ErrKind
				}
				b.page(t, "not mapped", p, want)
			}
		}
	}
	b := full(t)
	b.words[b.l.Table(3)] = 1
	b.is(t, "a chunk of free pages is mapped", api.OK)
}

// TestRunOverChunks has a run have pages of two chunks, of which just one is mapped.
func TestRunOverChunks(t *testing.T) {
	b := blank(t, some())
	b.run(2, 5, 130)
	b.is(t, "a run", api.OK)
	for k := range 2 {
		n := b.with(b.l.Table(k), 0)
		n.is(t, "a chunk of a run is not mapped", api.ErrKind)
		for p := 2; p < 7; p++ {
			want := api.OK
			if p/4 == k {
				want = api.ErrKind
			}
			n.page(t, "a chunk of a run is not mapped", p, want)
		}
	}
}

// TestBlank has free pages, and further pages of runs, have a count or bits.
func TestBlank(t *testing.T) {
	b := full(t)
	for _, p := range []int{5, 6, 7, 11, 12, 14} {
		for _, x := range append([]int{1, 2, 3, 31, 32}, beyond...) {
			for _, a := range []int{b.l.Count(p), b.l.Bits(p)} {
				n := b.with(a, x)
				n.page(t, "a page that is not blank", p, api.ErrKind)
				n.is(t, "a page that is not blank", api.ErrKind)
			}
			n := b.with(b.l.Count(p), x).with(b.l.Bits(p), -x)
			n.page(t, "a page that is not blank", p, api.ErrKind)
		}
	}
}

// TestRest has a further page of a run stand behind pages of all Kinds, and behind none.
func TestRest(t *testing.T) {
	for kind := -1; kind <= 9; kind++ {
		b := full(t)
		b.words[b.l.Kind(6)], b.words[b.l.Kind(7)] = kind, 7
		want := api.ErrKind
		if kind == 6 || kind == 7 {
			want = api.OK
		}
		b.page(t, "a further page", 7, want)
		b.is(t, "a further page that is no run's", api.ErrKind)
	}
	b := blank(t, least).with(4, 1)
	b.words[b.l.Kind(0)] = 7
	b.page(t, "a further page that is the first one of all", 0, api.ErrKind)
	b.is(t, "a further page that is the first one of all", api.ErrKind)
}

// TestRunCount has each run's Count be any number.
func TestRunCount(t *testing.T) {
	b := full(t)
	for _, first := range []int{4, 9} {
		right := b.words[b.l.Count(first)]
		for _, x := range append([]int{0, 1, 2, 3, 4, 5, 6, 7, 10, 11, 12, 15, 16, 256, 257, 1 << 32, 1<<32 + 1, 1<<32 + 3}, beyond...) {
			want := api.ErrKind
			if x == right {
				want = api.OK
			}
			n := b.with(b.l.Count(first), x)
			n.page(t, "a run's Count", first, want)
			n.is(t, "a run's Count", want)
		}
		for _, x := range append([]int{1, 2, 7, 32, 1 << 32}, beyond...) {
			n := b.with(b.l.Bits(first), x)
			n.page(t, "a run's Bits", first, api.ErrKind)
			n.is(t, "a run's Bits", api.ErrKind)
		}
	}
}

// TestRunToTheEnd has runs go up to the last page, and say that they go on behind it.
func TestRunToTheEnd(t *testing.T) {
	for _, pages := range []int{1, 2, 3, 4, 5, 8, 9, 256} {
		c := some()
		c.Pages = pages
		for _, n := range []int{1, 2, 3, pages} {
			if n > pages {
				continue
			}
			b := blank(t, c)
			b.run(pages-n, n, 32*n)
			b.is(t, "a run up to the end", api.OK)
			for q := pages - n; q < pages; q++ {
				b.page(t, "a run up to the end", q, api.OK)
			}
			for _, x := range []int{n - 1, n + 1, n + 2, 2*n + 1, math.MaxInt, math.MaxInt - pages, math.MaxInt - pages + n + 1} {
				m := b.with(b.l.Count(pages-n), x)
				m.page(t, "a run beyond the end", pages-n, api.ErrKind)
				m.is(t, "a run beyond the end", api.ErrKind)
			}
		}
	}
}

// TestRunKinds goes through all rows of five pages that are free, have blocks, or are of runs, with all Counts of runs that matter, and holds each page against plain words.
func TestRunKinds(t *testing.T) {
	c := some()
	c.Pages = 5
	b := blank(t, c)
	b.words[b.l.Table(0)], b.words[b.l.Table(1)] = 1, 1
	var row func(p int)
	row = func(p int) {
		if p == 5 {
			b.agrees(t, "a row")
			return
		}
		put := func(kind, count, taken int) {
			b.words[b.l.Kind(p)], b.words[b.l.Count(p)], b.words[b.l.Bits(p)] = kind, count, taken
			row(p + 1)
		}
		put(0, 0, 0)
		put(7, 0, 0)
		put(5, 0, 3)
		for _, count := range []int{0, 1, 2, 3, 5, 6} {
			put(6, count, 0)
		}
	}
	row(0)
}

// TestBits has pages of each class have none of their blocks taken, all of them, and one that is none.
func TestBits(t *testing.T) {
	for c, size := range sizes {
		n := 32 / size
		all := 1<<n - 1
		for _, taken := range []int{1, 2, 1 << (n - 1), all, all - 1, all >> 1} {
			b := blank(t, some())
			b.small(13, c, taken)
			if f := b.words[b.l.Count(13)]; f > 0 {
				b.list(c, f, 13)
			}
			b.is(t, "bits", api.OK)
			b.page(t, "bits", 13, api.OK)
		}
		for _, taken := range append([]int{0, all + 1, all + 2, 1 << (n + 1), 2*all + 1, 1 << 32, 1<<32 + 1, 1 << 33, -all, -all - 1, 1<<40 + 1}, beyond...) {
			for count := range 33 {
				b := blank(t, some())
				b.words[b.l.Table(3)], b.words[b.l.Kind(13)], b.words[b.l.Bits(13)], b.words[b.l.Count(13)] = 1, c+1, taken, count
				b.page(t, "bits that may not be", 13, api.ErrKind)
				b.is(t, "bits that may not be", api.ErrKind)
			}
		}
	}
}

// P21.1, P21.2: ErrCount

// TestCounts has pages of each class count their blocks wrongly, and rightly.
func TestCounts(t *testing.T) {
	for c, size := range sizes {
		n := 32 / size
		for _, taken := range []int{1, 1 << (n - 1), 1<<n - 1, 1<<n - 2, 1 << (n / 2)} {
			b := blank(t, some())
			b.small(13, c, taken)
			right := b.words[b.l.Count(13)]
			for x := -2; x <= 40; x++ {
				want := api.ErrCount
				if x == right {
					want = api.OK
				}
				b.with(b.l.Count(13), x).page(t, "a Count", 13, want)
			}
			for _, x := range append([]int{right + 1<<32, bits.OnesCount(uint(taken)) + 32}, beyond...) {
				m := b.with(b.l.Count(13), x)
				m.page(t, "a Count", 13, api.ErrCount)
				m.is(t, "a Count", api.ErrCount)
			}
		}
	}
}

// P21.1: ErrList

// TestLists has three pages be in one list in all orders, with the whole of them, and with one of them left out.
func TestLists(t *testing.T) {
	for c, size := range sizes {
		f := 32/size - 1
		for _, order := range [][]int{{1, 6, 12}, {1, 12, 6}, {6, 1, 12}, {6, 12, 1}, {12, 1, 6}, {12, 6, 1}} {
			b := blank(t, some())
			for _, p := range order {
				b.small(p, c, 1)
			}
			b.list(c, f, order...)
			b.is(t, "a list", api.OK)
			for i := range order {
				n := blank(t, some())
				for _, p := range order {
					n.small(p, c, 1)
				}
				n.list(c, f, slices.Delete(slices.Clone(order), i, i+1)...)
				n.is(t, "a list that lacks a page", api.ErrList)
			}
		}
	}
}

// TestListEnds has Head and Next words lead to pages that are none.
func TestListEnds(t *testing.T) {
	b := full(t)
	for _, x := range append([]int{16, 17, 31, 257, 1 << 32, 1<<32 + 3}, beyond...) {
		for c, size := range sizes {
			for f := 1; f <= 32/size; f++ {
				b.with(b.l.Head(c, f), x).is(t, "a Head that leads to no page", api.ErrList)
			}
		}
		for p := range 15 {
			b.with(b.l.Next(p), x).is(t, "a Next that leads to no page", api.ErrList)
			b.with(b.l.Prev(p), x).is(t, "a Prev that leads to no page", api.ErrList)
		}
	}
}

// TestListOf has each page be the only one of each list that has none, and each page be put behind each list: but for where they belong they may not be there.
func TestListOf(t *testing.T) {
	b := full(t)
	for c, size := range sizes {
		for f := 1; f <= 32/size; f++ {
			for p := range 15 {
				want := api.ErrList
				if b.words[b.l.Head(c, f)] == p+1 {
					want = api.OK
				}
				b.with(b.l.Head(c, f), p+1).is(t, "a Head", want)
			}
		}
	}
	for p := range 15 {
		for q := range 15 {
			want := api.ErrList
			if b.words[b.l.Next(p)] == q+1 {
				want = api.OK
			}
			b.with(b.l.Next(p), q+1).is(t, "a Next", want)
			n := b.with(b.l.Next(p), q+1).with(b.l.Prev(q), p+1)
			n.is(t, "a Next, and the Prev that it asks for", want)
		}
	}
}

// TestListMoved has a page that is alone in its list be in another one, with all that leads to it as it is to be there.
func TestListMoved(t *testing.T) {
	for c, size := range sizes {
		for k, other := range sizes {
			for f := 1; f <= 32/other; f++ {
				b := blank(t, some())
				b.small(2, c, 1)
				b.list(k, f, 2)
				want := api.ErrList
				if k == c && f == 32/size-1 {
					want = api.OK
				}
				b.is(t, "a page in a list", want)
			}
		}
	}
}

// TestListOtherClass has pages of two classes with the same Count be in one list.
func TestListOtherClass(t *testing.T) {
	b := blank(t, some())
	b.small(1, 3, 0x7)
	b.small(2, 4, 0x2)
	b.list(3, 1, 1)
	b.list(4, 1, 2)
	b.is(t, "two lists", api.OK)
	for _, order := range [][]int{{1, 2}, {2, 1}} {
		for _, c := range []int{3, 4} {
			n := b.copied()
			n.words[n.l.Head(3, 1)], n.words[n.l.Head(4, 1)] = 0, 0
			n.list(c, 1, order...)
			n.is(t, "one list of two classes", api.ErrList)
		}
	}
}

// TestListRound has lists that go round: the call ends.
func TestListRound(t *testing.T) {
	b := blank(t, some())
	for p := range 4 {
		b.small(p, 1, 3)
	}
	b.list(1, 14, 0, 1, 2, 3)
	b.is(t, "a list", api.OK)
	for p := range 4 {
		n := b.with(b.l.Next(3), p+1)
		n.is(t, "a list that goes round", api.ErrList)
		n.with(b.l.Prev(p), 4).is(t, "a list that goes round, back and forth", api.ErrList)
		b.with(b.l.Next(p), p+1).with(b.l.Prev(p), p+1).is(t, "a page behind itself", api.ErrList)
	}
}

// TestListTwice has two lists have one page.
func TestListTwice(t *testing.T) {
	b := blank(t, some())
	for p := range 4 {
		b.small(p, 1, 1<<(p/2+1)-1)
	}
	b.list(1, 15, 0, 1)
	b.list(1, 14, 2, 3)
	b.is(t, "two lists", api.OK)
	b.with(b.l.Next(1), 3).is(t, "one list that ends with the other one", api.ErrList)
	b.with(b.l.Next(1), 4).is(t, "two lists that end with one page", api.ErrList)
	b.with(b.l.Head(1, 14), 1).is(t, "two lists that are one", api.ErrList)
	b.with(b.l.Head(2, 7), 3).is(t, "a list that another one of another class is, too", api.ErrList)
}

// TestPrev has each page's Prev be of each other page, and of none.
func TestPrev(t *testing.T) {
	b := full(t)
	for p := range 15 {
		for x := range 17 {
			want := api.ErrList
			if x == b.words[b.l.Prev(p)] {
				want = api.OK
			}
			b.with(b.l.Prev(p), x).is(t, "a Prev", want)
		}
	}
}

// TestInNone has pages be in no list: full ones, and such as are no class's, may be; none of them leads on.
func TestInNone(t *testing.T) {
	b := full(t)
	b.with(b.l.Head(4, 1), 0).is(t, "a page that is in no list", api.ErrList)
	b.with(b.l.Head(2, 4), 0).is(t, "two pages that are in no list", api.ErrList)
	b.with(b.l.Next(2), 0).is(t, "a page behind the end of its list", api.ErrList)
	b.with(b.l.Next(2), 0).with(b.l.Prev(1), 0).is(t, "a page that is in no list", api.ErrList)
	for _, p := range []int{0, 4, 5, 6, 7, 9, 11, 12, 14} {
		for x := 1; x <= 16; x++ {
			b.with(b.l.Next(p), x).is(t, "a page in no list that has a Next", api.ErrList)
			b.with(b.l.Prev(p), x).is(t, "a page in no list that has a Prev", api.ErrList)
		}
	}
}

// P21.1: ErrCache

// shelves tells all stacks' and bins' first words, by their classes, with how many things each may have.
func (b *book) shelves() (list []struct{ class, base, limit int }) {
	for c := range sizes {
		for cpu := range b.l.Config().CPUs {
			list = append(list, struct{ class, base, limit int }{c, b.l.Cache(cpu, c), b.l.Config().Cache})
		}
		list = append(list, struct{ class, base, limit int }{c, b.l.Bin(c), b.l.Config().Bin})
	}
	return list
}

// TestShelfCount has stacks and bins have numbers of things that they may not have, those too that have no room at all.
func TestShelfCount(t *testing.T) {
	for _, b := range []*book{full(t), blank(t, some()), blank(t, least), blank(t, greatest)} {
		for _, s := range b.shelves() {
			for _, x := range append([]int{s.limit + 1, s.limit + 2, 17, 64, 1 << 32, 1<<32 + 1}, beyond...) {
				b.with(s.base, x).is(t, "a number of things", api.ErrCache)
			}
		}
	}
}

// TestShelves has each stack and each bin keep as many blocks of its class as it has room for, and the purses the others, of all classes.
func TestShelves(t *testing.T) {
	for _, c := range []api.Config{some(), greatest} {
		for i := range blank(t, c).shelves() {
			b := blank(t, c)
			s := b.shelves()[i]
			var blocks []int
			for p := range 3 + s.limit*sizes[s.class]/32 {
				b.small(p, s.class, 1<<(32/sizes[s.class])-1)
				for j := range 32 / sizes[s.class] {
					blocks = append(blocks, b.block(p, j))
				}
			}
			for n := range s.limit + 1 {
				m := b.copied()
				m.stack(s.base, blocks[:n]...)
				m.is(t, "a stack or bin", api.OK)
				m.hold(blocks[n:]...)
				m.is(t, "a stack or bin, and all else held", api.OK)
			}
			for k := range b.shelves() {
				o := b.shelves()[k]
				m := b.copied()
				m.stack(o.base, blocks[0])
				want := api.ErrCache
				if o.class == s.class {
					want = api.OK
				}
				m.is(t, "a block in a stack or bin", want)
			}
		}
	}
}

// TestNotTaken has things be kept that are no taken blocks: in stacks, in bins, and held.
func TestNotTaken(t *testing.T) {
	b := full(t)
	wrong := append([]int{0, 1, 2, 3, 4, 16, b.l.User() - 1, b.l.Words(), b.l.Words() + 1}, beyond...)
	for p := range 15 {
		a := b.l.Addr(p)
		wrong = append(wrong, a+3)
		switch b.words[b.l.Kind(p)] {
		case 0, 6, 7:
			wrong = append(wrong, a, a+8, a+16)
		case 3:
			wrong = append(wrong, a+1, a+2, a+28+3)
		case 4:
			wrong = append(wrong, a+8, a+4)
		case 5:
			wrong = append(wrong, a, a+8, a+24)
		}
	}
	wrong = slices.DeleteFunc(wrong, func(a int) bool { return a >= b.l.Addr(0) && a < b.l.Addr(1) })
	wrong = append(wrong, b.block(1, 4), b.block(1, 7), b.block(2, 0), b.block(2, 3), b.block(3, 1), b.block(8, 0), b.block(10, 1))
	for _, a := range wrong {
		for _, s := range b.shelves() {
			for i := range b.words[s.base] {
				b.with(s.base+1+i, a).is(t, "what is no taken block", api.ErrCache)
			}
		}
		for i := range len(b.held) + 1 {
			n := b.copied()
			n.held = slices.Insert(n.held, i, a)
			n.is(t, "what is no taken block, held", api.ErrCache)
		}
	}
}

// TestTwice has each thing that is kept be kept in each other place, too.
func TestTwice(t *testing.T) {
	b := full(t)
	all := slices.Clone(b.held)
	var places []int
	for _, s := range b.shelves() {
		for i := range b.words[s.base] {
			all = append(all, b.words[s.base+1+i])
			places = append(places, s.base+1+i)
		}
	}
	for _, a := range all {
		for _, place := range places {
			want := api.ErrCache
			if b.words[place] == a {
				want = api.OK
			}
			b.with(place, a).is(t, "a block that is kept twice", want)
		}
		for i := range len(b.held) + 1 {
			n := b.copied()
			n.held = slices.Insert(n.held, i, a)
			n.is(t, "a block that is held, too", api.ErrCache)
		}
		for _, s := range b.shelves() {
			if n := b.words[s.base]; n < s.limit {
				b.with(s.base+1+n, a).with(s.base, n+1).is(t, "a block that is pushed again", api.ErrCache)
			}
		}
	}
}

// TestOtherClass has a stack or bin keep a taken block of another class, in each place, with the one that stood there held.
func TestOtherClass(t *testing.T) {
	b := full(t)
	for _, s := range b.shelves() {
		for i := range b.words[s.base] {
			for j, a := range b.held {
				n := b.copied()
				n.words[s.base+1+i], n.held[j] = a, n.words[s.base+1+i]
				want := api.OK
				if kind := b.words[b.l.Kind((a-b.l.User())/32)]; kind != s.class+1 {
					want = api.ErrCache
				}
				n.is(t, "two that change places", want)
			}
		}
	}
}

// TestHeld has purses hold the same blocks in all orders, and no blocks be none or empty alike.
func TestHeld(t *testing.T) {
	b := full(t)
	for i := range b.held {
		for j := range b.held {
			n := b.copied()
			n.held[i], n.held[j] = n.held[j], n.held[i]
			n.is(t, "held in another order", api.OK)
		}
		n := b.copied()
		n.held = slices.Delete(n.held, i, i+1)
		n.is(t, "one that is not held any more", api.ErrLive)
	}
	for _, held := range [][]int{nil, {}} {
		n := b.copied()
		n.held = held
		n.is(t, "nothing is held", api.ErrLive)
		z := blank(t, least)
		z.held = held
		z.is(t, "nothing is held", api.OK)
	}
}

// P21.1: ErrLive

// TestLiveWords has each Live word be each number around what it may be.
func TestLiveWords(t *testing.T) {
	b := full(t)
	for a := b.l.User(); a < b.l.Words(); a++ {
		w := b.l.Live(a)
		was := b.words[w]
		// most is how great the word may be; it is 0 where no block begins that could be live.
		most := 0
		if was != 0 {
			switch p := (a - b.l.User()) / 32; b.words[b.l.Kind(p)] {
			case 6:
				most = 1 + 32*b.words[b.l.Count(p)]
			default:
				most = 1 + sizes[b.words[b.l.Kind(p)]-1]
			}
		}
		for _, x := range append([]int{0, 1, 2, 3, 4, 5, 6, 9, 10, 16, 17, 18, 32, 33, 34, 96, 97, 98, 99, 1 << 20, 1<<20 + 1, 1<<20 + 2, 1 << 32, 1<<32 + 1}, beyond...) {
			want := api.ErrLive
			if x == was || x >= 1 && x <= most {
				want = api.OK
			}
			b.with(w, x).is(t, "a Live word", want)
		}
	}
}

// TestLost has blocks of each class, and runs, be live, kept, both or neither.
func TestLost(t *testing.T) {
	for c := range sizes {
		for _, where := range []int{0, 1, 2, 3} {
			b := blank(t, some())
			b.small(14, c, 1<<(32/sizes[c])-1)
			a := b.block(14, 32/sizes[c]-1)
			b.with(b.l.Live(a), 0).is(t, "a block that is lost", api.ErrLive)
			switch where {
			case 0:
				b.stack(b.l.Cache(0, c), a)
			case 1:
				b.stack(b.l.Cache(1, c), a)
			case 2:
				b.stack(b.l.Bin(c), a)
			default:
				b.hold(a)
			}
			b.is(t, "a block that is kept", api.OK)
			for _, asked := range []int{0, 1, sizes[c]} {
				b.with(b.l.Live(a), 1+asked).is(t, "a block that is kept and live", api.ErrLive)
			}
		}
	}
}

// TestRunLives has runs be of as many words as were asked for, and be lost.
func TestRunLives(t *testing.T) {
	for _, n := range []int{1, 2, 3, 15} {
		b := blank(t, some())
		b.run(0, n, 0)
		w := b.l.Live(b.l.Addr(0))
		for _, asked := range []int{0, 1, 31, 32, 32*n - 1, 32 * n} {
			b.with(w, 1+asked).is(t, "a run", api.OK)
		}
		for _, x := range append([]int{0, 32*n + 2, 32*n + 3, 1 << 20}, beyond...) {
			b.with(w, x).is(t, "a run", api.ErrLive)
		}
		for i := 1; i < 32*n; i++ {
			b.with(w+i, 1).is(t, "a further word of a run", api.ErrLive)
		}
	}
	b := blank(t, greatest)
	b.run(0, 256, 256*32)
	b.is(t, "all pages are one block", api.OK)
	b.with(b.l.Live(b.l.User()), 256*32+2).is(t, "a word more than all", api.ErrLive)
}

// Several at once

// fault is something wrong: what it is told as, and words that are so.
type fault struct {
	e api.Errno
	b func(b *book)
}

// faults tells things that are wrong, some ahead of others, and some behind them, in a full book.
func faults(b *book) []fault {
	put := func(e api.Errno, a, x int) fault { return fault{e, func(b *book) { b.words[a] = x }} }
	hold := func(a int) fault { return fault{api.ErrCache, func(b *book) { b.held = append(b.held, a) }} }
	return []fault{
		{api.ErrArg, func(b *book) { b.words = b.words[:len(b.words)-1] }},
		{api.ErrArg, func(b *book) { b.words = append(b.words, 0) }},
		{api.ErrArg, func(b *book) { b.words = nil }},
		put(api.ErrLock, layout.Flag, 2),
		put(api.ErrLock, layout.Clock, -1),
		put(api.ErrLock, layout.Clock, 10),
		put(api.ErrLock, layout.Locks, 1),
		put(api.ErrLock, layout.Locks+2, 20),
		put(api.ErrKind, b.l.Table(0), 2),
		put(api.ErrKind, b.l.Table(3), -1),
		put(api.ErrKind, b.l.Kind(0), 8),
		put(api.ErrKind, b.l.Kind(14), -1),
		put(api.ErrKind, b.l.Bits(11), 1),
		put(api.ErrKind, b.l.Count(4), 4),
		put(api.ErrCount, b.l.Count(0), 1),
		put(api.ErrCount, b.l.Count(10), 2),
		put(api.ErrCount, b.l.Bits(3), 3),
		put(api.ErrList, b.l.Head(0, 1), 1),
		put(api.ErrList, b.l.Head(2, 4), 0),
		put(api.ErrList, b.l.Next(14), 1),
		put(api.ErrList, b.l.Prev(8), 9),
		put(api.ErrCache, b.l.Cache(0, 0), 1),
		put(api.ErrCache, b.l.Cache(0, 4), -1),
		put(api.ErrCache, b.l.Bin(4), 4),
		put(api.ErrCache, b.l.Bin(0)+1, 0),
		hold(b.block(0, 31)),
		hold(b.l.Addr(4)),
		put(api.ErrLive, b.l.Live(b.l.User()), 1),
		put(api.ErrLive, b.l.Live(b.l.Addr(4)), 0),
		put(api.ErrLive, b.l.Live(b.l.Words()-1), 5),
		put(api.ErrLive, b.l.Live(b.block(1, 3)), 0),
	}
}

// TestFirst has each two, and each three, of many things be wrong: the one that is named first is told, wherever they stand.
func TestFirst(t *testing.T) {
	for i, f := range faults(full(t)) {
		one := full(t)
		f.b(one)
		one.is(t, "one thing", f.e)
		for j, g := range faults(full(t)) {
			two := one.copied()
			if len(two.words) != two.l.Words() || i == j {
				continue
			}
			g.b(two)
			want := min(order(f.e), order(g.e))
			two.is(t, "two things", ordered[want])
			if j < i || len(two.words) != two.l.Words() {
				continue
			}
			for _, h := range faults(full(t))[j+1:] {
				three := two.copied()
				h.b(three)
				three.is(t, "three things", ordered[min(want, order(h.e))])
			}
		}
	}
}

// ordered are all errors, as the chapter names them, and OK.
var ordered = []api.Errno{api.ErrArg, api.ErrLock, api.ErrKind, api.ErrCount, api.ErrList, api.ErrCache, api.ErrLive, api.OK}

// order tells which one an error is.
func order(e api.Errno) int { return slices.Index(ordered, e) }

// TestNumbers holds the errors against their numbers.
func TestNumbers(t *testing.T) {
	for i, e := range []int{2, 16, 11, 12, 13, 14, 15, 0} {
		if int(ordered[i]) != e {
			t.Errorf("the error %d is %d, want %d", i, ordered[i], e)
		}
	}
}

// TestPageAlone has Page tell nothing of what stands in other words: the flag, locks, lists, stacks, bins, and what is live.
func TestPageAlone(t *testing.T) {
	b := full(t)
	for a := range b.words {
		if a >= b.l.Table(0) && a < b.l.Next(0) {
			continue
		}
		for _, x := range []int{1, -1, math.MaxInt} {
			n := b.with(a, x)
			for p := range 15 {
				n.page(t, "a word that is no page's", p, api.OK)
			}
		}
	}
}

// TestPageOfOthers has one page's bits be wrong: of all others Page tells what it told.
func TestPageOfOthers(t *testing.T) {
	b := full(t)
	for p := range 15 {
		n := b.with(b.l.Bits(p), -1)
		for q := range 15 {
			want := api.OK
			if q == p {
				want = api.ErrKind
			}
			n.page(t, "another page is wrong", q, want)
		}
	}
}

// TestUnchanged has Check and Page leave what they are handed as it is, and tell the same again.
func TestUnchanged(t *testing.T) {
	for _, f := range append(faults(full(t)), fault{api.OK, func(*book) {}}) {
		b := full(t)
		f.b(b)
		slices.Reverse(b.held)
		n := b.copied()
		for range 2 {
			b.is(t, "again", f.e)
			for p := -1; p < 16; p++ {
				audit.Page(b.l, b.words, p)
			}
		}
		if !slices.Equal(b.words, n.words) || !slices.Equal(b.held, n.held) {
			t.Errorf("with the error %d words or what is held are changed", f.e)
		}
	}
}

// P21.3 and P21.4: alone

// config makes a configuration that may be, of a few pages.
func config(next func(n int) int) api.Config {
	return api.Config{
		Workers: 1 + next(4), CPUs: 1 + next(3), Pages: 1 + next(9), Stripes: 1 + next(4), Tries: next(3), Wait: next(3), Clock: 1 + next(50),
		Private: 1 + next(3), Cache: next(4), Bin: next(4), Batch: 1 + next(4),
	}
}

// heap is an allocator alone, with the blocks that it told.
type heap struct {
	*alone.Heap
	l    layout.Layout
	told []int
}

// newHeap tells a heap of a configuration that may be.
func newHeap(t *testing.T, c api.Config) *heap {
	t.Helper()
	h, e := alone.New(c)
	if e != api.OK {
		t.Fatalf("a heap of %v: error %d", c, e)
	}
	return &heap{Heap: h, l: laid(t, c)}
}

// book tells all words of a heap, with all purses.
func (h *heap) book() *book {
	b := &book{l: h.l, words: h.Words()}
	for worker := range h.l.Config().Workers {
		b.held = append(b.held, h.Purse(worker)...)
	}
	return b
}

// step makes a call, mostly one that may be, and has it done.
func (h *heap) step(next func(n int) int) {
	worker, cpu := next(h.l.Config().Workers), next(h.l.Config().CPUs)
	c := api.Call{Kind: kinds[next(len(kinds))], Size: next(20), Align: 1 << next(8), Value: next(900) - 300}
	if c.Kind == api.CExit && next(8) > 0 {
		c.Kind = api.CMalloc
	}
	if len(h.told) > 0 && next(8) > 0 {
		c.Addr = h.told[next(len(h.told))]
	}
	switch next(16) {
	case 0:
		worker = next(8) - 2
	case 1:
		cpu = next(8) - 2
	case 2:
		c.Size = next(40 * h.l.Config().Pages)
	case 3:
		c.Size = 33 + next(100)
	case 4:
		c.Addr = beyond[next(len(beyond))]
	case 5:
		c.Kind = next(20) - 3
	case 6:
		c.Addr = h.l.User() + next(32*h.l.Config().Pages)
	}
	if r := h.Do(worker, cpu, c); r.Addr != 0 {
		h.told = append(h.told, r.Addr)
	}
}

// TestAlone has calls be done, one behind the other: behind each the words may be.
func TestAlone(t *testing.T) {
	for seed := range 150 {
		next := made(seed)
		h := newHeap(t, config(next))
		for range 120 {
			h.step(next)
			if e := h.book().agrees(t, "alone"); e != api.OK {
				t.Fatalf("seed %d: plain words tell %d", seed, e)
			}
		}
	}
}

// TestAloneGreatest does so with a configuration of which all numbers are as great as they may be, at times.
func TestAloneGreatest(t *testing.T) {
	next := made(4321)
	h := newHeap(t, greatest)
	for i := range 1500 {
		h.step(next)
		if i%50 == 0 {
			h.book().is(t, "the greatest one, alone", api.OK)
		}
	}
	if e := h.book().agrees(t, "the greatest one, alone"); e != api.OK {
		t.Errorf("plain words tell %d", e)
	}
}

// TestPurses has one purse be left out, or told twice: that is told, if it has something.
func TestPurses(t *testing.T) {
	for seed := range 60 {
		next := made(seed)
		h := newHeap(t, config(next))
		for range 60 {
			h.step(next)
			for left := range h.l.Config().Workers {
				less, more := h.book(), h.book()
				less.held = nil
				for worker := range h.l.Config().Workers {
					if worker != left {
						less.held = append(less.held, h.Purse(worker)...)
					}
				}
				more.held = append(more.held, h.Purse(left)...)
				if len(h.Purse(left)) == 0 {
					less.is(t, "an empty purse is left out", api.OK)
					more.is(t, "an empty purse is told twice", api.OK)
					continue
				}
				less.is(t, "a purse is left out", api.ErrLive)
				more.is(t, "a purse is told twice", api.ErrCache)
			}
		}
	}
}

// places tells all words Kind, Count, Bits, Next, Prev and Head.
func places(l layout.Layout) []int {
	var all []int
	for a := l.Kind(0); a < l.Cache(0, 0); a++ {
		all = append(all, a)
	}
	return all
}

// TestPlaces holds these places against the words by their names.
func TestPlaces(t *testing.T) {
	l := laid(t, some())
	n := 0
	all := places(l)
	for p := range 15 {
		for _, a := range []int{l.Kind(p), l.Count(p), l.Bits(p), l.Next(p), l.Prev(p)} {
			n++
			if !slices.Contains(all, a) {
				t.Errorf("the word %d of the page %d is left out", a, p)
			}
		}
	}
	for c, size := range sizes {
		for f := 1; f <= 32/size; f++ {
			n++
			if !slices.Contains(all, l.Head(c, f)) {
				t.Errorf("Head of %d, %d is left out", c, f)
			}
		}
	}
	if n != len(all) {
		t.Errorf("%d words, want %d", len(all), n)
	}
}

// TestTold has each of these words be another number behind made calls: that is told.
func TestTold(t *testing.T) {
	for seed := range 18 {
		next := made(seed + 500)
		h := newHeap(t, config(next))
		for range 2 {
			for range 30 {
				h.step(next)
			}
			b := h.book()
			for _, a := range places(h.l) {
				told(t, b, a, next)
			}
		}
	}
}

// told has a word be other numbers: those around what it is, those that differ by a bit, some that say something of pages and lists, and such as say nothing.
func told(t *testing.T, b *book, a int, next func(n int) int) {
	t.Helper()
	was := b.words[a]
	numbers := append([]int{-was, was << 1, was >> 1, ^was, was + 1<<32, 1<<32 - 1, next(1 << 32), next(1 << 16), next(1 << 8)}, beyond...)
	for x := range 12 {
		numbers = append(numbers, x, was-6+x)
	}
	for i := range 64 {
		numbers = append(numbers, was^1<<i)
	}
	if was == 0 {
		numbers = append(numbers, 31, 32, 1<<32)
	}
	for _, x := range numbers {
		b.words[a] = x
		if e := audit.Check(b.l, b.words, b.held); (e == api.OK) != (x == was) {
			t.Errorf("the word %d is %d, and was %d: Check tells %d", a, x, was, e)
		}
	}
	b.words[a] = was
}

// TestToldBits has all other bits of pages with few blocks be told, those too of which as many are 1.
func TestToldBits(t *testing.T) {
	b := full(t)
	for _, p := range []int{1, 2, 3, 8, 10} {
		was := b.words[b.l.Bits(p)]
		for x := range 1 << 9 {
			e := audit.Check(b.l, b.with(b.l.Bits(p), x).words, b.held)
			if (e == api.OK) != (x == was) {
				t.Errorf("the bits of the page %d are %d, and were %d: Check tells %d", p, x, was, e)
			}
		}
	}
}

// odd makes a number that may stand in a word, or not.
func odd(b *book, next func(n int) int) int {
	switch next(6) {
	case 0:
		return beyond[next(len(beyond))]
	case 1:
		return b.l.User() + next(b.l.Words()-b.l.User())
	case 2:
		return next(1 << next(34))
	case 3:
		return b.words[next(len(b.words))]
	default:
		return next(20) - 2
	}
}

// TestRows has some words of a heap, or what is held, be others, and holds all against plain words.
func TestRows(t *testing.T) {
	times := map[api.Errno]int{}
	for seed := range 400 {
		next := made(seed + 1000)
		h := newHeap(t, config(next))
		for range 40 {
			h.step(next)
		}
		for range 60 {
			b := h.book()
			from, to := part(b.l, next)
			for range 1 + next(3) {
				b.words[from+next(to-from)] = odd(b, next)
			}
			if next(8) == 0 {
				b.held = append(b.held, odd(b, next))
			}
			if n := len(b.held); n > 0 && next(8) == 0 {
				b.held = b.held[:next(n)]
			}
			times[b.agrees(t, "a row")]++
		}
	}
	for _, e := range ordered[1:] {
		if times[e] < 100 {
			t.Errorf("the error %d is told %d times: %v", e, times[e], times)
		}
	}
}

// part makes a part of an arena: from which word on, and up to which one. The locks are not often among them, as what is wrong there hides all else.
func part(l layout.Layout, next func(n int) int) (int, int) {
	ends := []int{0, l.Table(0), l.Kind(0), l.Count(0), l.Bits(0), l.Next(0), l.Prev(0), l.Head(0, 1), l.Cache(0, 0), l.Bin(0), l.Live(l.User()), l.Words()}
	i := next(len(ends) - 1)
	if i == 0 && next(4) > 0 {
		i = 6
	}
	return ends[i], ends[i+1]
}

// TestEnds has all words of a part be numbers that say nothing, or anything: each call ends, and tells what plain words tell.
func TestEnds(t *testing.T) {
	for seed := range 300 {
		next := made(seed + 3000)
		h := newHeap(t, config(next))
		for range 20 {
			h.step(next)
		}
		for range 10 {
			b := h.book()
			from, to := part(b.l, next)
			for a := from; a < to; a++ {
				b.words[a] = odd(b, next)
			}
			for range next(5) {
				b.held = append(b.held, odd(b, next))
			}
			b.agrees(t, "a part of anything")
		}
	}
}
