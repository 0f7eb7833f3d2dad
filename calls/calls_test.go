package calls_test

import (
	"math"
	"slices"
	"testing"

	"assart/api"
	"assart/block"
	"assart/calls"
	"assart/chunk"
	"assart/extent"
	"assart/front"
	"assart/layout"
	"assart/live"
	"assart/pages"
	"assart/purse"
	"assart/tally"
	"assart/view"
)

// beyond are numbers that are no address, size, alignment, CPU or kind; some of them wrap round to small ones when something is added, or when they are multiplied.
var beyond = []int{math.MinInt, math.MinInt + 1, math.MinInt32, -1 << 20, -257, -129, -128, -33, -32, -17, -4, -3, -2, -1, 1 << 20, 1<<20 + 1, 1 << 31, 1 << 32, 1<<32 + 1, 1 << 58, 1 << 59, 1 << 62, math.MaxInt - 128, math.MaxInt - 31, math.MaxInt - 30, math.MaxInt - 1, math.MaxInt}

// sizes are how many words each class's blocks have.
var sizes = []int{1, 2, 4, 8, 16}

// kinds are all kinds of calls.
var kinds = []int{api.CMalloc, api.CFree, api.CCalloc, api.CRealloc, api.CAligned, api.CUsable, api.CFlush, api.CTrim, api.CExit, api.CStats, api.CLoad, api.CStore}

// made tells the layout of a configuration, of which what does not matter here may be left out.
func made(t *testing.T, c api.Config) layout.Layout {
	t.Helper()
	c.Workers, c.Stripes, c.Clock = 2, 3, 9
	l, e := layout.Of(c)
	if e != api.OK {
		t.Fatalf("a layout of %v: error %d", c, e)
	}
	return l
}

// two tells the layout of so many pages, and two CPUs, with room for some blocks everywhere.
func two(t *testing.T, pages int) layout.Layout {
	t.Helper()
	return made(t, api.Config{CPUs: 2, Pages: pages, Private: 2, Cache: 2, Bin: 2, Batch: 2})
}

// bare tells the layout of so many pages, and one CPU, where as little as can be is kept.
func bare(t *testing.T, pages int) layout.Layout {
	t.Helper()
	return made(t, api.Config{CPUs: 1, Pages: pages, Private: 1, Batch: 1})
}

// heap is an arena's words, and what two workers keep.
type heap struct {
	l      layout.Layout
	words  []int
	purses [2]purse.Purse
}

// newHeap tells one of which nothing was ever taken. In its user words, and in those ahead of the tables, something stands.
func newHeap(l layout.Layout) *heap {
	words := make([]int, l.Words())
	for a := range words {
		if a < l.Table(0) || a >= l.User() {
			words[a] = 7000 + a
		}
	}
	return &heap{l: l, words: words}
}

// copy tells one apart.
func (h *heap) copy() *heap {
	other := *h
	other.words = slices.Clone(h.words)
	return &other
}

// over does a program over the heap's words, all of which are known ahead.
func (h *heap) over(t *testing.T, prog func(v *view.View)) {
	t.Helper()
	known := make([]api.Pair, len(h.words))
	for a, x := range h.words {
		known[a] = api.Pair{Addr: a, Val: x}
	}
	need, wrote := view.Run(known, prog)
	if need != -1 {
		t.Fatalf("of %v: needs %d", h.l.Config(), need)
	}
	h.words = slices.Clone(h.words)
	for _, x := range wrote {
		h.words[x.Addr] = x.Val
	}
}

// does has a worker's call done on a CPU, and holds what changes by that against what may change by any call of its kind.
func (h *heap) does(t *testing.T, worker, cpu int, c api.Call) api.Reply {
	t.Helper()
	old := h.copy()
	var r api.Reply
	ended := false
	words, _, e := view.Do(h.words, func(v *view.View) {
		r, h.purses[worker] = calls.Do(v, h.l, cpu, old.purses[worker], c)
		ended = true
	})
	if e != api.OK || !ended {
		t.Fatalf("of %v: %v ends %t, with the error %d", h.l.Config(), c, ended, e)
	}
	h.words = words
	if r.Err != api.OK {
		if r != (api.Reply{Err: r.Err}) || !slices.Equal(h.words, old.words) || !slices.Equal(h.purses[worker].All(), old.purses[worker].All()) {
			t.Errorf("of %v: refused, %v tells %v, or changes something", h.l.Config(), c, r)
		}
		return r
	}
	for a, x := range h.words {
		if x != old.words[a] && !may(h.l, c, r, a) {
			t.Errorf("of %v: %v, answered %v, changes the word %d from %d to %d", h.l.Config(), c, r, a, old.words[a], x)
		}
	}
	return r
}

// may tells whether a call that was answered so may change the word at a.
func may(l layout.Layout, c api.Call, r api.Reply, a int) bool {
	first := l.Live(l.User())
	switch {
	case a < l.Table(0):
		return false
	case a < first:
		return c.Kind != api.CUsable && c.Kind != api.CStats && c.Kind != api.CLoad && c.Kind != api.CStore
	case a < first+32*l.Config().Pages:
		return c.Kind <= api.CAligned && (a == l.Live(c.Addr) || a == l.Live(r.Addr))
	case c.Kind == api.CCalloc || c.Kind == api.CRealloc && r.Addr != c.Addr:
		return a >= r.Addr && a < r.Addr+r.Size
	}
	return c.Kind == api.CStore && a == c.Addr
}

// gets has a call done that tells a block, and tells its address.
func (h *heap) gets(t *testing.T, worker, cpu int, c api.Call) int {
	t.Helper()
	r := h.does(t, worker, cpu, c)
	if r.Err != api.OK || r.Addr < h.l.User() || r.Size < c.Size {
		t.Fatalf("of %v: %v is answered %v", h.l.Config(), c, r)
	}
	return r.Addr
}

// malloc has worker 0 have a block of n words, on CPU 0.
func (h *heap) malloc(t *testing.T, n int) int {
	t.Helper()
	return h.gets(t, 0, 0, api.Call{Kind: api.CMalloc, Size: n})
}

// free has worker 0 give a block back, on CPU 0.
func (h *heap) free(t *testing.T, a int) {
	t.Helper()
	h.is(t, api.Call{Kind: api.CFree, Addr: a}, api.Reply{})
}

// is holds worker 0's call on CPU 0 against its reply.
func (h *heap) is(t *testing.T, c api.Call, want api.Reply) {
	t.Helper()
	if r := h.does(t, 0, 0, c); r != want {
		t.Errorf("of %v: %v is answered %v, want %v", h.l.Config(), c, r, want)
	}
}

// lives tells all live blocks, each with how many words were asked for.
func (h *heap) lives(t *testing.T) []api.Pair {
	t.Helper()
	var all []api.Pair
	h.over(t, func(v *view.View) { all = live.All(v, h.l) })
	return all
}

// has holds all live blocks against these: each one's address, and how many words were asked for.
func (h *heap) has(t *testing.T, want ...api.Pair) {
	t.Helper()
	if all := h.lives(t); !slices.Equal(all, want) {
		t.Errorf("of %v: live are %v, want %v", h.l.Config(), all, want)
	}
}

// same holds two heaps against each other.
func same(t *testing.T, what string, h, other *heap) {
	t.Helper()
	for a := range h.words {
		if h.words[a] != other.words[a] {
			t.Errorf("%s: the word %d is %d, want %d", what, a, h.words[a], other.words[a])
		}
	}
	for i := range h.purses {
		for c := range sizes {
			if list, want := h.purses[i].List(c), other.purses[i].List(c); !slices.Equal(list, want) {
				t.Errorf("%s: of class %d the purse %d has %v, want %v", what, c, i, list, want)
			}
		}
	}
}

// blind does a program that knows nothing, and holds it against needing and writing nothing.
func blind(t *testing.T, what string, prog func(v *view.View)) {
	t.Helper()
	if need, wrote := view.Run(nil, prog); need != -1 || len(wrote) != 0 {
		t.Errorf("%s: needs %d, wrote %v", what, need, wrote)
	}
}

// asks tells by plain rules whether a call may be.
func asks(c api.Call) api.Errno {
	if !slices.Contains(kinds, c.Kind) {
		return api.ErrArg
	}
	if c.Size < 0 && slices.Contains([]int{api.CMalloc, api.CCalloc, api.CRealloc, api.CAligned}, c.Kind) {
		return api.ErrArg
	}
	if c.Kind == api.CAligned && !slices.Contains([]int{1, 2, 4, 8, 16, 32, 64, 128}, c.Align) {
		return api.ErrArg
	}
	return api.OK
}

// words tells by plain rules how many words a block has that is asked for: those of the least class that has as many, and as many as the alignment; or of whole pages.
func words(n, align int) int {
	for _, size := range sizes {
		if size >= n && size >= align {
			return size
		}
	}
	pages := 1
	for 32*pages < n {
		pages++
	}
	return 32 * pages
}

// made64 tells a function that makes numbers below n, the same ones of the same seed.
func made64(seed int) func(n int) int {
	x := uint64(seed)*2862933555777941757 + 3037000493
	return func(n int) int {
		x ^= x << 13
		x ^= x >> 7
		x ^= x << 17
		return int(x >> 20 % uint64(n))
	}
}

// P18.1

// TestAsksKinds goes through kinds that there are, and are not: what else a call has does not matter, but for those of blocks.
func TestAsksKinds(t *testing.T) {
	for kind := -40; kind <= 300; kind++ {
		want := api.ErrArg
		if kind >= 1 && kind <= 12 {
			want = api.OK
		}
		if e := calls.Asks(api.Call{Kind: kind, Align: 1}); e != want {
			t.Errorf("Asks of the kind %d is %d, want %d", kind, e, want)
		}
	}
	for _, kind := range beyond {
		if e := calls.Asks(api.Call{Kind: kind, Align: 1}); e != api.ErrArg {
			t.Errorf("Asks of the kind %d is %d", kind, e)
		}
	}
}

// TestAsks holds Asks against plain rules, of all kinds with all that may stand beside them: small numbers, all alignments, and numbers beyond.
func TestAsks(t *testing.T) {
	numbers := append([]int{0, 1, 2, 3, 4, 5, 7, 8, 9, 16, 17, 31, 32, 33, 63, 64, 65, 96, 127, 128, 129, 255, 256, 1 << 19}, beyond...)
	for kind := -1; kind <= 14; kind++ {
		for _, size := range numbers {
			for _, align := range numbers {
				for _, addr := range []int{-1, 0, 300, math.MaxInt} {
					c := api.Call{Kind: kind, Addr: addr, Size: size, Align: align, Value: -addr}
					if e, want := calls.Asks(c), asks(c); e != want {
						t.Fatalf("Asks(%v) is %d, want %d", c, e, want)
					}
				}
			}
		}
	}
	for align := -300; align <= 300; align++ {
		c := api.Call{Kind: api.CAligned, Size: 3, Align: align}
		if e, want := calls.Asks(c), asks(c); e != want {
			t.Errorf("Asks(%v) is %d, want %d", c, e, want)
		}
	}
}

// keeps tells a purse that has something of each class.
func keeps() purse.Purse {
	var p purse.Purse
	for c := range sizes {
		p, _ = p.Push(c, 500+c, 9)
		p, _ = p.Push(c, 600+c, 9)
	}
	return p
}

// TestRefusedAhead has calls that may not be, and CPUs that are none: no word is asked or written, and the purse is as it was.
func TestRefusedAhead(t *testing.T) {
	l, p := two(t, 3), keeps()
	refused := func(cpu int, c api.Call) {
		t.Helper()
		blind(t, "refused", func(v *view.View) {
			r, q := calls.Do(v, l, cpu, p, c)
			if r != (api.Reply{Err: api.ErrArg}) || !slices.Equal(q.All(), p.All()) {
				t.Errorf("on CPU %d %v is answered %v, with the purse %v", cpu, c, r, q.All())
			}
		})
	}
	for _, n := range append([]int{0, 13, 14, 64, 256}, beyond...) {
		refused(0, api.Call{Kind: n, Addr: 1, Size: 1, Align: 1, Value: 1})
	}
	for _, n := range beyond {
		if n < 0 {
			for _, kind := range []int{api.CMalloc, api.CCalloc, api.CRealloc, api.CAligned} {
				refused(0, api.Call{Kind: kind, Size: n, Align: 1})
				refused(1, api.Call{Kind: kind, Addr: l.User(), Size: n, Align: 16})
			}
		}
	}
	for _, n := range append([]int{0, 3, 5, 6, 7, 12, 24, 48, 96, 127, 129, 256}, beyond...) {
		refused(1, api.Call{Kind: api.CAligned, Size: 3, Align: n})
	}
	for _, cpu := range append([]int{2, 3, 8, 64}, beyond...) {
		for _, kind := range kinds {
			refused(cpu, api.Call{Kind: kind, Size: 3, Align: 4})
			refused(cpu, api.Call{Kind: kind, Addr: l.User(), Size: 40, Align: 128})
			refused(cpu, api.Call{Kind: kind, Size: -1, Align: 3})
		}
	}
}

// P18.2

// TestMalloc has blocks of all sizes in a fresh arena: each is told with its words, live of what was asked for, and what stood in it stays.
func TestMalloc(t *testing.T) {
	l := bare(t, 8)
	for n := range 257 {
		h := newHeap(l)
		h.is(t, api.Call{Kind: api.CMalloc, Size: n}, api.Reply{Addr: l.User(), Size: words(n, 1)})
		h.has(t, api.Pair{Addr: l.User(), Val: n})
		h.is(t, api.Call{Kind: api.CLoad, Addr: l.User() + n/2}, api.Reply{Value: 7000 + l.User() + n/2})
	}
}

// TestAligned has blocks of many sizes by all alignments, behind one word that is taken: each is at a multiple.
func TestAligned(t *testing.T) {
	l := bare(t, 16)
	for _, align := range []int{1, 2, 4, 8, 16, 32, 64, 128} {
		for n := range 140 {
			h := newHeap(l)
			h.malloc(t, 1)
			r := h.does(t, 0, 0, api.Call{Kind: api.CAligned, Size: n, Align: align})
			if r.Err != api.OK || r.Size != words(n, align) || r.Addr%align != 0 || r.Addr <= l.User() {
				t.Errorf("of %d words by %d: %v", n, align, r)
			}
			h.has(t, api.Pair{Addr: l.User(), Val: 1}, api.Pair{Addr: r.Addr, Val: n})
		}
	}
}

// TestAlignAlone has the other calls that tell a block be asked with an alignment: it does not matter to them.
func TestAlignAlone(t *testing.T) {
	l := bare(t, 8)
	for _, kind := range []int{api.CMalloc, api.CCalloc, api.CRealloc} {
		for _, align := range append([]int{0, 3, 128}, beyond...) {
			newHeap(l).is(t, api.Call{Kind: kind, Size: 3, Align: align, Value: align}, api.Reply{Addr: l.User(), Size: 4})
		}
	}
}

// TestNoMemory has sizes that no arena has room for, and one word more than there is: it is refused, and nothing changes.
func TestNoMemory(t *testing.T) {
	for _, count := range []int{1, 2, 5} {
		l := two(t, count)
		h := newHeap(l)
		for _, kind := range []int{api.CMalloc, api.CCalloc, api.CRealloc, api.CAligned} {
			for _, n := range append([]int{32*count + 1, 32*count + 32, 5000, 8193}, beyond...) {
				if n > 0 {
					h.is(t, api.Call{Kind: kind, Size: n, Align: 1}, api.Reply{Err: api.ErrMemory})
				}
			}
		}
		h.is(t, api.Call{Kind: api.CMalloc, Size: 32 * count}, api.Reply{Addr: l.User(), Size: 32 * count})
		for n := range 40 {
			for _, kind := range []int{api.CMalloc, api.CCalloc, api.CRealloc, api.CAligned} {
				h.is(t, api.Call{Kind: kind, Size: n, Align: 1 << (n % 8)}, api.Reply{Err: api.ErrMemory})
			}
		}
		h.has(t, api.Pair{Addr: l.User(), Val: 32 * count})
	}
}

// TestCalloc has blocks of all sizes of zeros, where something stood: all words are 0 that the block has, not only those that were asked for, and no other one.
func TestCalloc(t *testing.T) {
	l := bare(t, 8)
	for n := range 257 {
		h := newHeap(l)
		h.malloc(t, 1)
		r := h.does(t, 0, 0, api.Call{Kind: api.CCalloc, Size: n, Align: 128, Value: 3})
		if n > 7*32 {
			if r.Err != api.ErrMemory {
				t.Errorf("of %d words: %v", n, r)
			}
			continue
		}
		if r.Err != api.OK || r.Size != words(n, 1) || r.Addr <= l.User() {
			t.Errorf("of %d words: %v", n, r)
		}
		h.has(t, api.Pair{Addr: l.User(), Val: 1}, api.Pair{Addr: r.Addr, Val: n})
		for a := l.User(); a < l.Words(); a++ {
			want := 7000 + a
			if a >= r.Addr && a < r.Addr+r.Size {
				want = 0
			}
			if h.words[a] != want {
				t.Errorf("of %d words at %d: the word %d is %d", n, r.Addr, a, h.words[a])
			}
		}
	}
}

// TestCallocAgain has a block of zeros where a client's words stood: those of the purse, the stack, the bin and the pages all the same.
func TestCallocAgain(t *testing.T) {
	for _, n := range []int{1, 3, 5, 16, 40} {
		h := newHeap(two(t, 8))
		var list []int
		for range 3 {
			a := h.malloc(t, n)
			list = append(list, a)
			for i := range words(n, 1) {
				h.is(t, api.Call{Kind: api.CStore, Addr: a + i, Value: 900 + i}, api.Reply{})
			}
		}
		for _, a := range list {
			h.free(t, a)
		}
		for range 3 {
			r := h.does(t, 0, 0, api.Call{Kind: api.CCalloc, Size: n})
			for i := range r.Size {
				h.is(t, api.Call{Kind: api.CLoad, Addr: r.Addr + i}, api.Reply{})
			}
		}
	}
}

// TestFreeNothing frees 0: that is answered, and nothing is asked or written.
func TestFreeNothing(t *testing.T) {
	l, p := two(t, 3), keeps()
	blind(t, "CFree of 0", func(v *view.View) {
		r, q := calls.Do(v, l, 1, p, api.Call{Kind: api.CFree, Size: -3, Align: 3, Value: 9})
		if r != (api.Reply{}) || !slices.Equal(q.All(), p.All()) {
			t.Errorf("answered %v, with the purse %v", r, q.All())
		}
	})
}

// TestFree frees blocks of many sizes: of the client they are no more, and a class's one is the purse's, or a run's pages are free.
func TestFree(t *testing.T) {
	for n := range 100 {
		h := newHeap(bare(t, 4))
		a := h.malloc(t, n)
		h.is(t, api.Call{Kind: api.CFree, Addr: a, Size: -1, Align: -1, Value: 1}, api.Reply{})
		h.has(t)
		var want []int
		if n <= 16 {
			want = []int{a}
		}
		if list := h.purses[0].All(); !slices.Equal(list, want) {
			t.Errorf("a block of %d words is freed: the purse has %v, want %v", n, list, want)
		}
		h.over(t, func(v *view.View) {
			if used := extent.Used(v, h.l); used != len(want) {
				t.Errorf("a block of %d words is freed: %d pages are used", n, used)
			}
		})
		h.is(t, api.Call{Kind: api.CFree, Addr: a}, api.Reply{Err: api.ErrPointer})
	}
}

// several tells a heap with blocks of all kinds: live ones, and such as are kept in a purse, a stack, and a bin; and the live ones.
func several(t *testing.T) (*heap, []api.Pair) {
	t.Helper()
	h := newHeap(made(t, api.Config{CPUs: 2, Pages: 24, Private: 2, Cache: 1, Bin: 1, Batch: 2}))
	var gone []int
	for _, n := range []int{0, 1, 2, 3, 7, 9, 16} {
		for range 3 {
			h.malloc(t, n)
			gone = append(gone, h.malloc(t, n))
		}
	}
	for _, n := range []int{17, 33, 70, 32} {
		h.malloc(t, n)
	}
	gone = append(gone, h.malloc(t, 20))
	h.gets(t, 0, 1, api.Call{Kind: api.CAligned, Size: 3, Align: 16})
	for _, a := range gone {
		h.free(t, a)
	}
	h.over(t, func(v *view.View) {
		if h.purses[0].Len(2) == 0 || len(front.Kept(v, h.l)) < 4 {
			t.Fatal("nothing is kept")
		}
	})
	return h, h.lives(t)
}

// TestNoBlock asks for the block at each address of an arena, and at such as are none: without a live block whose first word it is, it is refused. Where there is one, each of the calls is answered.
func TestNoBlock(t *testing.T) {
	h, list := several(t)
	own := map[int]int{}
	for _, b := range list {
		own[b.Addr] = b.Val
	}
	var none []int
	for a := -3; a < h.l.Words()+300; a++ {
		if _, ok := own[a]; ok {
			for _, kind := range []int{api.CFree, api.CRealloc, api.CUsable} {
				if r := h.copy().does(t, 0, 0, api.Call{Kind: kind, Addr: a}); r.Err != api.OK {
					t.Errorf("%d of the live block %d is answered %v", kind, a, r)
				}
			}
			continue
		}
		none = append(none, a)
	}
	if len(none)+len(own) != 303+h.l.Words() || len(own) < 20 {
		t.Errorf("%d addresses of none, and %d live blocks", len(none), len(own))
	}
	for _, a := range append(none, beyond...) {
		for _, kind := range []int{api.CFree, api.CRealloc, api.CUsable} {
			if a == 0 && kind != api.CUsable {
				continue
			}
			h.is(t, api.Call{Kind: kind, Addr: a, Size: 3, Align: 1}, api.Reply{Err: api.ErrPointer})
		}
	}
	h.has(t, list...)
}

// TestMarkedWithoutBlock has words be marked as a block's that is none, or is another one's: no block is live there.
func TestMarkedWithoutBlock(t *testing.T) {
	l := bare(t, 4)
	h := newHeap(l)
	a, b := h.malloc(t, 3), h.malloc(t, 40)
	wrong := []int{a + 1, a + 4, l.Addr(3), b + 1, b + 32}
	h.over(t, func(v *view.View) {
		for _, w := range wrong {
			live.Mark(v, l, w, 1)
		}
	})
	for _, w := range wrong {
		for _, kind := range []int{api.CFree, api.CRealloc, api.CUsable} {
			h.is(t, api.Call{Kind: kind, Addr: w, Size: 1}, api.Reply{Err: api.ErrPointer})
		}
	}
}

// TestUsable asks how many words each block has: as many as were told when it was taken, and nothing changes.
func TestUsable(t *testing.T) {
	for n := range 130 {
		for _, align := range []int{1, 8, 64} {
			h := newHeap(bare(t, 8))
			r := h.does(t, 0, 0, api.Call{Kind: api.CAligned, Size: n, Align: align})
			old := h.copy()
			h.is(t, api.Call{Kind: api.CUsable, Addr: r.Addr, Size: -9, Align: 3, Value: 4}, api.Reply{Size: words(n, align)})
			same(t, "asked how many words", h, old)
		}
	}
}

// TestReallocStays has each block be of each size for which a new one would have as many words: it stays where it is, nothing but its Live word changes, and it is of that size.
func TestReallocStays(t *testing.T) {
	for n := range 101 {
		for m := range 101 {
			for _, align := range []int{1, 4, 16, 128} {
				if words(m, 1) != words(n, align) {
					continue
				}
				h := newHeap(bare(t, 8))
				a := h.gets(t, 0, 0, api.Call{Kind: api.CAligned, Size: n, Align: align})
				want := h.copy()
				want.words[h.l.Live(a)] = m + 1
				h.is(t, api.Call{Kind: api.CRealloc, Addr: a, Size: m, Align: 3, Value: 2}, api.Reply{Addr: a, Size: words(m, 1)})
				same(t, "a block that stays", h, want)
			}
		}
	}
}

// TestReallocMoves has each block be of each size for which a new one would have other words: that one is taken, begins as the old one did, and the old one is given back behind that.
func TestReallocMoves(t *testing.T) {
	l := made(t, api.Config{CPUs: 1, Pages: 8, Private: 2, Cache: 1, Bin: 1, Batch: 2})
	for n := range 70 {
		for m := range 70 {
			for _, align := range []int{1, 16, 64} {
				had := words(n, align)
				if words(m, 1) == had {
					continue
				}
				h := newHeap(l)
				a := h.gets(t, 0, 0, api.Call{Kind: api.CAligned, Size: n, Align: align})
				for i := range had {
					h.words[a+i] = 100 + i
				}
				want := h.copy()
				var b int
				want.over(t, func(v *view.View) {
					to, _, p, _ := block.Alloc(v, l, 0, h.purses[0], m, 1)
					live.Mark(v, l, to, m)
					live.Clear(v, l, a)
					p, _ = block.Free(v, l, 0, p, a)
					b, want.purses[0] = to, p
				})
				copy(want.words[b:b+min(n, m)], h.words[a:])
				h.is(t, api.Call{Kind: api.CRealloc, Addr: a, Size: m}, api.Reply{Addr: b, Size: words(m, 1)})
				same(t, "a block that moves", h, want)
				if b == a {
					t.Errorf("of %d words by %d, then %d: the new block is where the old one was", n, align, m)
				}
			}
		}
	}
}

// TestReallocCopies holds how many words are copied against numbers written out: as many as were asked for in both. Behind these what stood in the new block stays.
func TestReallocCopies(t *testing.T) {
	for _, c := range []struct{ old, new, copied int }{
		{0, 5, 0}, {1, 5, 1}, {3, 5, 3}, {3, 1, 1}, {3, 0, 0}, {4, 5, 4}, {7, 40, 7}, {8, 4, 4}, {40, 7, 7}, {40, 70, 40}, {33, 32, 32}, {64, 65, 64}, {65, 2, 2}, {70, 0, 0},
	} {
		h := newHeap(bare(t, 8))
		a := h.malloc(t, c.old)
		b := h.gets(t, 0, 0, api.Call{Kind: api.CRealloc, Addr: a, Size: c.new})
		n := 0
		for h.words[b+n] == 7000+a+n {
			n++
		}
		if n != c.copied {
			t.Errorf("%d words become %d: %d are copied, want %d", c.old, c.new, n, c.copied)
		}
		for i := n; i < words(c.new, 1); i++ {
			if h.words[b+i] != 7000+b+i {
				t.Errorf("%d words become %d: the word %d behind them is %d", c.old, c.new, i, h.words[b+i])
			}
		}
	}
}

// TestReallocAsked has a block be made less, and then more, where it stays at first: what was asked for last counts.
func TestReallocAsked(t *testing.T) {
	h := newHeap(bare(t, 8))
	a := h.malloc(t, 8)
	h.is(t, api.Call{Kind: api.CRealloc, Addr: a, Size: 5}, api.Reply{Addr: a, Size: 8})
	h.has(t, api.Pair{Addr: a, Val: 5})
	b := h.gets(t, 0, 0, api.Call{Kind: api.CRealloc, Addr: a, Size: 9})
	h.has(t, api.Pair{Addr: b, Val: 9})
	for i := range 16 {
		want := 7000 + b + i
		if i < 5 {
			want = 7000 + a + i
		}
		h.is(t, api.Call{Kind: api.CLoad, Addr: b + i}, api.Reply{Value: want})
	}
}

// TestReallocNothing makes a block of 0: that is as CMalloc.
func TestReallocNothing(t *testing.T) {
	for n := range 140 {
		h := newHeap(two(t, 4))
		h.malloc(t, 3)
		want := h.copy()
		r := want.does(t, 0, 1, api.Call{Kind: api.CMalloc, Size: n})
		if got := h.does(t, 0, 1, api.Call{Kind: api.CRealloc, Size: n, Align: 5, Value: 6}); got != r {
			t.Errorf("CRealloc of 0 by %d is answered %v, want %v", n, got, r)
		}
		same(t, "CRealloc of 0", h, want)
	}
}

// TestReallocNoMemory has no room for a new block while the old one is taken: that stays, even if its own words would do.
func TestReallocNoMemory(t *testing.T) {
	h := newHeap(bare(t, 1))
	a := h.malloc(t, 20)
	for _, n := range append([]int{0, 5, 16, 33, 64}, beyond...) {
		if n >= 0 {
			h.is(t, api.Call{Kind: api.CRealloc, Addr: a, Size: n}, api.Reply{Err: api.ErrMemory})
		}
	}
	h.has(t, api.Pair{Addr: a, Val: 20})
	h = newHeap(bare(t, 3))
	a = h.malloc(t, 40)
	h.is(t, api.Call{Kind: api.CRealloc, Addr: a, Size: 96}, api.Reply{Err: api.ErrMemory})
	h.is(t, api.Call{Kind: api.CRealloc, Addr: a, Size: 20}, api.Reply{Addr: a + 64, Size: 32})
	h.is(t, api.Call{Kind: api.CRealloc, Addr: a + 64, Size: 64}, api.Reply{Addr: a, Size: 64})
}

// P18.3

// filled tells a heap of made blocks of which many are kept, in purses of both workers, and on both CPUs.
func filled(t *testing.T, seed int) *heap {
	t.Helper()
	next := made64(seed)
	h := newHeap(made(t, api.Config{CPUs: 2, Pages: 4 + next(10), Private: 1 + next(3), Cache: next(4), Bin: next(4), Batch: 1 + next(3)}))
	for range 60 {
		worker, cpu := next(2), next(2)
		if list := h.lives(t); next(2) == 0 && len(list) > 0 {
			h.does(t, worker, cpu, api.Call{Kind: api.CFree, Addr: list[next(len(list))].Addr})
			continue
		}
		h.does(t, worker, cpu, api.Call{Kind: api.CMalloc, Size: next(20)})
	}
	return h
}

// TestFlush has CFlush and CExit let all of one worker's purse go to the pages, and nothing else.
func TestFlush(t *testing.T) {
	for seed := range 30 {
		for _, kind := range []int{api.CFlush, api.CExit} {
			h := filled(t, seed)
			want := h.copy()
			want.over(t, func(v *view.View) { want.purses[1] = front.Flush(v, h.l, h.purses[1]) })
			if r := h.does(t, 1, seed%2, api.Call{Kind: kind, Addr: 3, Size: -3, Align: 3, Value: 3}); r != (api.Reply{}) {
				t.Errorf("%d is answered %v", kind, r)
			}
			same(t, "flushed", h, want)
			if list := h.purses[1].All(); len(list) != 0 {
				t.Errorf("flushed, the purse has %v", list)
			}
		}
	}
}

// TestTrim has CTrim let all of stacks and bins go to the pages, ahead of the chunks: no purse is asked.
func TestTrim(t *testing.T) {
	for seed := range 30 {
		h := filled(t, seed)
		if seed%2 == 0 {
			for _, b := range h.lives(t) {
				h.free(t, b.Addr)
			}
		}
		if seed%4 == 0 {
			h.does(t, 0, 0, api.Call{Kind: api.CFlush})
			h.does(t, 1, 0, api.Call{Kind: api.CFlush})
		}
		want := h.copy()
		n := 0
		want.over(t, func(v *view.View) {
			front.Drain(v, h.l)
			mapped := chunk.Count(v, h.l)
			extent.Trim(v, h.l)
			n = mapped - chunk.Count(v, h.l)
			if used := extent.Used(v, h.l); seed%4 == 0 && (used > 0 || n == 0) {
				t.Errorf("all given back, %d pages are used, and %d trimmed", used, n)
			}
		})
		h.is(t, api.Call{Kind: api.CTrim, Addr: 3, Size: -3, Align: 3, Value: 3}, api.Reply{Size: n})
		same(t, "trimmed", h, want)
		h.over(t, func(v *view.View) {
			if list := front.Kept(v, h.l); len(list) != 0 {
				t.Errorf("trimmed, kept are %v", list)
			}
		})
	}
}

// TestTrimStack has the one block that is taken be on a stack: its chunk is not mapped behind CTrim, and one whose block is in a purse is.
func TestTrimStack(t *testing.T) {
	h := newHeap(made(t, api.Config{CPUs: 1, Pages: 7, Private: 1, Cache: 1, Batch: 1}))
	a, b := h.malloc(t, 16), h.malloc(t, 16)
	c := h.malloc(t, 70)
	h.free(t, a)
	h.is(t, api.Call{Kind: api.CTrim}, api.Reply{})
	h.free(t, b)
	h.is(t, api.Call{Kind: api.CTrim}, api.Reply{})
	h.is(t, api.Call{Kind: api.CFlush}, api.Reply{})
	h.is(t, api.Call{Kind: api.CTrim}, api.Reply{})
	h.free(t, c)
	h.is(t, api.Call{Kind: api.CTrim}, api.Reply{Size: 4})
	h.is(t, api.Call{Kind: api.CTrim}, api.Reply{})
	a, b = h.malloc(t, 130), h.malloc(t, 3)
	h.free(t, a)
	h.free(t, b)
	h.is(t, api.Call{Kind: api.CTrim}, api.Reply{Size: 4})
	h.is(t, api.Call{Kind: api.CFlush}, api.Reply{})
	h.is(t, api.Call{Kind: api.CTrim}, api.Reply{Size: 3})
}

// TestStats holds CStats against Count, and against numbers written out: nothing changes.
func TestStats(t *testing.T) {
	h := newHeap(made(t, api.Config{CPUs: 1, Pages: 6, Private: 1, Batch: 2}))
	h.is(t, api.Call{Kind: api.CStats}, api.Reply{})
	h.malloc(t, 3)
	h.malloc(t, 33)
	old := h.copy()
	h.is(t, api.Call{Kind: api.CStats, Addr: 3, Size: -3, Align: 3, Value: 3}, api.Reply{Stats: api.Stats{Blocks: 2, Asked: 36, Words: 68, Kept: 4, Open: 24, Mapped: 4, Used: 3}})
	same(t, "counted", h, old)
	for seed := range 20 {
		h := filled(t, seed)
		var want api.Stats
		h.over(t, func(v *view.View) { want = tally.Count(v, h.l) })
		h.is(t, api.Call{Kind: api.CStats}, api.Reply{Stats: want})
	}
}

// TestLoadStore loads each word of an arena, and addresses that are none, and stores there: words of live blocks are told and stored, those too that were not asked for; all others are refused.
func TestLoadStore(t *testing.T) {
	h, list := several(t)
	var all []int
	h.over(t, func(v *view.View) {
		all = nil
		for _, b := range list {
			_, n, _ := block.Find(v, h.l, b.Addr)
			for i := range n {
				all = append(all, b.Addr+i)
			}
		}
	})
	for a := -3; a < h.l.Words()+300; a++ {
		if slices.Contains(all, a) {
			want := h.copy()
			h.is(t, api.Call{Kind: api.CLoad, Addr: a, Size: -3, Align: 3, Value: 3}, api.Reply{Value: 7000 + a})
			same(t, "loaded", h, want)
			want.words[a] = -5 * a
			h.is(t, api.Call{Kind: api.CStore, Addr: a, Size: -3, Align: 3, Value: -5 * a}, api.Reply{})
			same(t, "stored", h, want)
			h.is(t, api.Call{Kind: api.CLoad, Addr: a}, api.Reply{Value: -5 * a})
			continue
		}
		h.is(t, api.Call{Kind: api.CLoad, Addr: a}, api.Reply{Err: api.ErrPointer})
		h.is(t, api.Call{Kind: api.CStore, Addr: a, Value: 3}, api.Reply{Err: api.ErrPointer})
	}
	for _, a := range beyond {
		h.is(t, api.Call{Kind: api.CLoad, Addr: a}, api.Reply{Err: api.ErrPointer})
		h.is(t, api.Call{Kind: api.CStore, Addr: a, Value: 3}, api.Reply{Err: api.ErrPointer})
	}
	for _, x := range append([]int{0, 1}, beyond...) {
		h.is(t, api.Call{Kind: api.CStore, Addr: all[0], Value: x}, api.Reply{})
		h.is(t, api.Call{Kind: api.CLoad, Addr: all[0]}, api.Reply{Value: x})
	}
}

// TestGoneWords stores in a block, frees it, and has it again: its words are refused while nobody has it, and stand there for whoever has it next.
func TestGoneWords(t *testing.T) {
	for _, n := range []int{1, 4, 9, 40} {
		h := newHeap(bare(t, 4))
		a := h.malloc(t, n)
		h.is(t, api.Call{Kind: api.CStore, Addr: a + n - 1, Value: 77}, api.Reply{})
		h.free(t, a)
		h.is(t, api.Call{Kind: api.CLoad, Addr: a + n - 1}, api.Reply{Err: api.ErrPointer})
		h.is(t, api.Call{Kind: api.CStore, Addr: a + n - 1}, api.Reply{Err: api.ErrPointer})
		if b := h.malloc(t, n); b != a {
			t.Errorf("of %d words: the block %d, want %d", n, b, a)
		}
		h.is(t, api.Call{Kind: api.CLoad, Addr: a + n - 1}, api.Reply{Value: 77})
	}
}

// P18.4, P18.5, P18.6

// plain is what a call is to do, by the layers below, and what plain rules tell of it: the reply, and the heap behind it.
func plain(t *testing.T, h *heap, worker, cpu int, c api.Call) (api.Reply, *heap) {
	t.Helper()
	next := h.copy()
	if asks(c) != api.OK || cpu < 0 || cpu >= h.l.Config().CPUs {
		return api.Reply{Err: api.ErrArg}, next
	}
	asked, lives := -1, map[int]int{}
	for _, b := range h.lives(t) {
		lives[b.Addr] = b.Val
		if b.Addr == c.Addr {
			asked = b.Val
		}
	}
	had, within := 0, false
	alloc := func(n, align int) (r api.Reply) {
		next.over(t, func(v *view.View) {
			a, size, p, e := block.Alloc(v, h.l, cpu, h.purses[worker], n, align)
			r, next.purses[worker] = api.Reply{Err: e, Addr: a, Size: size}, p
			live.Mark(v, h.l, a, n)
		})
		return r
	}
	free := func() {
		p := next.purses[worker]
		next.over(t, func(v *view.View) { next.purses[worker], _ = block.Free(v, h.l, cpu, p, c.Addr) })
		next.words[h.l.Live(c.Addr)] = 0
	}
	h.over(t, func(v *view.View) {
		a, n, ok := block.Find(v, h.l, c.Addr)
		_, is := lives[a]
		had, within = n, ok && is
	})
	switch c.Kind {
	case api.CFree, api.CRealloc, api.CUsable:
		if asked < 0 && (c.Addr != 0 || c.Kind == api.CUsable) {
			return api.Reply{Err: api.ErrPointer}, next
		}
	case api.CLoad, api.CStore:
		if !within {
			return api.Reply{Err: api.ErrPointer}, next
		}
	}
	var r api.Reply
	switch {
	case c.Kind == api.CMalloc, c.Kind == api.CRealloc && c.Addr == 0:
		r = alloc(c.Size, 1)
	case c.Kind == api.CAligned:
		r = alloc(c.Size, c.Align)
	case c.Kind == api.CCalloc:
		r = alloc(c.Size, 1)
		for i := range r.Size {
			next.words[r.Addr+i] = 0
		}
	case c.Kind == api.CFree && c.Addr != 0:
		free()
	case c.Kind == api.CRealloc && words(c.Size, 1) == had:
		next.words[h.l.Live(c.Addr)] = c.Size + 1
		r = api.Reply{Addr: c.Addr, Size: had}
	case c.Kind == api.CRealloc:
		if r = alloc(c.Size, 1); r.Err == api.OK {
			copy(next.words[r.Addr:r.Addr+min(asked, c.Size)], h.words[c.Addr:])
			free()
		}
	case c.Kind == api.CUsable:
		r.Size = had
	case c.Kind == api.CFlush, c.Kind == api.CExit:
		next.over(t, func(v *view.View) { next.purses[worker] = front.Flush(v, h.l, h.purses[worker]) })
	case c.Kind == api.CTrim:
		next.over(t, func(v *view.View) { front.Drain(v, h.l); r.Size = extent.Trim(v, h.l) })
	case c.Kind == api.CStats:
		next.over(t, func(v *view.View) { r.Stats = tally.Count(v, h.l) })
	case c.Kind == api.CLoad:
		r.Value = h.words[c.Addr]
	case c.Kind == api.CStore:
		next.words[c.Addr] = c.Value
	}
	return r, next
}

// step makes a call of a heap, mostly one that may be.
func step(h *heap, list []api.Pair, next func(n int) int) api.Call {
	c := api.Call{Kind: 1 + next(12), Align: 1 << next(5), Value: next(1000), Size: next(20)}
	if next(3) == 0 {
		c.Size = next(130)
	}
	switch next(30) {
	case 0:
		c.Size = beyond[next(len(beyond))]
		if c.Size > 1<<20+1 {
			c.Size = -c.Size
		}
	case 1:
		c.Align = next(200) - 20
	case 2:
		c.Kind = next(20) - 4
	case 3:
		c.Kind = api.CTrim
	}
	if c.Kind == api.CTrim && next(3) > 0 {
		c.Kind = api.CFree
	}
	if len(list) > 0 {
		c.Addr = list[next(len(list))].Addr
	}
	switch next(12) {
	case 0:
		c.Addr = h.l.User() + next(32*h.l.Config().Pages)
	case 1:
		c.Addr = 0
	case 2:
		c.Addr = next(2*h.l.Words()) - 5
	}
	if (c.Kind == api.CLoad || c.Kind == api.CStore) && c.Addr >= h.l.User() {
		c.Addr += next(20)
	}
	return c
}

// accounted holds what is live, kept and open against each other: each block is there once, and all words of used pages are one's.
func accounted(t *testing.T, h *heap) {
	t.Helper()
	h.over(t, func(v *view.View) {
		list := front.Kept(v, h.l)
		for _, p := range h.purses {
			list = append(list, p.All()...)
		}
		kept := 0
		for _, a := range list {
			if c, ok := pages.Taken(v, h.l, a); ok {
				kept += sizes[c]
			}
			if _, ok := live.Size(v, h.l, a); ok {
				t.Errorf("of %v: the block %d is kept, and live", h.l.Config(), a)
			}
		}
		for _, b := range live.All(v, h.l) {
			if a, n, ok := block.Find(v, h.l, b.Addr); !ok || a != b.Addr || b.Val > n {
				t.Errorf("of %v: %v is live, of a block %d of %d words", h.l.Config(), b, a, n)
			}
			list = append(list, b.Addr)
		}
		slices.Sort(list)
		if s := tally.Count(v, h.l); s.Kept != kept || !tally.Right(s) || len(slices.Compact(list)) != len(list) {
			t.Errorf("of %v: Count is %v, with the blocks %v", h.l.Config(), s, list)
		}
	})
}

// TestRows has made calls of two workers done, with made configurations, one behind the other: each is held against what it is to do.
func TestRows(t *testing.T) {
	answered := map[api.Errno]int{}
	for seed := range 100 {
		next := made64(seed)
		h := newHeap(made(t, api.Config{CPUs: 1 + next(2), Pages: 1 + next(10), Private: 1 + next(4), Cache: next(4), Bin: next(4), Batch: 1 + next(4)}))
		for range 100 {
			worker, cpu, c := next(2), next(h.l.Config().CPUs), step(h, h.lives(t), next)
			if next(40) == 0 {
				cpu = next(6) - 2
			}
			want, behind := plain(t, h, worker, cpu, c)
			r := h.does(t, worker, cpu, c)
			if r != want {
				t.Errorf("of %v: %v is answered %v, want %v", h.l.Config(), c, r, want)
			}
			same(t, "behind a made call", h, behind)
			accounted(t, h)
			answered[r.Err]++
			if t.Failed() {
				t.Fatalf("of the row %d: worker %d on CPU %d, %v", seed, worker, cpu, c)
			}
		}
	}
	for _, e := range []api.Errno{api.OK, api.ErrArg, api.ErrMemory, api.ErrPointer} {
		if answered[e] < 50 {
			t.Errorf("%d calls are answered %d", answered[e], e)
		}
	}
}

// TestSteps goes through all rows of a few calls on two pages.
func TestSteps(t *testing.T) {
	l := made(t, api.Config{CPUs: 1, Pages: 2, Private: 1, Cache: 1, Bin: 1, Batch: 2})
	several := []api.Call{
		{Kind: api.CMalloc, Size: 16}, {Kind: api.CCalloc, Size: 5}, {Kind: api.CMalloc, Size: 20}, {Kind: api.CCalloc, Size: 33},
		{Kind: api.CFree, Addr: -1}, {Kind: api.CRealloc, Addr: -1, Size: 3}, {Kind: api.CRealloc, Addr: -1, Size: 30}, {Kind: api.CFlush}, {Kind: api.CTrim},
	}
	var on func(h *heap, depth int)
	on = func(h *heap, depth int) {
		accounted(t, h)
		if depth == 0 || t.Failed() {
			return
		}
		for _, c := range several {
			if list := h.lives(t); c.Addr < 0 && len(list) > 0 {
				c.Addr = list[0].Addr
			}
			want, behind := plain(t, h, depth%2, 0, c)
			next := h.copy()
			if r := next.does(t, depth%2, 0, c); r != want {
				t.Errorf("%v is answered %v, want %v", c, r, want)
			}
			same(t, "a step", next, behind)
			on(next, depth-1)
		}
	}
	on(newHeap(l), 4)
}

// TestEmpty frees all, has both workers exit, and trims: no page is mapped, and all words are as they were, but user words, and those of stacks and bins behind the first one.
func TestEmpty(t *testing.T) {
	for seed := range 30 {
		h := filled(t, seed)
		for i, b := range h.lives(t) {
			h.does(t, i%2, i/2%2, api.Call{Kind: api.CFree, Addr: b.Addr})
		}
		h.does(t, 0, 0, api.Call{Kind: api.CFlush})
		h.does(t, 1, 1, api.Call{Kind: api.CExit})
		h.does(t, 1, 0, api.Call{Kind: api.CTrim})
		h.is(t, api.Call{Kind: api.CStats}, api.Reply{})
		first := h.l.Cache(0, 0)
		for a := h.l.Table(0); a < h.l.User(); a++ {
			if h.words[a] != 0 && (a < first || a >= h.l.Live(h.l.User())) {
				t.Errorf("of %v: emptied, the word %d is %d", h.l.Config(), a, h.words[a])
			}
		}
		for cpu := range 2 {
			for c := range sizes {
				if h.words[h.l.Cache(cpu, c)] != 0 || h.words[h.l.Bin(c)] != 0 {
					t.Errorf("of %v: emptied, something of class %d is kept", h.l.Config(), c)
				}
			}
		}
	}
}

// Arguments that are none.

// TestNoLayout has all calls be asked of the zero layout: there is no CPU.
func TestNoLayout(t *testing.T) {
	p := keeps()
	for kind := -1; kind <= 14; kind++ {
		for _, cpu := range append([]int{0, 1}, beyond...) {
			blind(t, "no layout", func(v *view.View) {
				r, q := calls.Do(v, layout.Layout{}, cpu, p, api.Call{Kind: kind, Size: 3, Align: 4})
				if r != (api.Reply{Err: api.ErrArg}) || !slices.Equal(q.All(), p.All()) {
					t.Errorf("%d on CPU %d is answered %v, with the purse %v", kind, cpu, r, q.All())
				}
			})
		}
	}
}

// TestEnds has words that may not be, and are as great as there are: each call ends, and one that is refused for its address or its arguments has written nothing.
func TestEnds(t *testing.T) {
	for seed := range 3000 {
		next := made64(seed)
		l := two(t, 1+next(6))
		words := make([]int, l.Words())
		for a := range words {
			switch {
			case a >= l.Kind(0) && a < l.Count(0):
				words[a] = next(10) - 1
			case next(9) == 0:
				words[a] = beyond[next(len(beyond))]
			default:
				words[a] = next(60) - 5
			}
		}
		c := api.Call{Kind: 1 + next(12), Addr: l.User() + next(40), Size: next(100), Align: 1 << next(8), Value: 3}
		if next(5) == 0 {
			c.Size = beyond[next(len(beyond))]
		}
		cpu := next(2)
		var r api.Reply
		ended := false
		after, _, e := view.Do(words, func(v *view.View) {
			r, _ = calls.Do(v, l, cpu, keeps(), c)
			ended = true
		})
		if e == api.OK && !ended {
			t.Errorf("%v panics", c)
		}
		if e == api.OK && (r.Err == api.ErrPointer || r.Err == api.ErrArg) && !slices.Equal(after, words) {
			t.Errorf("%v is answered %v, and changes something", c, r)
		}
	}
}

// TestRunTooGreat has a run say that it has more words than may be asked for: it can't be made of as many, as it could not be live.
func TestRunTooGreat(t *testing.T) {
	l := bare(t, 4)
	h := newHeap(l)
	a := h.malloc(t, 40)
	h.words[l.Count(0)] = 1 << 16
	h.is(t, api.Call{Kind: api.CUsable, Addr: a}, api.Reply{Size: 1 << 21})
	h.is(t, api.Call{Kind: api.CRealloc, Addr: a, Size: 1 << 21}, api.Reply{Err: api.ErrMemory})
	h.has(t, api.Pair{Addr: a, Val: 40})
}

// TestMarkedTooGreat has a block be marked of more words than it has: no more are copied than are its own.
func TestMarkedTooGreat(t *testing.T) {
	l := bare(t, 4)
	h := newHeap(l)
	a := h.malloc(t, 4)
	h.words[l.Live(a)] = 1 + 1<<20
	b := h.gets(t, 0, 0, api.Call{Kind: api.CRealloc, Addr: a, Size: 16})
	for i := range 16 {
		want := 7000 + b + i
		if i < 4 {
			want = 7000 + a + i
		}
		if h.words[b+i] != want {
			t.Errorf("the word %d is %d, want %d", i, h.words[b+i], want)
		}
	}
}

// dead holds a view that reads 0 of all against what calls by it tell: nothing is live, and all pages are free.
func dead(t *testing.T, what string, v *view.View) {
	t.Helper()
	l := two(t, 5)
	for _, kind := range kinds {
		want := api.Reply{}
		switch kind {
		case api.CMalloc, api.CCalloc, api.CAligned:
			want = api.Reply{Addr: l.User(), Size: 64}
		case api.CRealloc, api.CUsable, api.CFree, api.CLoad, api.CStore:
			want = api.Reply{Err: api.ErrPointer}
		}
		if r, p := calls.Do(v, l, 0, purse.Purse{}, api.Call{Kind: kind, Addr: l.User(), Size: 40, Align: 4}); r != want || len(p.All()) != 0 {
			t.Errorf("%s: %d is answered %v, want %v, with the purse %v", what, kind, r, want, p.All())
		}
	}
}

// TestNoView asks by no view, by one whose run ended where it needed a word, and by one whose run is over.
func TestNoView(t *testing.T) {
	dead(t, "nil", nil)
	dead(t, "a view that nothing made", &view.View{})
	h := newHeap(two(t, 5))
	h.malloc(t, 3)
	var kept *view.View
	keep := func(v *view.View) {
		kept = v
		calls.Do(v, h.l, 0, h.purses[0], api.Call{Kind: api.CMalloc, Size: 40})
	}
	if need, wrote := view.Run(nil, keep); need < h.l.Table(0) || len(wrote) != 0 {
		t.Errorf("needs %d, wrote %v", need, wrote)
	}
	dead(t, "one that needed a word", kept)
	h.over(t, keep)
	dead(t, "one that is done", kept)
}

// The chapter's example, and those of the whole that one worker alone can have.

func TestExample(t *testing.T) {
	l := bare(t, 4)
	h := newHeap(l)
	h.is(t, api.Call{Kind: api.CMalloc, Size: 3}, api.Reply{Addr: l.User(), Size: 4})
	h.is(t, api.Call{Kind: api.CFree, Addr: l.User()}, api.Reply{})
	h.is(t, api.Call{Kind: api.CFree, Addr: l.User()}, api.Reply{Err: api.ErrPointer})
}

// TestPagesExample has a block of 33 words, which has two pages: made one of 34 it stays where it is, and made one of 3 it is copied.
func TestPagesExample(t *testing.T) {
	l := bare(t, 4)
	h := newHeap(l)
	a := l.User()
	h.is(t, api.Call{Kind: api.CMalloc, Size: 33}, api.Reply{Addr: a, Size: 64})
	h.is(t, api.Call{Kind: api.CRealloc, Addr: a, Size: 34}, api.Reply{Addr: a, Size: 64})
	h.is(t, api.Call{Kind: api.CRealloc, Addr: a, Size: 3}, api.Reply{Addr: a + 64, Size: 4})
	for i := range 3 {
		h.is(t, api.Call{Kind: api.CLoad, Addr: a + 64 + i}, api.Reply{Value: 7000 + a + i})
	}
	h.is(t, api.Call{Kind: api.CLoad, Addr: a + 64 + 3}, api.Reply{Value: 7000 + a + 64 + 3})
	h.is(t, api.Call{Kind: api.CLoad, Addr: a}, api.Reply{Err: api.ErrPointer})
}

// TestOtherWorker has a worker free another one's block: that is a call like any other.
func TestOtherWorker(t *testing.T) {
	h := newHeap(bare(t, 4))
	a := h.malloc(t, 3)
	if r := h.does(t, 1, 0, api.Call{Kind: api.CFree, Addr: a}); r != (api.Reply{}) {
		t.Errorf("answered %v", r)
	}
	if !h.purses[1].Has(a) || len(h.purses[0].All()) != 0 {
		t.Errorf("the purses have %v and %v", h.purses[0].All(), h.purses[1].All())
	}
	h.is(t, api.Call{Kind: api.CFree, Addr: a}, api.Reply{Err: api.ErrPointer})
}
