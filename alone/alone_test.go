package alone_test

import (
	"math"
	"slices"
	"testing"

	"assart/alone"
	"assart/api"
	"assart/calls"
	"assart/layout"
	"assart/purse"
	"assart/view"
)

// beyond are numbers that are no worker and no CPU.
var beyond = []int{math.MinInt, math.MinInt32, -1 << 20, -65, -64, -9, -8, -2, -1, 64, 65, 128, 1 << 20, 1 << 31, 1 << 32, 1<<32 + 1, math.MaxInt - 1, math.MaxInt}

// sizes are how many words each class's blocks have.
var sizes = []int{1, 2, 4, 8, 16}

// kinds are all kinds of calls.
var kinds = []int{api.CMalloc, api.CFree, api.CCalloc, api.CRealloc, api.CAligned, api.CUsable, api.CFlush, api.CTrim, api.CExit, api.CStats, api.CLoad, api.CStore}

// least and greatest are configurations with all numbers as small, and as great, as they may be.
var (
	least    = api.Config{Workers: 1, CPUs: 1, Pages: 1, Stripes: 1, Clock: 1, Private: 1, Batch: 1}
	greatest = api.Config{Workers: 64, CPUs: 8, Pages: 256, Stripes: 64, Tries: 16, Wait: 64, Clock: 1 << 40, Private: 8, Cache: 8, Bin: 16, Batch: 8}
)

// some tells a configuration of three workers, and two CPUs, with room for some blocks everywhere.
func some() api.Config {
	return api.Config{Workers: 3, CPUs: 2, Pages: 7, Stripes: 3, Tries: 1, Wait: 1, Clock: 9, Private: 2, Cache: 1, Bin: 1, Batch: 2}
}

// fields tells all numbers of a configuration, by which they can be changed.
func fields(c *api.Config) []*int {
	return []*int{&c.Workers, &c.CPUs, &c.Pages, &c.Stripes, &c.Tries, &c.Wait, &c.Clock, &c.Private, &c.Cache, &c.Bin, &c.Batch}
}

// heap tells a heap of a configuration that may be, and its layout.
func heap(t *testing.T, c api.Config) (*alone.Heap, layout.Layout) {
	t.Helper()
	h, e := alone.New(c)
	l, wrong := layout.Of(c)
	if h == nil || e != api.OK || wrong != api.OK {
		t.Fatalf("New of %v: error %d", c, e)
	}
	return h, l
}

// is holds a call on CPU 0 against its reply.
func is(t *testing.T, h *alone.Heap, worker int, c api.Call, want api.Reply) {
	t.Helper()
	if r := h.Do(worker, 0, c); r != want {
		t.Errorf("worker %d: %v is answered %v, want %v", worker, c, r, want)
	}
}

// keeps holds a worker's purse against blocks.
func keeps(t *testing.T, h *alone.Heap, worker int, want ...int) {
	t.Helper()
	if list := h.Purse(worker); !slices.Equal(list, want) {
		t.Errorf("worker %d keeps %v, want %v", worker, list, want)
	}
}

// look is all that a heap tells of itself.
type look struct {
	words  []int
	purses [][]int
}

// looked tells a look at a heap, with as many workers as there can be.
func looked(h *alone.Heap) look {
	s := look{words: h.Words()}
	for worker := range api.MaxWorkers {
		s.purses = append(s.purses, h.Purse(worker))
	}
	return s
}

// same holds two looks against each other.
func same(t *testing.T, what string, got, want look) {
	t.Helper()
	if len(got.words) != len(want.words) {
		t.Fatalf("%s: %d words, want %d", what, len(got.words), len(want.words))
	}
	for a, x := range got.words {
		if x != want.words[a] {
			t.Errorf("%s: the word %d is %d, want %d", what, a, x, want.words[a])
		}
	}
	for worker, list := range got.purses {
		if !slices.Equal(list, want.purses[worker]) {
			t.Errorf("%s: worker %d keeps %v, want %v", what, worker, list, want.purses[worker])
		}
	}
}

// made tells a function that makes numbers below n, the same ones of the same seed.
func made(seed int) func(n int) int {
	x := uint64(seed)*2862933555777941757 + 3037000493
	return func(n int) int {
		x ^= x << 13
		x ^= x >> 7
		x ^= x << 17
		return int(x >> 20 % uint64(n))
	}
}

// config makes a configuration that may be, of a few pages.
func config(next func(n int) int) api.Config {
	return api.Config{
		Workers: 1 + next(4), CPUs: 1 + next(3), Pages: 1 + next(9), Stripes: 1 + next(4), Tries: next(3), Wait: next(3), Clock: 1 + next(50),
		Private: 1 + next(3), Cache: next(4), Bin: next(4), Batch: 1 + next(4),
	}
}

// asked is a call, by whom, and where.
type asked struct {
	worker, cpu int
	call        api.Call
}

// ask makes a call, mostly one that may be, of a heap of that layout in which these blocks were told.
func ask(l layout.Layout, told []int, next func(n int) int) asked {
	s := asked{worker: next(l.Config().Workers), cpu: next(l.Config().CPUs)}
	s.call = api.Call{Kind: kinds[next(len(kinds))], Size: next(20), Align: 1 << next(8), Value: next(900) - 300}
	if s.call.Kind == api.CExit && next(8) > 0 {
		s.call.Kind = api.CMalloc
	}
	if len(told) > 0 {
		s.call.Addr = told[next(len(told))]
	}
	switch next(16) {
	case 0:
		s.worker = next(8) - 2
	case 1:
		s.cpu = next(8) - 2
	case 2:
		s.call.Kind = next(20) - 4
	case 3:
		s.call.Addr = l.User() + next(32*l.Config().Pages)
	case 4:
		s.call.Size = next(200) - 5
	case 5:
		s.call.Addr = 0
	}
	return s
}

// P19.1: New

// TestNew has each number of a configuration be less, and more, than it may be: it is as Check says, and there is a heap just if that is OK.
func TestNew(t *testing.T) {
	for _, c := range []api.Config{least, greatest, some(), {}} {
		for i := range fields(&c) {
			for _, n := range append([]int{0, 1, 2, 9, 16, 17, 256, 257, 1 << 40, 1<<40 + 1}, beyond...) {
				other := c
				*fields(&other)[i] = n
				h, e := alone.New(other)
				if want := layout.Check(other); e != want || (h != nil) != (want == api.OK) {
					t.Errorf("New of %v: a heap %t, and the error %d, want %d", other, h != nil, e, want)
				}
			}
		}
	}
}

// TestNewArg holds New's errors against numbers written out.
func TestNewArg(t *testing.T) {
	for _, n := range []int{-1, 0, 65} {
		c := least
		c.Workers = n
		if h, e := alone.New(c); h != nil || e != api.ErrArg {
			t.Errorf("of %d workers: a heap %t, and the error %d", n, h != nil, e)
		}
	}
	if h, e := alone.New(api.Config{}); h != nil || e != api.ErrArg {
		t.Errorf("of nothing: a heap %t, and the error %d", h != nil, e)
	}
}

// TestFresh has a new heap have as many words as its layout, all 0, and no purse with anything.
func TestFresh(t *testing.T) {
	for _, c := range []api.Config{least, greatest, some()} {
		h, l := heap(t, c)
		same(t, "a new heap", looked(h), look{make([]int, l.Words()), make([][]int, api.MaxWorkers)})
	}
	h, _ := heap(t, api.Config{Workers: 1, CPUs: 1, Pages: 1, Stripes: 1, Clock: 9, Private: 1, Batch: 1})
	if n := len(h.Words()); n != 160 {
		t.Errorf("%d words, want 160", n)
	}
}

// P19.1: Do

// TestNoWorker has all calls be of workers that are none, those too that may not be, ahead of any call and behind one that has gone: they are refused, and nothing changes.
func TestNoWorker(t *testing.T) {
	h, l := heap(t, some())
	a := h.Do(0, 0, api.Call{Kind: api.CMalloc, Size: 3}).Addr
	h.Do(2, 0, api.Call{Kind: api.CExit})
	want := looked(h)
	for _, worker := range append([]int{3, 4, 63}, beyond...) {
		for _, kind := range append([]int{-1, 0, 13}, kinds...) {
			for _, cpu := range []int{0, 1, 2, -1} {
				c := api.Call{Kind: kind, Addr: a, Size: 5, Align: 4, Value: 9}
				if r := h.Do(worker, cpu, c); r != (api.Reply{Err: api.ErrArg}) {
					t.Errorf("worker %d on CPU %d: %v is answered %v", worker, cpu, c, r)
				}
			}
		}
		keeps(t, h, worker)
	}
	same(t, "of workers that are none", looked(h), want)
	if h.Do(0, 0, api.Call{Kind: api.CLoad, Addr: a}) != (api.Reply{}) || a != l.User() {
		t.Errorf("the block at %d is not live any more", a)
	}
}

// TestEveryWorker has each worker that there may be have a call done, the last one too.
func TestEveryWorker(t *testing.T) {
	for _, n := range []int{1, 2, 64} {
		c := greatest
		c.Workers, c.Pages = n, 16
		h, l := heap(t, c)
		for worker := range n {
			if r := h.Do(worker, worker%8, api.Call{Kind: api.CMalloc, Size: 1}); r.Size != 1 || r.Addr < l.User() {
				t.Errorf("worker %d of %d is answered %v", worker, n, r)
			}
		}
		is(t, h, n, api.Call{Kind: api.CStats}, api.Reply{Err: api.ErrArg})
	}
}

// TestGone has a worker go: all its calls are refused, those too that may not be, and on CPUs that are none; nothing changes by them, and the others go on.
func TestGone(t *testing.T) {
	h, l := heap(t, some())
	a := h.Do(1, 0, api.Call{Kind: api.CMalloc, Size: 3}).Addr
	keeps(t, h, 1, a+4)
	is(t, h, 1, api.Call{Kind: api.CExit}, api.Reply{})
	keeps(t, h, 1)
	want := looked(h)
	for _, kind := range append([]int{-1, 0, 13}, kinds...) {
		for _, cpu := range append([]int{0, 1, 2}, beyond...) {
			for _, c := range []api.Call{{Kind: kind}, {Kind: kind, Addr: a, Size: 3, Align: 4, Value: 5}, {Kind: kind, Addr: -1, Size: -1, Align: 3}} {
				if r := h.Do(1, cpu, c); r != (api.Reply{Err: api.ErrGone}) {
					t.Errorf("gone, on CPU %d %v is answered %v", cpu, c, r)
				}
			}
		}
	}
	same(t, "of a worker that has gone", looked(h), want)
	is(t, h, 0, api.Call{Kind: api.CStore, Addr: a, Value: 7}, api.Reply{})
	is(t, h, 2, api.Call{Kind: api.CLoad, Addr: a}, api.Reply{Value: 7})
	is(t, h, 2, api.Call{Kind: api.CFree, Addr: a}, api.Reply{})
	is(t, h, 0, api.Call{Kind: api.CExit}, api.Reply{})
	is(t, h, 2, api.Call{Kind: api.CMalloc, Size: 40}, api.Reply{Addr: l.Addr(1), Size: 64})
	is(t, h, 2, api.Call{Kind: api.CExit}, api.Reply{})
	for worker := range 3 {
		is(t, h, worker, api.Call{Kind: api.CExit}, api.Reply{Err: api.ErrGone})
	}
}

// TestNotGone has calls done behind which no worker has gone: a CExit that was refused, and all others, answered or not.
func TestNotGone(t *testing.T) {
	h, l := heap(t, some())
	for _, cpu := range append([]int{2, 8}, beyond...) {
		if r := h.Do(0, cpu, api.Call{Kind: api.CExit}); r != (api.Reply{Err: api.ErrArg}) {
			t.Errorf("CExit on CPU %d is answered %v", cpu, r)
		}
		is(t, h, 0, api.Call{Kind: api.CStats}, api.Reply{})
	}
	for _, kind := range append([]int{-9, 0, 13, 64 + api.CExit, 256 + api.CExit}, kinds...) {
		if kind == api.CExit {
			continue
		}
		for _, c := range []api.Call{{Kind: kind}, {Kind: kind, Addr: l.User(), Size: 3, Align: 4}, {Kind: kind, Addr: api.CExit, Size: api.CExit, Align: 3, Value: api.CExit}} {
			if r := h.Do(0, 0, c); r.Err == api.ErrGone {
				t.Errorf("%v is answered %v", c, r)
			}
			if r := h.Do(0, 0, api.Call{Kind: api.CStats}); r.Err != api.OK {
				t.Errorf("behind %v CStats is answered %v", c, r)
			}
		}
	}
}

// TestExitWithNothing has a worker go that keeps nothing, as its first call.
func TestExitWithNothing(t *testing.T) {
	h, l := heap(t, least)
	is(t, h, 0, api.Call{Kind: api.CExit, Addr: 5, Size: -1, Align: 3, Value: 4}, api.Reply{})
	is(t, h, 0, api.Call{Kind: api.CStats}, api.Reply{Err: api.ErrGone})
	same(t, "gone", looked(h), look{make([]int, l.Words()), make([][]int, api.MaxWorkers)})
}

// TestRefused has calls be refused for what calls tells: nothing changes.
func TestRefused(t *testing.T) {
	h, l := heap(t, some())
	a := h.Do(0, 0, api.Call{Kind: api.CMalloc, Size: 3}).Addr
	h.Do(0, 0, api.Call{Kind: api.CFree, Addr: a})
	b := h.Do(1, 1, api.Call{Kind: api.CMalloc, Size: 70}).Addr
	want := looked(h)
	for _, c := range []struct {
		asked
		e api.Errno
	}{
		{asked{0, 0, api.Call{Kind: 0}}, api.ErrArg},
		{asked{0, 0, api.Call{Kind: 13}}, api.ErrArg},
		{asked{2, 1, api.Call{Kind: api.CMalloc, Size: -1}}, api.ErrArg},
		{asked{2, 1, api.Call{Kind: api.CAligned, Size: 1, Align: 3}}, api.ErrArg},
		{asked{2, 2, api.Call{Kind: api.CMalloc, Size: 1}}, api.ErrArg},
		{asked{2, -1, api.Call{Kind: api.CFree}}, api.ErrArg},
		{asked{1, 1, api.Call{Kind: api.CMalloc, Size: 32*3 + 1}}, api.ErrMemory},
		{asked{1, 1, api.Call{Kind: api.CRealloc, Addr: b, Size: 32*3 + 1}}, api.ErrMemory},
		{asked{1, 1, api.Call{Kind: api.CAligned, Size: 32*3 + 1, Align: 128}}, api.ErrMemory},
		{asked{0, 0, api.Call{Kind: api.CFree, Addr: a}}, api.ErrPointer},
		{asked{0, 0, api.Call{Kind: api.CUsable, Addr: b + 1}}, api.ErrPointer},
		{asked{0, 0, api.Call{Kind: api.CLoad, Addr: a}}, api.ErrPointer},
		{asked{0, 0, api.Call{Kind: api.CLoad, Addr: l.Words()}}, api.ErrPointer},
		{asked{0, 0, api.Call{Kind: api.CStore, Addr: 1, Value: 5}}, api.ErrPointer},
		{asked{0, 0, api.Call{Kind: api.CStore, Addr: math.MaxInt, Value: 5}}, api.ErrPointer},
	} {
		if r := h.Do(c.worker, c.cpu, c.call); r != (api.Reply{Err: c.e}) {
			t.Errorf("worker %d on CPU %d: %v is answered %v, want the error %d", c.worker, c.cpu, c.call, r, c.e)
		}
		same(t, "refused", looked(h), want)
	}
}

// TestPurses has two workers keep blocks: each one its own, whoever had them.
func TestPurses(t *testing.T) {
	h, l := heap(t, api.Config{Workers: 2, CPUs: 1, Pages: 4, Stripes: 1, Clock: 9, Private: 2, Batch: 2})
	a := l.User()
	is(t, h, 0, api.Call{Kind: api.CMalloc, Size: 7}, api.Reply{Addr: a, Size: 8})
	keeps(t, h, 0, a+8)
	keeps(t, h, 1)
	is(t, h, 1, api.Call{Kind: api.CMalloc, Size: 8}, api.Reply{Addr: a + 16, Size: 8})
	keeps(t, h, 1, a+24)
	is(t, h, 0, api.Call{Kind: api.CFree, Addr: a + 16}, api.Reply{})
	keeps(t, h, 0, a+8, a+16)
	is(t, h, 1, api.Call{Kind: api.CMalloc, Size: 2}, api.Reply{Addr: a + 32, Size: 2})
	keeps(t, h, 1, a+34, a+24)
	is(t, h, 1, api.Call{Kind: api.CMalloc, Size: 8}, api.Reply{Addr: a + 24, Size: 8})
	is(t, h, 0, api.Call{Kind: api.CMalloc, Size: 8}, api.Reply{Addr: a + 16, Size: 8})
	is(t, h, 0, api.Call{Kind: api.CFlush}, api.Reply{})
	keeps(t, h, 0)
	keeps(t, h, 1, a+34)
}

// TestCPUs has a worker give blocks back on one CPU: they are told again there, and not on another one.
func TestCPUs(t *testing.T) {
	h, l := heap(t, api.Config{Workers: 1, CPUs: 2, Pages: 4, Stripes: 1, Clock: 9, Private: 1, Cache: 2, Batch: 1})
	a := l.User()
	for i := range 3 {
		is(t, h, 0, api.Call{Kind: api.CMalloc, Size: 4}, api.Reply{Addr: a + 4*i, Size: 4})
	}
	for i := range 3 {
		if r := h.Do(0, 1, api.Call{Kind: api.CFree, Addr: a + 4*i}); r != (api.Reply{}) {
			t.Errorf("answered %v", r)
		}
	}
	keeps(t, h, 0, a+8)
	words := h.Words()
	if x := words[l.Cache(1, 2) : l.Cache(1, 2)+3]; !slices.Equal(x, []int{2, a, a + 4}) || words[l.Cache(0, 2)] != 0 {
		t.Errorf("CPU 1 keeps %v, and CPU 0 %d blocks", x, words[l.Cache(0, 2)])
	}
	is(t, h, 0, api.Call{Kind: api.CMalloc, Size: 4}, api.Reply{Addr: a + 8, Size: 4})
	is(t, h, 0, api.Call{Kind: api.CMalloc, Size: 4}, api.Reply{Addr: a + 12, Size: 4})
	if r := h.Do(0, 1, api.Call{Kind: api.CMalloc, Size: 4}); r != (api.Reply{Addr: a + 4, Size: 4}) {
		t.Errorf("on CPU 1: %v", r)
	}
}

// plain is a heap beside one: words, purses, and who has gone, by the layers below.
type plain struct {
	l      layout.Layout
	words  []int
	purses []purse.Purse
	gone   map[int]int
}

// does tells what a call is to be answered, and has it done.
func (h *plain) does(t *testing.T, s asked) api.Reply {
	t.Helper()
	if s.worker < 0 || s.worker >= len(h.purses) {
		return api.Reply{Err: api.ErrArg}
	}
	if h.gone[s.worker] > 0 {
		return api.Reply{Err: api.ErrGone}
	}
	var r api.Reply
	var p purse.Purse
	words, _, e := view.Do(h.words, func(v *view.View) { r, p = calls.Do(v, h.l, s.cpu, h.purses[s.worker], s.call) })
	if e != api.OK {
		t.Fatalf("%v asks for words that are none", s)
	}
	h.words, h.purses[s.worker] = words, p
	if s.call.Kind == api.CExit && r.Err == api.OK {
		h.gone[s.worker]++
	}
	return r
}

// looked tells a look at it.
func (h *plain) looked() look {
	s := look{h.words, make([][]int, api.MaxWorkers)}
	for worker, p := range h.purses {
		s.purses[worker] = p.All()
	}
	return s
}

// TestRows has made calls done, with made configurations, one behind the other: each is held against what the layers below tell, with all words and purses.
func TestRows(t *testing.T) {
	answered := map[api.Errno]int{}
	for seed := range 100 {
		next := made(seed)
		h, l := heap(t, config(next))
		beside := &plain{l, make([]int, l.Words()), make([]purse.Purse, l.Config().Workers), map[int]int{}}
		var told []int
		for range 120 {
			s := ask(l, told, next)
			want := beside.does(t, s)
			r := h.Do(s.worker, s.cpu, s.call)
			if r != want {
				t.Errorf("%v is answered %v, want %v", s, r, want)
			}
			same(t, "behind a made call", looked(h), beside.looked())
			if r.Addr > 0 {
				told = append(told, r.Addr)
			}
			answered[r.Err]++
			if t.Failed() {
				t.Fatalf("of the row %d, of %v: %v", seed, l.Config(), s)
			}
		}
	}
	for _, e := range []api.Errno{api.OK, api.ErrArg, api.ErrMemory, api.ErrPointer, api.ErrGone} {
		if answered[e] < 100 {
			t.Errorf("%d calls are answered %d", answered[e], e)
		}
	}
}

// TestGreatest has calls done where all is as great as it may be: all pages are one block, and then words of their own.
func TestGreatest(t *testing.T) {
	h, l := heap(t, greatest)
	all := 32 * greatest.Pages
	is(t, h, 63, api.Call{Kind: api.CMalloc, Size: all}, api.Reply{Addr: l.User(), Size: all})
	is(t, h, 0, api.Call{Kind: api.CMalloc}, api.Reply{Err: api.ErrMemory})
	is(t, h, 0, api.Call{Kind: api.CStore, Addr: l.Words() - 1, Value: math.MinInt}, api.Reply{})
	is(t, h, 1, api.Call{Kind: api.CLoad, Addr: l.Words() - 1}, api.Reply{Value: math.MinInt})
	is(t, h, 1, api.Call{Kind: api.CLoad, Addr: l.Words()}, api.Reply{Err: api.ErrPointer})
	is(t, h, 63, api.Call{Kind: api.CFree, Addr: l.User()}, api.Reply{})
	got := map[int]int{}
	for i := range 500 {
		r := h.Do(i%64, i%8, api.Call{Kind: api.CCalloc, Size: 1})
		if r.Err != api.OK || r.Size != 1 {
			t.Fatalf("%v, of the call %d", r, i)
		}
		got[r.Addr]++
	}
	if len(got) != 500 {
		t.Errorf("500 calls are told %d blocks", len(got))
	}
	s := h.Do(0, 0, api.Call{Kind: api.CStats}).Stats
	if s.Blocks != 500 || s.Asked != 500 || s.Words != 500 || s.Mapped != greatest.Pages {
		t.Errorf("there is %v", s)
	}
}

// P19.1: Words, Purse, Copy, nil

// TestNil asks nothing for all.
func TestNil(t *testing.T) {
	var h *alone.Heap
	for _, worker := range append([]int{0, 1}, beyond...) {
		for _, kind := range append([]int{0, 13}, kinds...) {
			if r := h.Do(worker, 0, api.Call{Kind: kind, Size: 3, Align: 4}); r != (api.Reply{Err: api.ErrNil}) {
				t.Errorf("nil answers %v", r)
			}
		}
		keeps(t, h, worker)
	}
	if h.Words() != nil || h.Copy() != nil {
		t.Errorf("nil has %v, and a copy %v", h.Words(), h.Copy())
	}
}

// TestToldApart changes what was told: the heap stays as it is, and what it told ahead does, whatever it does.
func TestToldApart(t *testing.T) {
	h, l := heap(t, some())
	a := h.Do(0, 0, api.Call{Kind: api.CMalloc, Size: 3}).Addr
	words, list := h.Words(), h.Purse(0)
	want := looked(h)
	for i := range words {
		words[i] = -7
	}
	for i := range list {
		list[i] = -7
	}
	same(t, "what was told is changed", looked(h), want)
	words, list = h.Words(), h.Purse(0)
	h.Do(0, 0, api.Call{Kind: api.CFree, Addr: a})
	h.Do(0, 0, api.Call{Kind: api.CMalloc, Size: 70})
	h.Do(0, 0, api.Call{Kind: api.CFlush})
	if !slices.Equal(words, want.words) || !slices.Equal(list, []int{l.User() + 4}) {
		t.Errorf("what was told ahead is changed, or the purse had %v", list)
	}
	for _, worker := range append([]int{3}, beyond...) {
		keeps(t, h, worker)
	}
}

// filled tells a heap behind made calls, and the blocks that were told by these.
func filled(t *testing.T, seed int) (*alone.Heap, layout.Layout, []int) {
	t.Helper()
	next := made(seed)
	h, l := heap(t, config(next))
	var told []int
	for range 60 {
		s := ask(l, told, next)
		if r := h.Do(s.worker, s.cpu, s.call); r.Addr > 0 {
			told = append(told, r.Addr)
		}
	}
	return h, l, told
}

// TestCopy has a heap and its copy go apart, whichever goes on: the other one stays as it is, and tells the same of the same calls later.
func TestCopy(t *testing.T) {
	for seed := range 60 {
		h, l, told := filled(t, seed)
		other := h.Copy()
		want := looked(h)
		same(t, "a copy", looked(other), want)
		first, second := h, other
		if seed%2 == 0 {
			first, second = other, h
		}
		next := made(1000 + seed)
		var list []asked
		var replies []api.Reply
		for range 60 {
			s := ask(l, told, next)
			list = append(list, s)
			replies = append(replies, first.Do(s.worker, s.cpu, s.call))
		}
		same(t, "the other one has gone on", looked(second), want)
		for i, s := range list {
			if r := second.Do(s.worker, s.cpu, s.call); r != replies[i] {
				t.Errorf("%v is answered %v, and by a copy %v", s, replies[i], r)
			}
		}
		same(t, "both have gone on", looked(first), looked(second))
	}
}

// TestCopyGone has workers go ahead of a copy, and behind it: those ahead have gone of both.
func TestCopyGone(t *testing.T) {
	h, _ := heap(t, some())
	is(t, h, 0, api.Call{Kind: api.CExit}, api.Reply{})
	other := h.Copy()
	is(t, h, 1, api.Call{Kind: api.CExit}, api.Reply{})
	is(t, other, 2, api.Call{Kind: api.CExit}, api.Reply{})
	gone := api.Reply{Err: api.ErrGone}
	for worker, want := range []api.Reply{gone, gone, {}} {
		is(t, h, worker, api.Call{Kind: api.CStats}, want)
	}
	for worker, want := range []api.Reply{gone, {}, gone} {
		is(t, other, worker, api.Call{Kind: api.CStats}, want)
	}
}

// TestCopyPurses has a heap and its copy put unlike blocks on the same purse: neither tells the other one's.
func TestCopyPurses(t *testing.T) {
	h, l := heap(t, api.Config{Workers: 1, CPUs: 1, Pages: 2, Stripes: 1, Clock: 9, Private: 8, Batch: 1})
	a := l.User()
	for range 4 {
		h.Do(0, 0, api.Call{Kind: api.CMalloc, Size: 1})
	}
	is(t, h, 0, api.Call{Kind: api.CFree, Addr: a}, api.Reply{})
	other := h.Copy()
	is(t, h, 0, api.Call{Kind: api.CFree, Addr: a + 1}, api.Reply{})
	is(t, other, 0, api.Call{Kind: api.CFree, Addr: a + 2}, api.Reply{})
	is(t, h, 0, api.Call{Kind: api.CFree, Addr: a + 3}, api.Reply{})
	keeps(t, h, 0, a, a+1, a+3)
	keeps(t, other, 0, a, a+2)
}

// P19.2

// TestAgain has the same calls be done by two heaps, with calls of other heaps between: they are answered the same.
func TestAgain(t *testing.T) {
	for seed := range 40 {
		h, l, told := filled(t, seed)
		between, _, _ := filled(t, seed+1)
		again, _, others := filled(t, seed)
		if !slices.Equal(told, others) {
			t.Errorf("of %v: told are %v, and again %v", l.Config(), told, others)
		}
		next := made(2000 + seed)
		for range 60 {
			s := ask(l, told, next)
			r := h.Do(s.worker, s.cpu, s.call)
			between.Do(0, 0, api.Call{Kind: api.CMalloc, Size: next(9)})
			if other := again.Do(s.worker, s.cpu, s.call); other != r {
				t.Errorf("of %v: %v is answered %v, and again %v", l.Config(), s, r, other)
			}
		}
		same(t, "again", looked(again), looked(h))
	}
}

// P19.3

// stays tells whether a word may be another one than at first behind all that was given back: a user word, or one of a stack or bin behind the first one.
func stays(l layout.Layout, a int) bool {
	c := l.Config()
	if a >= l.User() {
		return true
	}
	for class := range sizes {
		for cpu := range c.CPUs {
			if first := l.Cache(cpu, class); a > first && a <= first+c.Cache {
				return true
			}
		}
		if first := l.Bin(class); a > first && a <= first+c.Bin {
			return true
		}
	}
	return false
}

// gives has all blocks be given back, and all workers flush, some of which go by that, and then CTrim.
func gives(t *testing.T, h *alone.Heap, l layout.Layout, told []int, next func(n int) int) {
	t.Helper()
	c := l.Config()
	// Made calls may have let workers go: those that have keep nothing, and can free nothing.
	var there []int
	for worker := range c.Workers {
		if h.Do(worker, 0, api.Call{Kind: api.CStats}).Err == api.OK {
			there = append(there, worker)
		}
	}
	if len(there) == 0 {
		return
	}
	for _, a := range told {
		h.Do(there[next(len(there))], next(c.CPUs), api.Call{Kind: api.CFree, Addr: a})
	}
	for _, worker := range there[1:] {
		kind := api.CFlush
		if next(2) == 0 {
			kind = api.CExit
		}
		if r := h.Do(worker, next(c.CPUs), api.Call{Kind: kind}); r != (api.Reply{}) {
			t.Errorf("worker %d is answered %v", worker, r)
		}
	}
	is(t, h, there[0], api.Call{Kind: api.CFlush}, api.Reply{})
	mapped := h.Do(there[0], 0, api.Call{Kind: api.CStats}).Stats.Mapped
	is(t, h, there[0], api.Call{Kind: api.CTrim}, api.Reply{Size: mapped})
	is(t, h, there[0], api.Call{Kind: api.CStats}, api.Reply{})
	is(t, h, there[0], api.Call{Kind: api.CTrim}, api.Reply{})
	empty(t, h, l)
}

// empty holds a heap against one in which nothing is live or kept, and no page is mapped.
func empty(t *testing.T, h *alone.Heap, l layout.Layout) {
	t.Helper()
	for k := range l.Chunks() {
		if x := h.Words()[l.Table(k)]; x != 0 {
			t.Errorf("of %v: emptied, the chunk %d is %d", l.Config(), k, x)
		}
	}
	for a, x := range h.Words() {
		if x != 0 && !stays(l, a) {
			t.Errorf("of %v: emptied, the word %d is %d", l.Config(), a, x)
		}
	}
	for worker := range l.Config().Workers {
		keeps(t, h, worker)
	}
}

// TestEmpty gives all back behind made calls.
func TestEmpty(t *testing.T) {
	kept := 0
	for seed := range 200 {
		h, l, told := filled(t, seed)
		for worker := range l.Config().Workers {
			kept += len(h.Purse(worker))
		}
		gives(t, h, l, told, made(3000+seed))
	}
	if kept < 200 {
		t.Errorf("%d blocks were kept in all", kept)
	}
}

// TestEmptyOften gives all back of one heap, again and again: each time the next calls are answered as the first ones were, but what stands in user words.
func TestEmptyOften(t *testing.T) {
	c := some()
	c.Pages = 40
	h, l := heap(t, c)
	var first []int
	for round := range 6 {
		var told []int
		for i := range 60 {
			r := h.Do(i%3, i/3%2, api.Call{Kind: api.CMalloc, Size: i % 20})
			if r.Err != api.OK {
				t.Fatalf("of the round %d: the call %d is answered %v", round, i, r)
			}
			told = append(told, r.Addr)
			is(t, h, i%3, api.Call{Kind: api.CStore, Addr: r.Addr + r.Size - 1, Value: -i}, api.Reply{})
		}
		if round == 0 {
			first = told
		}
		if !slices.Equal(told, first) {
			t.Errorf("of the round %d: told are %v, want %v", round, told, first)
		}
		for i, a := range told {
			is(t, h, (i+round)%3, api.Call{Kind: api.CFree, Addr: a}, api.Reply{})
		}
		for worker := range 3 {
			is(t, h, worker, api.Call{Kind: api.CFlush}, api.Reply{})
		}
		mapped := h.Do(0, 0, api.Call{Kind: api.CStats}).Stats.Mapped
		is(t, h, round%3, api.Call{Kind: api.CTrim}, api.Reply{Size: mapped})
		empty(t, h, l)
	}
}

// TestNotEmpty leaves one thing out of what empties a heap: pages stay mapped.
func TestNotEmpty(t *testing.T) {
	h, l := heap(t, api.Config{Workers: 2, CPUs: 1, Pages: 9, Stripes: 1, Clock: 9, Private: 1, Cache: 1, Batch: 1})
	a := h.Do(0, 0, api.Call{Kind: api.CMalloc, Size: 3}).Addr
	is(t, h, 0, api.Call{Kind: api.CTrim}, api.Reply{})
	is(t, h, 1, api.Call{Kind: api.CFree, Addr: a}, api.Reply{})
	is(t, h, 0, api.Call{Kind: api.CFlush}, api.Reply{})
	is(t, h, 0, api.Call{Kind: api.CTrim}, api.Reply{})
	is(t, h, 1, api.Call{Kind: api.CStats}, api.Reply{Stats: api.Stats{Kept: 4, Open: 28, Mapped: 4, Used: 1}})
	is(t, h, 1, api.Call{Kind: api.CExit}, api.Reply{})
	is(t, h, 0, api.Call{Kind: api.CStats}, api.Reply{Stats: api.Stats{Mapped: 4}})
	is(t, h, 0, api.Call{Kind: api.CTrim}, api.Reply{Size: 4})
	empty(t, h, l)
}

// The chapter's example, and those of the whole that can be had alone.

func TestExample(t *testing.T) {
	for n := range 70 {
		h, l := heap(t, some())
		a := h.Do(1, 1, api.Call{Kind: api.CMalloc, Size: n}).Addr
		is(t, h, 1, api.Call{Kind: api.CFree, Addr: a}, api.Reply{})
		is(t, h, 1, api.Call{Kind: api.CFlush}, api.Reply{})
		is(t, h, 1, api.Call{Kind: api.CTrim}, api.Reply{Size: 4})
		is(t, h, 1, api.Call{Kind: api.CStats}, api.Reply{})
		empty(t, h, l)
	}
}

// TestOtherWorker has a worker free another one's block, once: the words that were stored there are whoever's has it next.
func TestOtherWorker(t *testing.T) {
	h, l := heap(t, some())
	a := l.User()
	is(t, h, 0, api.Call{Kind: api.CMalloc, Size: 3}, api.Reply{Addr: a, Size: 4})
	is(t, h, 0, api.Call{Kind: api.CStore, Addr: a + 3, Value: 7}, api.Reply{})
	is(t, h, 2, api.Call{Kind: api.CFree, Addr: a}, api.Reply{})
	is(t, h, 0, api.Call{Kind: api.CFree, Addr: a}, api.Reply{Err: api.ErrPointer})
	is(t, h, 0, api.Call{Kind: api.CLoad, Addr: a + 3}, api.Reply{Err: api.ErrPointer})
	is(t, h, 2, api.Call{Kind: api.CMalloc, Size: 4}, api.Reply{Addr: a, Size: 4})
	is(t, h, 1, api.Call{Kind: api.CLoad, Addr: a + 3}, api.Reply{Value: 7})
	is(t, h, 2, api.Call{Kind: api.CFree, Addr: a}, api.Reply{})
	is(t, h, 2, api.Call{Kind: api.CCalloc, Size: 4}, api.Reply{Addr: a, Size: 4})
	is(t, h, 1, api.Call{Kind: api.CLoad, Addr: a + 3}, api.Reply{})
}
