package chunk_test

import (
	"math"
	"slices"
	"testing"

	"assart/api"
	"assart/chunk"
	"assart/layout"
	"assart/view"
)

// beyond are numbers that no page and no chunk has, and of which no layout has so many; four times some of them are small numbers again.
var beyond = []int{math.MinInt, math.MinInt + 1, math.MinInt + 4, math.MinInt32, -1 << 20, -257, -64, -5, -4, -3, -2, -1, 257, 1 << 20, 1 << 31, 1 << 60, 1 << 61, 1 << 62, 1<<62 + 1, 3 << 61, math.MaxInt - 4, math.MaxInt - 3, math.MaxInt - 1, math.MaxInt}

// made tells the layout of so many pages.
func made(t *testing.T, pages int) layout.Layout {
	t.Helper()
	l, e := layout.Of(api.Config{Workers: 2, CPUs: 2, Pages: pages, Stripes: 3, Tries: 1, Wait: 1, Clock: 9, Private: 2, Cache: 1, Bin: 2, Batch: 2})
	if e != api.OK {
		t.Fatalf("a layout of %d pages: error %d", pages, e)
	}
	return l
}

// filled tells words of a layout of which the bits of set say which chunks are mapped. All other words are none that a chunk's may be, so that nothing is told of them by chance.
func filled(l layout.Layout, set int) []int {
	words := make([]int, l.Words())
	for a := range words {
		words[a] = 1000 + a
	}
	for k := range l.Chunks() {
		words[l.Table(k)] = set >> k & 1
	}
	return words
}

// does does a program over words, holds those that it read, and those that it changed, against the table's, and tells all behind it.
func does(t *testing.T, l layout.Layout, words []int, prog func(v *view.View)) []int {
	t.Helper()
	out, needed, e := view.Do(words, prog)
	if e != api.OK || len(out) != len(words) {
		t.Fatalf("of %d pages: error %d, %d words", l.Config().Pages, e, len(out))
	}
	table := map[int]int{}
	for k := range l.Chunks() {
		table[l.Table(k)] = 1
	}
	for _, x := range needed {
		if table[x.Addr] == 0 {
			t.Errorf("of %d pages: the word %d was read", l.Config().Pages, x.Addr)
		}
	}
	for a := range words {
		if words[a] != out[a] && table[a] == 0 {
			t.Errorf("of %d pages: the word %d was changed from %d to %d", l.Config().Pages, a, words[a], out[a])
		}
	}
	return out
}

// stands holds words against those that have just these chunks mapped.
func stands(t *testing.T, name string, l layout.Layout, words []int, set int) {
	t.Helper()
	if want := filled(l, set); !slices.Equal(words, want) {
		t.Errorf("%s, of %d pages: the words are not those of the chunks %b alone", name, l.Config().Pages, set)
	}
}

// plain is pages that know by themselves whether they are mapped: a chunk is four of them.
type plain []bool

// plainOf tells the pages of a layout of which the bits of set say which chunks are mapped.
func plainOf(l layout.Layout, set int) plain {
	m := make(plain, l.Config().Pages)
	for p := range m {
		m[p] = set>>(p/4)&1 == 1
	}
	return m
}

// set tells the chunks that are mapped, as bits.
func (m plain) set() int {
	set := 0
	for p, is := range m {
		if is {
			set |= 1 << (p / 4)
		}
	}
	return set
}

// count tells how many pages are mapped.
func (m plain) count() int {
	n := 0
	for _, is := range m {
		if is {
			n++
		}
	}
	return n
}

// turn lets all pages of a page's chunk be so, and tells how many were otherwise.
func (m plain) turn(p int, to bool) int {
	n := 0
	for q := range m {
		if q/4 == p/4 && m[q] != to {
			m[q] = to
			n++
		}
	}
	return n
}

// there tells whether n pages are there.
func (m plain) there(p, n int) bool {
	if n < 1 || n > len(m) {
		return false
	}
	for i := range n {
		if p < 0 || p > len(m) || p+i >= len(m) {
			return false
		}
	}
	return true
}

// covers is Covers, page by page.
func (m plain) covers(p, n int) bool {
	if !m.there(p, n) {
		return false
	}
	for i := range n {
		if !m[p+i] {
			return false
		}
	}
	return true
}

// ensure is Ensure, page by page.
func (m plain) ensure(p, n int) int {
	if !m.there(p, n) {
		return 0
	}
	turned := 0
	for i := range n {
		turned += m.turn(p+i, true)
	}
	return turned
}

// sizes are numbers of pages of which all sets of mapped chunks are gone through: such as have a last chunk of one, two, three and four.
var sizes = []int{1, 2, 3, 4, 5, 6, 7, 8, 9, 12, 13, 15, 16, 17}

// several calls f with each layout of these sizes, and each set of its chunks.
func several(t *testing.T, f func(l layout.Layout, set int)) {
	t.Helper()
	for _, pages := range sizes {
		l := made(t, pages)
		for set := range 1 << l.Chunks() {
			f(l, set)
		}
	}
}

// P8.1

func TestOf(t *testing.T) {
	for p := range 1100 {
		if k := chunk.Of(p); k != p/4 {
			t.Errorf("Of(%d) is %d", p, k)
		}
	}
	for _, p := range beyond {
		want := p >> 2
		if p < 0 {
			want = -1
		}
		if k := chunk.Of(p); k != want {
			t.Errorf("Of(%d) is %d, want %d", p, k, want)
		}
	}
}

// TestPages goes through all layouts, whose chunks have all pages, each once, in order.
func TestPages(t *testing.T) {
	for pages := 1; pages <= api.MaxPages; pages++ {
		l := made(t, pages)
		next := 0
		for k := range (pages + 3) / 4 {
			p, n := chunk.Pages(l, k)
			want := 4
			if pages-next < 4 {
				want = pages - next
			}
			if p != next || n != want {
				t.Errorf("of %d pages: Pages(%d) is %d, %d; want %d, %d", pages, k, p, n, next, want)
			}
			for i := range n {
				if chunk.Of(p+i) != k {
					t.Errorf("of %d pages: Of(%d) is %d, want %d", pages, p+i, chunk.Of(p+i), k)
				}
			}
			next += n
		}
		if next != pages {
			t.Errorf("of %d pages: chunks have %d", pages, next)
		}
		for _, k := range append([]int{(pages + 3) / 4, (pages+3)/4 + 1}, beyond...) {
			if p, n := chunk.Pages(l, k); p != 0 || n != 0 {
				t.Errorf("of %d pages: Pages(%d) of no chunk is %d, %d", pages, k, p, n)
			}
		}
	}
}

// TestMapped asks of each chunk of each set.
func TestMapped(t *testing.T) {
	several(t, func(l layout.Layout, set int) {
		out := does(t, l, filled(l, set), func(v *view.View) {
			for k := range l.Chunks() {
				if is := chunk.Mapped(v, l, k); is != (set>>k&1 == 1) {
					t.Errorf("of %d pages, %b mapped: Mapped(%d) is %t", l.Config().Pages, set, k, is)
				}
			}
		})
		stands(t, "Mapped", l, out, set)
	})
}

// TestCount counts none, some and all.
func TestCount(t *testing.T) {
	several(t, func(l layout.Layout, set int) {
		out := does(t, l, filled(l, set), func(v *view.View) {
			want := plainOf(l, set).count()
			if n := chunk.Count(v, l); n != want {
				t.Errorf("of %d pages, %b mapped: Count is %d, want %d", l.Config().Pages, set, n, want)
			}
		})
		stands(t, "Count", l, out, set)
	})
	for pages := 1; pages <= api.MaxPages; pages++ {
		l := made(t, pages)
		last := l.Chunks() - 1
		does(t, l, filled(l, 0), func(v *view.View) {
			if n := chunk.Count(v, l); n != 0 {
				t.Errorf("of %d pages, none mapped: Count is %d", pages, n)
			}
			chunk.Map(v, l, last)
			if n := chunk.Count(v, l); n != pages-4*last {
				t.Errorf("of %d pages, the last chunk mapped: Count is %d", pages, n)
			}
			for k := range last {
				chunk.Map(v, l, k)
			}
			if n := chunk.Count(v, l); n != pages {
				t.Errorf("of %d pages, all mapped: Count is %d", pages, n)
			}
			chunk.Unmap(v, l, last)
			if n := chunk.Count(v, l); n != 4*last {
				t.Errorf("of %d pages, all but the last chunk mapped: Count is %d", pages, n)
			}
		})
	}
}

// P8.2

// TestMap maps each chunk of each set, twice: what is mapped already is told false.
func TestMap(t *testing.T) {
	several(t, func(l layout.Layout, set int) {
		for k := range l.Chunks() {
			out := does(t, l, filled(l, set), func(v *view.View) {
				if did := chunk.Map(v, l, k); did != (set>>k&1 == 0) {
					t.Errorf("of %d pages, %b mapped: Map(%d) is %t", l.Config().Pages, set, k, did)
				}
				if !chunk.Mapped(v, l, k) || chunk.Map(v, l, k) || !chunk.Mapped(v, l, k) {
					t.Errorf("of %d pages, %b mapped: Map(%d), again", l.Config().Pages, set, k)
				}
			})
			stands(t, "Map", l, out, set|1<<k)
		}
	})
}

// TestUnmap lets each chunk of each set be not mapped, twice: what is not mapped is told false.
func TestUnmap(t *testing.T) {
	several(t, func(l layout.Layout, set int) {
		for k := range l.Chunks() {
			out := does(t, l, filled(l, set), func(v *view.View) {
				if did := chunk.Unmap(v, l, k); did != (set>>k&1 == 1) {
					t.Errorf("of %d pages, %b mapped: Unmap(%d) is %t", l.Config().Pages, set, k, did)
				}
				if chunk.Mapped(v, l, k) || chunk.Unmap(v, l, k) || chunk.Mapped(v, l, k) {
					t.Errorf("of %d pages, %b mapped: Unmap(%d), again", l.Config().Pages, set, k)
				}
			})
			stands(t, "Unmap", l, out, set&^(1<<k))
		}
	})
}

// TestBack turns chunks there and back, in one program and in several.
func TestBack(t *testing.T) {
	l := made(t, 9)
	does(t, l, filled(l, 0), func(v *view.View) {
		if !chunk.Map(v, l, 2) || !chunk.Unmap(v, l, 2) || !chunk.Map(v, l, 2) || !chunk.Map(v, l, 0) || !chunk.Unmap(v, l, 0) {
			t.Error("turned in one program")
		}
	})
	words := filled(l, 0b010)
	for i, want := range []int{0b011, 0b001, 0b101, 0b100} {
		words = does(t, l, words, []func(v *view.View){
			func(v *view.View) { chunk.Map(v, l, 0) },
			func(v *view.View) { chunk.Unmap(v, l, 1) },
			func(v *view.View) { chunk.Map(v, l, 2) },
			func(v *view.View) { chunk.Unmap(v, l, 0) },
		}[i])
		stands(t, "turned by several programs", l, words, want)
	}
}

// TestNoChunk asks of chunks that are none: nothing is read, and nothing is written, not the word 0 either.
func TestNoChunk(t *testing.T) {
	for _, pages := range []int{1, 3, 4, 5, 8, 255, 256} {
		l := made(t, pages)
		for _, k := range append([]int{l.Chunks(), l.Chunks() + 1, pages + 3}, beyond...) {
			for _, known := range [][]api.Pair{nil, {{Addr: 0, Val: 1}}, {{Addr: 0, Val: 0}}} {
				need, wrote := view.Run(known, func(v *view.View) {
					if chunk.Mapped(v, l, k) || chunk.Map(v, l, k) || chunk.Unmap(v, l, k) || chunk.Mapped(v, l, k) || chunk.Unmap(v, l, k) {
						t.Errorf("of %d pages: true of the chunk %d", pages, k)
					}
				})
				if need != -1 || len(wrote) != 0 {
					t.Errorf("of %d pages: the chunk %d needs %d, wrote %v", pages, k, need, wrote)
				}
			}
		}
	}
}

// TestNoLayout asks of the zero layout, which has no chunks.
func TestNoLayout(t *testing.T) {
	var l layout.Layout
	for _, x := range append([]int{0, 1, 4}, beyond...) {
		need, wrote := view.Run(nil, func(v *view.View) {
			p, pages := chunk.Pages(l, x)
			if p != 0 || pages != 0 || chunk.Mapped(v, l, x) || chunk.Map(v, l, x) || chunk.Unmap(v, l, x) {
				t.Errorf("a chunk %d of the zero layout", x)
			}
			for _, n := range []int{-1, 0, 1, 4, math.MaxInt} {
				if chunk.Covers(v, l, x, n) || chunk.Ensure(v, l, x, n) != 0 || chunk.Count(v, l) != 0 {
					t.Errorf("%d pages from %d on of the zero layout", n, x)
				}
			}
		})
		if need != -1 || len(wrote) != 0 {
			t.Errorf("the zero layout: needs %d, wrote %v", need, wrote)
		}
	}
}

// TestRight runs what finds all as it wants it: it only reads.
func TestRight(t *testing.T) {
	l := made(t, 10)
	known := []api.Pair{{Addr: l.Table(0), Val: 1}, {Addr: l.Table(1), Val: 0}, {Addr: l.Table(2), Val: 1}}
	need, wrote := view.Run(known, func(v *view.View) {
		chunk.Map(v, l, 0)
		chunk.Unmap(v, l, 1)
		chunk.Ensure(v, l, 8, 2)
		chunk.Ensure(v, l, 3, 1)
	})
	if need != -1 || len(wrote) != 0 {
		t.Errorf("needs %d, wrote %v", need, wrote)
	}
}

// P8.3

// spans calls f with pages to begin with, and how many, in and about a layout.
func spans(l layout.Layout, f func(p, n int)) {
	for p := -5; p <= l.Config().Pages+4; p++ {
		for n := -2; n <= l.Config().Pages+6; n++ {
			f(p, n)
		}
	}
}

// TestCovers holds Covers against each page's own.
func TestCovers(t *testing.T) {
	several(t, func(l layout.Layout, set int) {
		m := plainOf(l, set)
		out := does(t, l, filled(l, set), func(v *view.View) {
			spans(l, func(p, n int) {
				if is := chunk.Covers(v, l, p, n); is != m.covers(p, n) {
					t.Errorf("of %d pages, %b mapped: Covers(%d, %d) is %t", l.Config().Pages, set, p, n, is)
				}
			})
		})
		stands(t, "Covers", l, out, set)
	})
}

// TestEnsure holds Ensure against each page's own, and does it again.
func TestEnsure(t *testing.T) {
	several(t, func(l layout.Layout, set int) {
		words := filled(l, set)
		spans(l, func(p, n int) {
			m := plainOf(l, set)
			want := m.ensure(p, n)
			out := does(t, l, words, func(v *view.View) {
				if got := chunk.Ensure(v, l, p, n); got != want {
					t.Errorf("of %d pages, %b mapped: Ensure(%d, %d) is %d, want %d", l.Config().Pages, set, p, n, got, want)
				}
				if got := chunk.Ensure(v, l, p, n); got != 0 {
					t.Errorf("of %d pages, %b mapped: Ensure(%d, %d) again is %d", l.Config().Pages, set, p, n, got)
				}
				if is := chunk.Covers(v, l, p, n); is != m.there(p, n) {
					t.Errorf("of %d pages, %b mapped: Covers(%d, %d) behind Ensure is %t", l.Config().Pages, set, p, n, is)
				}
			})
			stands(t, "Ensure", l, out, m.set())
		})
	})
}

// TestOneHole covers all pages of the greatest layout, but those of one chunk.
func TestOneHole(t *testing.T) {
	for _, pages := range []int{253, 256} {
		l := made(t, pages)
		does(t, l, filled(l, 0), func(v *view.View) {
			if chunk.Covers(v, l, 0, pages) || chunk.Ensure(v, l, 0, pages) != pages || !chunk.Covers(v, l, 0, pages) {
				t.Errorf("all of %d pages", pages)
			}
			for k := range l.Chunks() {
				first, n := chunk.Pages(l, k)
				if !chunk.Unmap(v, l, k) || chunk.Covers(v, l, 0, pages) {
					t.Errorf("of %d pages: all are covered without the chunk %d", pages, k)
				}
				if chunk.Covers(v, l, first, 1) || chunk.Covers(v, l, first+n-1, 1) {
					t.Errorf("of %d pages: pages of the chunk %d are covered", pages, k)
				}
				if k > 0 && !chunk.Covers(v, l, 0, first) || k > 0 && chunk.Covers(v, l, 0, first+1) {
					t.Errorf("of %d pages: those ahead of the chunk %d", pages, k)
				}
				rest := pages - first - n
				if rest > 0 && !chunk.Covers(v, l, first+n, rest) || rest > 0 && chunk.Covers(v, l, first+n-1, rest+1) {
					t.Errorf("of %d pages: those behind the chunk %d", pages, k)
				}
				if got := chunk.Ensure(v, l, 0, pages); got != n {
					t.Errorf("of %d pages: without the chunk %d Ensure of all is %d", pages, k, got)
				}
			}
		})
	}
}

// TestFar asks of pages that are far from there: p and n together may wrap round.
func TestFar(t *testing.T) {
	for _, pages := range []int{1, 4, 6, 255, 256} {
		l := made(t, pages)
		known := make([]api.Pair, l.Chunks())
		for k := range known {
			known[k] = api.Pair{Addr: l.Table(k), Val: 1}
		}
		near := []int{0, 1, 2, 3, 4, pages - 1, pages, pages + 1}
		for _, p := range append(near, beyond...) {
			for _, n := range append(near, beyond...) {
				there := p >= 0 && n >= 1 && p < pages && n <= pages && p+n <= pages
				need, wrote := view.Run(known, func(v *view.View) {
					if is := chunk.Covers(v, l, p, n); is != there {
						t.Errorf("of %d pages, all mapped: Covers(%d, %d) is %t", pages, p, n, is)
					}
				})
				if need != -1 || len(wrote) != 0 {
					t.Errorf("of %d pages: Covers(%d, %d) needs %d, wrote %v", pages, p, n, need, wrote)
				}
				if there {
					continue
				}
				need, wrote = view.Run(nil, func(v *view.View) {
					if chunk.Ensure(v, l, p, n) != 0 || chunk.Covers(v, l, p, n) {
						t.Errorf("of %d pages: Ensure(%d, %d)", pages, p, n)
					}
				})
				if need != -1 || len(wrote) != 0 {
					t.Errorf("of %d pages: Ensure(%d, %d) needs %d, wrote %v", pages, p, n, need, wrote)
				}
			}
		}
	}
}

// P8.4

// TestCounted makes many calls, one behind the other, in programs of several, and holds Count against what each turned.
func TestCounted(t *testing.T) {
	for seed := range 400 {
		x := uint64(seed)*2862933555777941757 + 3037000493
		next := func(n int) int {
			x ^= x << 13
			x ^= x >> 7
			x ^= x << 17
			return int(x >> 20 % uint64(n))
		}
		l := made(t, 1+next(30))
		words, m := filled(l, 0), plainOf(l, 0)
		for range 12 {
			was, from := slices.Clone(m), x
			words = does(t, l, words, func(v *view.View) {
				// The program is run again and again, and has to do the same.
				copy(m, was)
				x = from
				for range 6 {
					counts(t, v, l, m, next)
				}
			})
			stands(t, "Map, Unmap and Ensure", l, words, m.set())
		}
	}
}

// counts makes one call that may turn chunks, and holds what it tells, and Count behind it, against the plain pages.
func counts(t *testing.T, v *view.View, l layout.Layout, m plain, next func(n int) int) {
	t.Helper()
	before := chunk.Count(v, l)
	k, p, n := next(l.Chunks()), next(len(m)+2)-1, next(len(m)+2)-1
	first, pages := chunk.Pages(l, k)
	turned, want := 0, 0
	switch next(5) {
	case 0, 1:
		want = -m.turn(first, false)
		if chunk.Unmap(v, l, k) {
			turned = -pages
		}
	case 2:
		want = m.turn(first, true)
		if chunk.Map(v, l, k) {
			turned = pages
		}
	default:
		want = m.ensure(p, n)
		turned = chunk.Ensure(v, l, p, n)
	}
	after := chunk.Count(v, l)
	if turned != want || after != before+turned || after != m.count() {
		t.Errorf("of %d pages: %d turned, want %d; Count was %d, and is %d, want %d", len(m), turned, want, before, after, m.count())
	}
}

// What is no view of a run that is on

// looks holds a view that reads 0 of all, and writes nothing, against what is told by it: all chunks are not mapped, and stay so.
func looks(t *testing.T, name string, v *view.View) {
	t.Helper()
	l := made(t, 5)
	for range 2 {
		for k := -1; k <= 2; k++ {
			is := k == 0 || k == 1
			if chunk.Mapped(v, l, k) || chunk.Unmap(v, l, k) || chunk.Map(v, l, k) != is {
				t.Errorf("%s: the chunk %d", name, k)
			}
		}
		if chunk.Covers(v, l, 0, 5) || chunk.Covers(v, l, 4, 1) || chunk.Covers(v, l, 4, 2) || chunk.Covers(v, l, 0, 0) {
			t.Errorf("%s: Covers", name)
		}
		if chunk.Ensure(v, l, 3, 2) != 5 || chunk.Ensure(v, l, 4, 1) != 1 || chunk.Ensure(v, l, 0, 1) != 4 || chunk.Ensure(v, l, 4, 2) != 0 || chunk.Ensure(v, l, -1, 2) != 0 {
			t.Errorf("%s: Ensure", name)
		}
		if chunk.Count(v, l) != 0 {
			t.Errorf("%s: Count is %d", name, chunk.Count(v, l))
		}
	}
}

// TestNoView asks by no view, by one whose run is over, and by one whose run ended where it needed a word.
func TestNoView(t *testing.T) {
	looks(t, "nil", nil)
	looks(t, "a view that nothing made", &view.View{})
	l := made(t, 5)
	var kept *view.View
	keep := func(v *view.View) {
		kept = v
		chunk.Ensure(v, l, 0, 5)
	}
	if need, wrote := view.Run(nil, keep); need != l.Table(0) || len(wrote) != 0 {
		t.Errorf("needs %d, wrote %v", need, wrote)
	}
	looks(t, "one that needed a word", kept)
	known := []api.Pair{{Addr: l.Table(0), Val: 1}}
	if need, _ := view.Run(known, keep); need != l.Table(1) {
		t.Errorf("needs %d", need)
	}
	looks(t, "one that needed another word", kept)
	known = append(known, api.Pair{Addr: l.Table(1), Val: 0})
	if need, wrote := view.Run(known, keep); need != -1 || !slices.Equal(wrote, []api.Pair{{Addr: l.Table(1), Val: 1}}) {
		t.Errorf("needs %d, wrote %v", need, wrote)
	}
	looks(t, "one that is done", kept)
}

// The chapter's example.
func TestExample(t *testing.T) {
	l := made(t, 5)
	p, n := chunk.Pages(l, 0)
	q, m := chunk.Pages(l, 1)
	if l.Chunks() != 2 || p != 0 || n != 4 || q != 4 || m != 1 {
		t.Errorf("%d chunks; pages %d, %d; %d, %d", l.Chunks(), p, n, q, m)
	}
	out := does(t, l, filled(l, 0), func(v *view.View) {
		if n := chunk.Ensure(v, l, 3, 2); n != 5 {
			t.Errorf("Ensure(3, 2) turns %d", n)
		}
		if n := chunk.Count(v, l); n != 5 {
			t.Errorf("Count is %d", n)
		}
	})
	stands(t, "Ensure(3, 2)", l, out, 0b11)
}
