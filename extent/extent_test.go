package extent_test

import (
	"math"
	"slices"
	"testing"

	"assart/api"
	"assart/chunk"
	"assart/extent"
	"assart/layout"
	"assart/view"
)

// beyond are numbers that no page has, and of which no layout has so many; some of them wrap round to small ones when they are added, or taken several times.
var beyond = []int{math.MinInt, math.MinInt + 1, math.MinInt + 4, math.MinInt32, -1 << 20, -257, -64, -5, -4, -3, -2, -1, 257, 1 << 20, 1 << 31, 1 << 60, 1 << 61, 1 << 62, 1<<62 + 1, 3 << 61, math.MaxInt - 255, math.MaxInt - 4, math.MaxInt - 3, math.MaxInt - 1, math.MaxInt}

// made tells the layout of so many pages.
func made(t *testing.T, pages int) layout.Layout {
	t.Helper()
	l, e := layout.Of(api.Config{Workers: 2, CPUs: 2, Pages: pages, Stripes: 3, Tries: 1, Wait: 1, Clock: 9, Private: 2, Cache: 1, Bin: 2, Batch: 2})
	if e != api.OK {
		t.Fatalf("a layout of %d pages: error %d", pages, e)
	}
	return l
}

// page is what a plain page knows by itself.
type page struct {
	kind, count, bits int
	mapped            bool
}

// plain is the pages of a layout, without words.
type plain []page

// words tells the words of a layout that say just that of its pages. All other words are none that a page's may be, so that nothing is told of them by chance.
func (m plain) words(l layout.Layout) []int {
	words := make([]int, l.Words())
	for a := range words {
		words[a] = 1000 + a
	}
	for k := range l.Chunks() {
		words[l.Table(k)] = 0
		if m[4*k].mapped {
			words[l.Table(k)] = 1
		}
	}
	for p, x := range m {
		words[l.Kind(p)], words[l.Count(p)], words[l.Bits(p)] = x.kind, x.count, x.bits
	}
	return words
}

// known tells the words of tables and pages alone, as pairs, so that a program that needs another word ends there.
func (m plain) known(l layout.Layout) []api.Pair {
	words := m.words(l)
	var known []api.Pair
	add := func(a int) { known = append(known, api.Pair{Addr: a, Val: words[a]}) }
	for k := range l.Chunks() {
		add(l.Table(k))
	}
	for p := range m {
		add(l.Kind(p))
		add(l.Count(p))
		add(l.Bits(p))
	}
	return known
}

// turn lets all pages of a chunk be mapped, or not, and tells how many were otherwise.
func (m plain) turn(k int, to bool) int {
	n := 0
	for p := range m {
		if p/4 == k && m[p].mapped != to {
			m[p].mapped = to
			n++
		}
	}
	return n
}

// does tells whether n pages from p on are there and free, and all mapped, if that is asked.
func (m plain) does(p, n int, mapped bool) bool {
	if p < 0 || p >= len(m) || n < 1 || n > len(m) {
		return false
	}
	for i := range n {
		if p+i >= len(m) || m[p+i].kind != 0 || mapped && !m[p+i].mapped {
			return false
		}
	}
	return true
}

// find is Find: each page is asked of.
func (m plain) find(n, step int) int {
	if n < 1 || step < 1 {
		return -1
	}
	for _, mapped := range []bool{true, false} {
		for p := range m {
			if p%step == 0 && m.does(p, n, mapped) {
				return p
			}
		}
	}
	return -1
}

// take is Take.
func (m plain) take(p, n, kind int) bool {
	blocks := kind >= 1 && kind <= 5 && n == 1
	if !m.does(p, n, false) || kind != 6 && !blocks {
		return false
	}
	for i := range n {
		m.turn((p+i)/4, true)
		m[p+i] = page{kind: 7, mapped: true}
	}
	m[p].kind = kind
	if kind == 6 {
		m[p].count = n
	}
	return true
}

// drop is Drop: a run goes as far as there are further pages of it.
func (m plain) drop(p int) int {
	if p < 0 || p >= len(m) || m[p].kind < 1 || m[p].kind > 6 {
		return 0
	}
	n := 1
	for m[p].kind == 6 && p+n < len(m) && m[p+n].kind == 7 {
		n++
	}
	for i := range n {
		m[p+i] = page{mapped: m[p+i].mapped}
	}
	return n
}

// first is First.
func (m plain) first(p int) int {
	if p < 0 || p >= len(m) || m[p].kind == 0 {
		return -1
	}
	for m[p].kind == 7 {
		p--
	}
	return p
}

// used is Used.
func (m plain) used() int {
	n := 0
	for _, x := range m {
		if x.kind != 0 {
			n++
		}
	}
	return n
}

// trim is Trim.
func (m plain) trim() int {
	turned := 0
	for k := range (len(m) + 3) / 4 {
		used := 0
		for p, x := range m {
			if p/4 == k && x.kind != 0 {
				used++
			}
		}
		if used == 0 {
			turned += m.turn(k, false)
		}
	}
	return turned
}

// kinds makes plain pages of a text: a letter each, . of a page that is free and mapped, _ of one that is free and not mapped, 1 to 5 of one with blocks, H of a run's first one, - of a further one. Blanks do not matter.
func kinds(text string) plain {
	var m plain
	for _, r := range text {
		switch r {
		case ' ':
			continue
		case '.':
			m = append(m, page{mapped: true})
		case '_':
			m = append(m, page{})
		case 'H':
			m = append(m, page{kind: 6, count: 1, mapped: true})
		case '-':
			m = append(m, page{kind: 7, mapped: true})
			m[m.first(len(m)-1)].count++
		default:
			m = append(m, page{kind: int(r - '0'), count: 2, bits: 5, mapped: true})
		}
	}
	return m
}

// does does a program over the words of plain pages, and tells all words behind it. It holds what was read against the words of tables and pages.
func does(t *testing.T, l layout.Layout, words []int, prog func(v *view.View)) []int {
	t.Helper()
	out, needed, e := view.Do(words, prog)
	if e != api.OK || len(out) != len(words) {
		t.Fatalf("of %d pages: error %d, %d words", l.Config().Pages, e, len(out))
	}
	for _, x := range needed {
		if x.Addr < l.Table(0) || x.Addr >= l.Next(0) {
			t.Errorf("of %d pages: the word %d was read", l.Config().Pages, x.Addr)
		}
	}
	return out
}

// stands holds words against those of plain pages.
func stands(t *testing.T, name string, l layout.Layout, words []int, m plain) {
	t.Helper()
	if !slices.Equal(words, m.words(l)) {
		t.Errorf("%s, of %d pages: the words are not those of %v", name, l.Config().Pages, m)
	}
}

// once runs a program that needs no words but those of tables and pages, and tells what it wrote.
func once(t *testing.T, name string, l layout.Layout, m plain, prog func(v *view.View)) []api.Pair {
	t.Helper()
	need, wrote := view.Run(m.known(l), prog)
	if need != -1 {
		t.Errorf("%s, of %v: needs %d", name, m, need)
	}
	return wrote
}

// looks runs a program that writes nothing.
func looks(t *testing.T, name string, l layout.Layout, m plain, prog func(v *view.View)) {
	t.Helper()
	if wrote := once(t, name, l, m, prog); len(wrote) != 0 {
		t.Errorf("%s, of %v: wrote %v", name, m, wrote)
	}
}

// blind runs a program that knows nothing, and holds it against needing and writing nothing.
func blind(t *testing.T, name string, prog func(v *view.View)) {
	t.Helper()
	if need, wrote := view.Run(nil, prog); need != -1 || len(wrote) != 0 {
		t.Errorf("%s: needs %d, wrote %v", name, need, wrote)
	}
}

// several calls f with plain pages of all kinds of which used ones are mapped: each page free, with blocks, or of a run, each chunk without used pages mapped or not.
func several(t *testing.T, most int, f func(l layout.Layout, m plain)) {
	t.Helper()
	for pages := 1; pages <= most; pages++ {
		further(nil, f, made(t, pages))
	}
}

// further calls f with all plain pages that begin with those.
func further(m plain, f func(l layout.Layout, m plain), l layout.Layout) {
	left := l.Config().Pages - len(m)
	if left == 0 {
		chunks(m, f, l)
		return
	}
	further(append(slices.Clone(m), page{}), f, l)
	further(append(slices.Clone(m), page{kind: 1 + len(m)%5, count: 3, bits: 9}), f, l)
	for n := range left {
		run := append(slices.Clone(m), page{kind: 6, count: n + 1})
		for range n {
			run = append(run, page{kind: 7})
		}
		further(run, f, l)
	}
}

// chunks calls f with those pages, and each set of mapped chunks that have all used ones.
func chunks(m plain, f func(l layout.Layout, m plain), l layout.Layout) {
sets:
	for set := range 1 << l.Chunks() {
		for p := range m {
			m[p].mapped = set>>(p/4)&1 == 1
			if m[p].kind != 0 && !m[p].mapped {
				continue sets
			}
		}
		f(l, m)
	}
}

// P9.1

// TestKind asks of each page of all kinds.
func TestKind(t *testing.T) {
	several(t, 6, func(l layout.Layout, m plain) {
		looks(t, "Kind", l, m, func(v *view.View) {
			for p := -3; p < len(m)+4; p++ {
				want := -1
				if p >= 0 && p < len(m) {
					want = m[p].kind
				}
				if k := extent.Kind(v, l, p); k != want {
					t.Errorf("of %v: Kind(%d) is %d, want %d", m, p, k, want)
				}
			}
		})
	})
}

// TestConstants holds the kinds' names against their numbers.
func TestConstants(t *testing.T) {
	if extent.Free != 0 || extent.Whole != 6 || extent.Rest != 7 {
		t.Error(extent.Free, extent.Whole, extent.Rest)
	}
}

// TestFirst asks of each page of all kinds.
func TestFirst(t *testing.T) {
	several(t, 7, func(l layout.Layout, m plain) {
		looks(t, "First", l, m, func(v *view.View) {
			for p := -3; p < len(m)+4; p++ {
				if f := extent.First(v, l, p); f != m.first(p) {
					t.Errorf("of %v: First(%d) is %d, want %d", m, p, f, m.first(p))
				}
			}
		})
	})
	m := kinds(".3H- --H4 H---")
	looks(t, "First", made(t, len(m)), m, func(v *view.View) {
		for p, want := range []int{-1, 1, 2, 2, 2, 2, 6, 7, 8, 8, 8, 8, -1} {
			if f := extent.First(v, made(t, len(m)), p); f != want {
				t.Errorf("First(%d) is %d, want %d", p, f, want)
			}
		}
	})
}

// TestUsed counts none, some and all.
func TestUsed(t *testing.T) {
	several(t, 7, func(l layout.Layout, m plain) {
		looks(t, "Used", l, m, func(v *view.View) {
			if n := extent.Used(v, l); n != m.used() {
				t.Errorf("of %v: Used is %d, want %d", m, n, m.used())
			}
		})
	})
	for pages := 1; pages <= api.MaxPages; pages++ {
		l := made(t, pages)
		m := make(plain, pages)
		looks(t, "Used", l, m, func(v *view.View) {
			if n := extent.Used(v, l); n != 0 {
				t.Errorf("of %d free pages: Used is %d", pages, n)
			}
		})
		m.take(0, pages, 6)
		looks(t, "Used", l, m, func(v *view.View) {
			if n := extent.Used(v, l); n != pages {
				t.Errorf("of a run of %d pages: Used is %d", pages, n)
			}
		})
	}
}

// TestNone asks of pages that are none: nothing is read, and nothing is written, not the word 0 either.
func TestNone(t *testing.T) {
	for _, pages := range []int{1, 3, 4, 5, 8, 255, 256} {
		l := made(t, pages)
		for _, p := range append([]int{pages, pages + 1, pages + 3}, beyond...) {
			blind(t, "a page that is none", func(v *view.View) {
				if extent.Kind(v, l, p) != -1 || extent.First(v, l, p) != -1 || extent.Drop(v, l, p) != 0 {
					t.Errorf("of %d pages: the page %d", pages, p)
				}
				for _, n := range append([]int{0, 1, 2, pages, pages + 1}, beyond...) {
					for _, kind := range []int{0, 1, 5, 6, 7} {
						if extent.Take(v, l, p, n, kind) {
							t.Errorf("of %d pages: Take(%d, %d, %d)", pages, p, n, kind)
						}
					}
				}
			})
		}
	}
}

// TestNoLayout asks of the zero layout, which has no pages.
func TestNoLayout(t *testing.T) {
	var l layout.Layout
	for _, x := range append([]int{0, 1, 4}, beyond...) {
		blind(t, "the zero layout", func(v *view.View) {
			if extent.Kind(v, l, x) != -1 || extent.First(v, l, x) != -1 || extent.Drop(v, l, x) != 0 || extent.Used(v, l) != 0 || extent.Trim(v, l) != 0 {
				t.Errorf("a page %d of the zero layout", x)
			}
			for _, y := range append([]int{0, 1, 4}, beyond...) {
				if extent.Find(v, l, x, y) != -1 || extent.Take(v, l, x, y, 6) || extent.Take(v, l, x, 1, 1) {
					t.Errorf("%d, %d of the zero layout", x, y)
				}
			}
		})
	}
}

// P9.2

// finds holds Find against a page.
func finds(t *testing.T, v *view.View, l layout.Layout, m plain, n, step, want int) {
	t.Helper()
	if p := extent.Find(v, l, n, step); p != want {
		t.Errorf("of %v: Find(%d, %d) is %d, want %d", m, n, step, p, want)
	}
}

// TestFind goes through all sets of free pages, and of mapped chunks.
func TestFind(t *testing.T) {
	for pages := 1; pages <= 9; pages++ {
		l := made(t, pages)
		for set := range 1 << pages {
			m := make(plain, pages)
			for p := range m {
				m[p].kind = set >> p & 1
			}
			chunks(m, func(l layout.Layout, m plain) {
				looks(t, "Find", l, m, func(v *view.View) {
					for n := -1; n <= pages+1; n++ {
						for step := -1; step <= pages+1; step++ {
							finds(t, v, l, m, n, step, m.find(n, step))
						}
					}
				})
			}, l)
		}
	}
}

// TestFindOf looks at what the chapter's words lead to, one by one.
func TestFindOf(t *testing.T) {
	for _, c := range []struct {
		pages         string
		n, step, want int
	}{
		{"____ _", 1, 1, 0}, // none is mapped
		{"____ _", 5, 1, 0},
		{"____ _", 6, 1, -1},
		{"____ .", 1, 1, 4}, // a mapped run stands behind one that is not
		{"____ .", 1, 4, 4},
		{"____ .", 1, 5, 0}, // but it is not at a multiple
		{"____ .", 2, 1, 0}, // but it is too short
		{"____ ....", 4, 1, 4},
		{"____ ....", 4, 3, 0},
		{"____ ....", 5, 1, 0},
		{"1... ____ ....", 4, 1, 8}, // a run over several chunks of which one is not mapped
		{"1... ____ ....", 4, 3, 3},
		{"1... ____ ....", 5, 1, 1},
		{"1... ____ ....", 9, 2, 2},
		{"1... ____ ....", 11, 1, 1},
		{"1... ____ ....", 11, 2, -1},
		{"1... .... ....", 11, 1, 1},
		{".... .... ...2", 11, 1, 0},
		{"HHHH HHHH .", 1, 8, 8}, // a short last chunk
		{"HHHH HHHH .", 2, 1, -1},
		{"HHHH HHHH ..", 2, 1, 8},
		{"HHHH HHHH __", 2, 1, 8},
		{"HHHH HHHH ..", 1, 9, 9},
		{"HHHH HHHH ..", 2, 9, -1},
		{"HHHH HHHH ...", 3, 2, 8},
		{"HHHH HHHH ...", 4, 1, -1},
		{"HHHH HHHH __.", 1, 10, 10},
		{"3H-- 5", 1, 1, -1}, // all are used
		{"3H-- .", 1, 1, 4},
		{".H-- -...", 3, 1, 5},
		{".H-- -...", 2, 2, 6},
		{".H-- -...", 1, 2, 0},
		{".H-- -...", 1, 3, 0},
		{"2H-- -...", 1, 3, 6},
		{"2H-- -...", 1, 5, 5},
		{"2H-- -...", 1, 8, -1},
		{"....", 1, 4, 0}, // a step beyond the last page
		{"....", 1, 1000, 0},
		{"....", 4, math.MaxInt, 0},
		{"1...", 1, 4, -1},
		{"1...", 1, math.MaxInt, -1},
	} {
		m := kinds(c.pages)
		l := made(t, len(m))
		looks(t, "Find", l, m, func(v *view.View) { finds(t, v, l, m, c.n, c.step, c.want) })
	}
}

// TestFindNone asks for what may not be, and for more than there is: no word is needed for that.
func TestFindNone(t *testing.T) {
	for _, pages := range []int{1, 3, 4, 5, 255, 256} {
		l := made(t, pages)
		blind(t, "Find of none", func(v *view.View) {
			for _, x := range append([]int{0, 1, 2, pages, pages + 1}, beyond...) {
				for _, least := range []int{math.MinInt, -pages, -1, 0} {
					if extent.Find(v, l, x, least) != -1 || extent.Find(v, l, least, x) != -1 {
						t.Errorf("of %d pages: a page for %d and %d", pages, x, least)
					}
				}
				if x > pages && (extent.Find(v, l, x, 1) != -1 || extent.Find(v, l, x, pages) != -1 || extent.Find(v, l, x, math.MaxInt) != -1) {
					t.Errorf("of %d pages: a page for %d", pages, x)
				}
			}
		})
	}
}

// TestFindFar has steps that wrap round when they are taken several times.
func TestFindFar(t *testing.T) {
	for _, pages := range []int{1, 4, 6, 256} {
		l := made(t, pages)
		m := make(plain, pages)
		for _, step := range beyond {
			for _, n := range []int{1, 2, pages} {
				looks(t, "Find", l, m, func(v *view.View) { finds(t, v, l, m, n, step, m.find(n, step)) })
			}
		}
		m.take(0, 1, 2)
		for _, step := range beyond {
			looks(t, "Find", l, m, func(v *view.View) { finds(t, v, l, m, 1, step, m.find(1, step)) })
		}
	}
}

// P9.3

// takes holds Take, and all words behind it, against the plain pages, and does it again.
func takes(t *testing.T, l layout.Layout, m plain, p, n, kind int) {
	t.Helper()
	was := slices.Clone(m)
	want := m.take(p, n, kind)
	out := does(t, l, was.words(l), func(v *view.View) {
		if did := extent.Take(v, l, p, n, kind); did != want {
			t.Errorf("of %v: Take(%d, %d, %d) is %t", was, p, n, kind, did)
		}
		if extent.Take(v, l, p, n, kind) {
			t.Errorf("of %v: Take(%d, %d, %d) again is true", was, p, n, kind)
		}
	})
	stands(t, "Take", l, out, m)
}

// TestTake takes of all kinds, in all pages.
func TestTake(t *testing.T) {
	several(t, 5, func(l layout.Layout, m plain) {
		for p := -1; p <= len(m); p++ {
			for n := -1; n <= len(m)+1; n++ {
				for _, kind := range []int{1, 6} {
					takes(t, l, slices.Clone(m), p, n, kind)
				}
			}
		}
	})
}

// TestTakeOf looks at runs over several chunks, which are mapped all by that, and no others.
func TestTakeOf(t *testing.T) {
	for _, pages := range []int{9, 10, 11, 12, 13} {
		l := made(t, pages)
		for p := range pages {
			for n := 1; p+n <= pages+1; n++ {
				for set := range 1 << l.Chunks() {
					m := make(plain, pages)
					for q := range m {
						m[q].mapped = set>>(q/4)&1 == 1
					}
					takes(t, l, m, p, n, 6)
				}
			}
		}
	}
	m := kinds("1_._ ____ ____ ____ _")
	takes(t, made(t, len(m)), m, 3, 9, 6)
	if m[2].mapped != true || m[11].mapped != true || m[12].mapped || m[16].mapped || m[3].kind != 6 || m[3].count != 9 || m[11].kind != 7 || m[12].kind != 0 {
		t.Errorf("%v", m)
	}
}

// TestTakeKinds takes of all kinds, those that may not be among them.
func TestTakeKinds(t *testing.T) {
	for kind := -3; kind <= 12; kind++ {
		for n := -1; n <= 6; n++ {
			takes(t, made(t, 6), kinds("____ __"), 0, n, kind)
			takes(t, made(t, 6), kinds("H-.. .."), 2, n, kind)
			takes(t, made(t, 6), kinds("H-.. .2"), 2, n, kind)
		}
	}
	for _, kind := range beyond {
		for _, n := range []int{1, 2} {
			takes(t, made(t, 6), kinds("H-.. .2"), 2, n, kind)
		}
	}
}

// TestTakeRefused refuses without a word: by the kind, by n, and where not all pages are there.
func TestTakeRefused(t *testing.T) {
	for _, pages := range []int{1, 4, 6, 255, 256} {
		l := made(t, pages)
		near := []int{0, 1, 2, 3, 4, pages - 1, pages, pages + 1}
		blind(t, "Take of what may not be", func(v *view.View) {
			for _, p := range append(near, beyond...) {
				for _, kind := range append([]int{0, 7, 8}, beyond...) {
					if extent.Take(v, l, p, 1, kind) {
						t.Errorf("of %d pages: Take(%d, 1, %d)", pages, p, kind)
					}
				}
				for _, n := range append(near, beyond...) {
					there := p >= 0 && n >= 1 && p < pages && n <= pages && p+n <= pages
					if n != 1 && (extent.Take(v, l, p, n, 1) || extent.Take(v, l, p, n, 5)) {
						t.Errorf("of %d pages: Take(%d, %d) of a class", pages, p, n)
					}
					if !there && (extent.Take(v, l, p, n, 6) || extent.Take(v, l, p, n, 3)) {
						t.Errorf("of %d pages: Take(%d, %d)", pages, p, n)
					}
				}
			}
		})
	}
}

// TestTakeUsed refuses, with one page used that is wanted, of each kind, at each place.
func TestTakeUsed(t *testing.T) {
	for _, used := range []int{1, 2, 3, 4, 5, 6} {
		for at := range 6 {
			m := make(plain, 6)
			m.take(at, 1, used)
			takes(t, made(t, 6), m, 0, 6, 6)
			takes(t, made(t, 6), slices.Clone(m), at, 1, 1)
			takes(t, made(t, 6), slices.Clone(m), at, 1, 6)
		}
	}
	m := kinds(".H-. ..")
	takes(t, made(t, 6), m, 2, 1, 6)
	takes(t, made(t, 6), m, 2, 2, 6)
	takes(t, made(t, 6), m, 0, 2, 6)
}

// TestTakeClears has numbers in the Count and Bits words of free pages: they are 0 behind it.
func TestTakeClears(t *testing.T) {
	l := made(t, 6)
	m := make(plain, 6)
	for p := range m {
		m[p].count, m[p].bits = 50+p, 60+p
	}
	takes(t, l, m, 1, 4, 6)
	takes(t, l, m, 0, 1, 4)
	if m[5].count != 55 || m[0].bits != 0 || m[1].count != 4 || m[4].bits != 0 {
		t.Errorf("%v", m)
	}
}

// P9.4

// drops holds Drop, and all words behind it, against the plain pages, and does it again.
func drops(t *testing.T, l layout.Layout, m plain, p int) {
	t.Helper()
	was := slices.Clone(m)
	want := m.drop(p)
	out := does(t, l, was.words(l), func(v *view.View) {
		if n := extent.Drop(v, l, p); n != want {
			t.Errorf("of %v: Drop(%d) is %d, want %d", was, p, n, want)
		}
		if n := extent.Drop(v, l, p); n != 0 {
			t.Errorf("of %v: Drop(%d) again is %d", was, p, n)
		}
	})
	stands(t, "Drop", l, out, m)
}

// TestDrop drops at all pages of all kinds.
func TestDrop(t *testing.T) {
	several(t, 6, func(l layout.Layout, m plain) {
		for p := -1; p <= len(m); p++ {
			drops(t, l, slices.Clone(m), p)
		}
	})
}

// TestDropOf drops what stands close to others, and over several chunks.
func TestDropOf(t *testing.T) {
	for _, c := range []struct {
		pages   string
		p, want int
	}{
		{"H-H- --H- 1", 0, 2},
		{"H-H- --H- 1", 1, 0},
		{"H-H- --H- 1", 2, 4},
		{"H-H- --H- 1", 3, 0},
		{"H-H- --H- 1", 5, 0},
		{"H-H- --H- 1", 6, 2},
		{"H-H- --H- 1", 8, 1},
		{"HHHH 1245 3", 3, 1},
		{"HHHH 1245 3", 4, 1},
		{"HHHH 1245 3", 7, 1},
		{"HHHH 1245 3", 8, 1},
		{"H--- ---- -", 0, 9},
		{".H-- ---- -", 0, 0},
		{".H-- ---- -", 1, 8},
		{".H-- ---- -", 8, 0},
	} {
		m := kinds(c.pages)
		l := made(t, len(m))
		if n := slices.Clone(m).drop(c.p); n != c.want {
			t.Errorf("of %s: %d pages, want %d", c.pages, n, c.want)
		}
		drops(t, l, m, c.p)
	}
	for pages := 1; pages <= api.MaxPages; pages += 5 {
		m := make(plain, pages)
		m.take(0, pages, 6)
		drops(t, made(t, pages), m, pages-1)
		drops(t, made(t, pages), m, 0)
	}
}

// trims holds Trim, and all words behind it, against the plain pages, and does it again.
func trims(t *testing.T, l layout.Layout, m plain) {
	t.Helper()
	was := slices.Clone(m)
	want := m.trim()
	out := does(t, l, was.words(l), func(v *view.View) {
		before := chunk.Count(v, l)
		if n := extent.Trim(v, l); n != want || before-chunk.Count(v, l) != n {
			t.Errorf("of %v: Trim is %d, want %d; Count goes from %d to %d", was, n, want, before, chunk.Count(v, l))
		}
		if n := extent.Trim(v, l); n != 0 {
			t.Errorf("of %v: Trim again is %d", was, n)
		}
	})
	stands(t, "Trim", l, out, m)
}

// TestTrim trims pages of all kinds.
func TestTrim(t *testing.T) {
	several(t, 6, func(l layout.Layout, m plain) { trims(t, l, slices.Clone(m)) })
}

// TestTrimOf trims chunks of which each page alone is used, or none, with last chunks of all lengths.
func TestTrimOf(t *testing.T) {
	for _, c := range []struct {
		pages string
		want  int
	}{
		{"____ ____ _", 0},
		{".... .... .", 9},
		{".... ____ .", 5},
		{"____ .... _", 4},
		{".... .... ..", 10},
		{".... .... ...", 11},
		{".... .... ....", 12},
		{"1... .... ..", 6},
		{".... 1... ..", 6},
		{".... .... 1.", 8},
		{".... .... .1", 8},
		{"...H --.. .1", 0},
		{"...H ---- ..", 2},
		{"H--- ---- -", 0},
		{"5... ____ ....", 4},
	} {
		m := kinds(c.pages)
		if n := slices.Clone(m).trim(); n != c.want {
			t.Errorf("of %s: %d pages, want %d", c.pages, n, c.want)
		}
		trims(t, made(t, len(m)), m)
	}
	for pages := 9; pages <= 12; pages++ {
		for used := range pages {
			m := make(plain, pages)
			for k := range (pages + 3) / 4 {
				m.turn(k, true)
			}
			m.take(used, 1, 1+used%6)
			trims(t, made(t, pages), m)
		}
	}
}

// P9.5

// TestLeast holds what is found against all pages ahead of it, by Kind and Mapped alone.
func TestLeast(t *testing.T) {
	several(t, 7, func(l layout.Layout, m plain) {
		looks(t, "Find", l, m, func(v *view.View) {
			for n := 1; n <= len(m); n++ {
				for step := 1; step <= 4; step++ {
					least(t, v, l, n, step)
				}
			}
		})
	})
}

// would tells whether n pages from p on are all there, free, and in mapped chunks, if that is asked.
func would(v *view.View, l layout.Layout, p, n int, mapped bool) bool {
	for q := p; q < p+n; q++ {
		if extent.Kind(v, l, q) != extent.Free || mapped && !chunk.Mapped(v, l, chunk.Of(q)) {
			return false
		}
	}
	return true
}

// least holds one page that is found against what P9.5 says of it.
func least(t *testing.T, v *view.View, l layout.Layout, n, step int) {
	t.Helper()
	found := extent.Find(v, l, n, step)
	mapped := found >= 0 && chunk.Covers(v, l, found, n)
	if found >= 0 && (found%step != 0 || !would(v, l, found, n, false)) {
		t.Errorf("of %d pages: Find(%d, %d) is %d, which does not do", l.Config().Pages, n, step, found)
	}
	for p := 0; p < l.Config().Pages; p += step {
		if !would(v, l, p, n, mapped) {
			continue
		}
		if found < 0 || p < found {
			t.Errorf("of %d pages: Find(%d, %d) is %d, and %d would do", l.Config().Pages, n, step, found, p)
		}
		if !mapped && would(v, l, p, n, true) {
			t.Errorf("of %d pages: Find(%d, %d) is %d, which is not mapped, and %d is", l.Config().Pages, n, step, found, p)
		}
	}
}

// P9.6

// TestBack takes, and drops: all pages are as they were, but for being mapped.
func TestBack(t *testing.T) {
	several(t, 6, func(l layout.Layout, m plain) {
		for p := range m {
			for n := 1; p+n <= len(m); n++ {
				for _, kind := range []int{1, 3, 5, 6} {
					back(t, l, m, p, n, kind)
				}
			}
		}
	})
}

// back takes and drops in one program, and holds all words but the table's against what they were.
func back(t *testing.T, l layout.Layout, m plain, p, n, kind int) {
	t.Helper()
	want, did := slices.Clone(m), false
	if want.take(p, n, kind) {
		want.drop(p)
		did = true
	}
	for q := range want {
		if want[q].kind != m[q].kind || want[q].count != m[q].count || want[q].bits != m[q].bits {
			t.Fatalf("of %v: plain pages are %v", m, want)
		}
	}
	out := does(t, l, m.words(l), func(v *view.View) {
		used := extent.Used(v, l)
		if extent.Take(v, l, p, n, kind) != did {
			t.Errorf("of %v: Take(%d, %d, %d)", m, p, n, kind)
		}
		if did && (extent.Used(v, l) != used+n || extent.First(v, l, p+n-1) != p || extent.Drop(v, l, p) != n) {
			t.Errorf("of %v: taken at %d, %d of kind %d", m, p, n, kind)
		}
		if extent.Used(v, l) != used {
			t.Errorf("of %v: Used is %d, and was %d", m, extent.Used(v, l), used)
		}
	})
	stands(t, "Take and Drop", l, out, want)
}

// TestRows makes many calls, one behind the other, in programs of several, as layers above would: the Count and Bits words of pages with blocks are written meanwhile. All is dropped, and trimmed, at last.
func TestRows(t *testing.T) {
	for seed := range 200 {
		x := uint64(seed)*2862933555777941757 + 3037000493
		next := func(n int) int {
			x ^= x << 13
			x ^= x >> 7
			x ^= x << 17
			return int(x >> 20 % uint64(n))
		}
		l := made(t, 1+next(40))
		m := make(plain, l.Config().Pages)
		words := m.words(l)
		first := slices.Clone(words)
		for range 15 {
			was, from := slices.Clone(m), x
			words = does(t, l, words, func(v *view.View) {
				// The program is run again and again, and has to do the same.
				copy(m, was)
				x = from
				for range 5 {
					step(t, v, l, m, next)
				}
			})
			stands(t, "a row of calls", l, words, m)
		}
		words = does(t, l, words, func(v *view.View) {
			for p := range m {
				extent.Drop(v, l, p)
			}
			extent.Trim(v, l)
			if extent.Used(v, l) != 0 || chunk.Count(v, l) != 0 {
				t.Errorf("of %d pages: %d are used, and %d mapped, at last", len(m), extent.Used(v, l), chunk.Count(v, l))
			}
		})
		if !slices.Equal(words, first) {
			t.Errorf("of %d pages: the words are not as they were at first", len(m))
		}
	}
}

// step makes one call, and holds it against the plain pages.
func step(t *testing.T, v *view.View, l layout.Layout, m plain, next func(n int) int) {
	t.Helper()
	p, n, kind := next(len(m)+2)-1, 1+next(6), 1+next(6)
	got, want := 0, 0
	switch next(6) {
	case 0, 1:
		got, want = extent.Drop(v, l, p), m.drop(p)
	case 2:
		got, want = extent.Trim(v, l), m.trim()
	case 3:
		if extent.Take(v, l, p, n, kind) != m.take(p, n, kind) {
			t.Errorf("of %v: Take(%d, %d, %d)", m, p, n, kind)
		}
	default:
		s := 1 + next(4)
		got, want = extent.Find(v, l, n, s), m.find(n, s)
		least(t, v, l, n, s)
		if extent.Take(v, l, got, n, 6) != m.take(want, n, 6) {
			t.Errorf("of %v: Take(%d, %d, 6)", m, got, n)
		}
	}
	if got != want || extent.Used(v, l) != m.used() {
		t.Errorf("of %v: %d, want %d; Used is %d", m, got, want, extent.Used(v, l))
	}
	if p >= 0 && p < len(m) && m[p].kind >= 1 && m[p].kind <= 5 {
		m[p].count, m[p].bits = n, kind
		v.Write(l.Count(p), n)
		v.Write(l.Bits(p), kind)
	}
}

// TestRight runs what is refused, or has nothing to do: it only reads.
func TestRight(t *testing.T) {
	m := kinds("1H-- .... ____ _")
	m[8].count, m[8].bits = 3, 4
	l := made(t, len(m))
	looks(t, "what is refused", l, m, func(v *view.View) {
		if extent.Take(v, l, 0, 1, 6) || extent.Take(v, l, 3, 2, 6) || extent.Take(v, l, 8, 2, 5) || extent.Take(v, l, 8, 1, 7) || extent.Take(v, l, 8, 6, 6) {
			t.Error("Take")
		}
		if extent.Drop(v, l, 2) != 0 || extent.Drop(v, l, 4) != 0 || extent.Drop(v, l, 8) != 0 || extent.Drop(v, l, 13) != 0 {
			t.Error("Drop")
		}
	})
	m = kinds("1H-- ____ _")
	looks(t, "Trim of nothing", made(t, len(m)), m, func(v *view.View) {
		if n := extent.Trim(v, made(t, len(m))); n != 0 {
			t.Errorf("Trim is %d", n)
		}
	})
}

// TestEnds has words that no calls lead to: each call ends, and what it tells is of pages that are there.
func TestEnds(t *testing.T) {
	l := made(t, 6)
	odd := []int{math.MinInt, -1, 0, 1, 5, 6, 7, 8, math.MaxInt}
	for _, kind := range odd {
		for _, count := range odd {
			for at := range 6 {
				m := make(plain, 6)
				for p := range m {
					m[p] = page{kind: 7, count: count, bits: kind, mapped: p < at}
				}
				m[at].kind = kind
				ends(t, l, m)
				for p := range at {
					m[p].kind = kind
				}
				ends(t, l, m)
			}
		}
	}
}

// ends makes all calls.
func ends(t *testing.T, l layout.Layout, m plain) {
	t.Helper()
	once(t, "odd words", l, m, func(v *view.View) {
		for p := range m {
			if f := extent.First(v, l, p); f < -1 || f > p {
				t.Errorf("of %v: First(%d) is %d", m, p, f)
			}
		}
		for p := range m {
			if n := extent.Drop(v, l, p); n < 0 || n > len(m)-p {
				t.Errorf("of %v: Drop(%d) is %d", m, p, n)
			}
		}
		extent.Find(v, l, 1, 1)
		extent.Used(v, l)
		extent.Trim(v, l)
		extent.Take(v, l, 0, len(m), 6)
	})
}

// What is no view of a run that is on

// dead holds a view that reads 0 of all, and writes nothing, against what is told by it: all pages are free, and not mapped, and stay so.
func dead(t *testing.T, name string, v *view.View) {
	t.Helper()
	l := made(t, 5)
	for range 2 {
		if extent.Kind(v, l, 4) != 0 || extent.Kind(v, l, 5) != -1 || extent.First(v, l, 0) != -1 || extent.Used(v, l) != 0 {
			t.Errorf("%s: looks", name)
		}
		if extent.Find(v, l, 2, 3) != 0 || extent.Find(v, l, 6, 1) != -1 || extent.Find(v, l, 1, 0) != -1 {
			t.Errorf("%s: Find", name)
		}
		if !extent.Take(v, l, 3, 2, 6) || extent.Take(v, l, 3, 3, 6) || extent.Take(v, l, 3, 2, 1) {
			t.Errorf("%s: Take", name)
		}
		if extent.Drop(v, l, 3) != 0 || extent.Drop(v, l, -1) != 0 || extent.Trim(v, l) != 0 {
			t.Errorf("%s: Drop and Trim", name)
		}
	}
}

// TestNoView asks by no view, by one whose run ended where it needed a word, and by one whose run is over.
func TestNoView(t *testing.T) {
	dead(t, "nil", nil)
	dead(t, "a view that nothing made", &view.View{})
	l := made(t, 5)
	var kept *view.View
	keep := func(v *view.View) {
		kept = v
		extent.Take(v, l, 0, 1, 6)
	}
	if need, wrote := view.Run(nil, keep); need != l.Kind(0) || len(wrote) != 0 {
		t.Errorf("needs %d, wrote %v", need, wrote)
	}
	dead(t, "one that needed a word", kept)
	if need, _ := view.Run(make(plain, 5).known(l), keep); need != -1 {
		t.Errorf("needs %d", need)
	}
	dead(t, "one that is done", kept)
}

// The chapter's example.
func TestExample(t *testing.T) {
	l := made(t, 5)
	m := make(plain, 5)
	does(t, l, m.words(l), func(v *view.View) {
		finds(t, v, l, m, 2, 1, 0)
		if !extent.Take(v, l, 0, 1, 6) {
			t.Error("Take(0, 1, 6)")
		}
		finds(t, v, l, m, 2, 2, 2)
	})
}
