package plist_test

import (
	"math"
	"slices"
	"testing"

	"assart/api"
	"assart/layout"
	"assart/plist"
	"assart/view"
)

// beyond are numbers that no page, class, or list has; some of them wrap round to small ones when one is added or taken away.
var beyond = []int{math.MinInt, math.MinInt + 1, math.MinInt + 2, math.MinInt32, -1 << 20, -257, -256, -33, -32, -5, -4, -3, -2, -1, 257, 1 << 20, 1 << 31, 1 << 32, 1 << 58, 1 << 62, math.MaxInt - 31, math.MaxInt - 2, math.MaxInt - 1, math.MaxInt}

// blocks are how many blocks of each class a page has.
var blocks = []int{32, 16, 8, 4, 2}

// made tells the layout of so many pages.
func made(t *testing.T, pages int) layout.Layout {
	t.Helper()
	l, e := layout.Of(api.Config{Workers: 2, CPUs: 2, Pages: pages, Stripes: 3, Tries: 1, Wait: 1, Clock: 9, Private: 2, Cache: 1, Bin: 2, Batch: 2})
	if e != api.OK {
		t.Fatalf("a layout of %d pages: error %d", pages, e)
	}
	return l
}

// name is a list's class and number.
type name struct{ c, f int }

// names tells all lists that there are.
func names() []name {
	var l []name
	for c, n := range blocks {
		for f := 1; f <= n; f++ {
			l = append(l, name{c, f})
		}
	}
	return l
}

// plain is lists of pages, without words.
type plain map[name][]int

// words tells the words of a layout that say just that of its pages. All other words are none that lead to a page, so that nothing is told of them by chance.
func (m plain) words(l layout.Layout) []int {
	words := make([]int, l.Words())
	for a := range words {
		words[a] = 1000 + a
	}
	for p := range l.Config().Pages {
		words[l.Next(p)], words[l.Prev(p)] = 0, 0
	}
	for _, n := range names() {
		words[l.Head(n.c, n.f)] = 0
		for i, p := range m[n] {
			if i == 0 {
				words[l.Head(n.c, n.f)] = p + 1
				continue
			}
			words[l.Next(m[n][i-1])], words[l.Prev(p)] = p+1, m[n][i-1]+1
		}
	}
	return words
}

// ours tells whether the word at a is one of lists, or of a page's place in one.
func ours(l layout.Layout, a int) bool { return a >= l.Next(0) && a < l.Cache(0, 0) }

// known tells the words of lists alone, as pairs, so that a program that needs another word ends there.
func known(l layout.Layout, words []int) []api.Pair {
	var pairs []api.Pair
	for a, x := range words {
		if ours(l, a) {
			pairs = append(pairs, api.Pair{Addr: a, Val: x})
		}
	}
	return pairs
}

// copied tells the same lists, apart.
func (m plain) copied() plain {
	n := plain{}
	for k, l := range m {
		n[k] = slices.Clone(l)
	}
	return n
}

// isList tells whether there is such a list.
func isList(c, f int) bool { return c >= 0 && c < 5 && f >= 1 && f <= blocks[c] }

// link is Link, of so many pages.
func (m plain) link(pages, p, c, f int) bool {
	if p < 0 || p >= pages || !isList(c, f) {
		return false
	}
	m[name{c, f}] = slices.Insert(slices.Clone(m[name{c, f}]), 0, p)
	return true
}

// unlink is Unlink.
func (m plain) unlink(p, c, f int) bool {
	i := slices.Index(m[name{c, f}], p)
	if i >= 0 {
		m[name{c, f}] = slices.Delete(slices.Clone(m[name{c, f}]), i, i+1)
	}
	return i >= 0
}

// first is First.
func (m plain) first(c int) int {
	for f := 1; f <= 32; f++ {
		if l := m[name{c, f}]; len(l) > 0 {
			return l[0]
		}
	}
	return -1
}

// has tells whether a page is in any list.
func (m plain) has(p int) bool {
	for _, l := range m {
		if slices.Contains(l, p) {
			return true
		}
	}
	return false
}

// does does a program over words, and tells all words behind it. It holds what was read against the words of lists.
func does(t *testing.T, l layout.Layout, words []int, prog func(v *view.View)) []int {
	t.Helper()
	out, needed, e := view.Do(words, prog)
	if e != api.OK || len(out) != len(words) {
		t.Fatalf("of %d pages: error %d, %d words", l.Config().Pages, e, len(out))
	}
	for _, x := range needed {
		if !ours(l, x.Addr) {
			t.Errorf("of %d pages: the word %d was read", l.Config().Pages, x.Addr)
		}
	}
	return out
}

// stands holds words against those of plain lists.
func stands(t *testing.T, what string, l layout.Layout, words []int, m plain) {
	t.Helper()
	if !slices.Equal(words, m.words(l)) {
		t.Errorf("%s, of %d pages: the words are not those of %v", what, l.Config().Pages, m)
	}
}

// looks runs a program that needs no words but those of lists, and writes nothing.
func looks(t *testing.T, what string, l layout.Layout, m plain, prog func(v *view.View)) {
	t.Helper()
	if need, wrote := view.Run(known(l, m.words(l)), prog); need != -1 || len(wrote) != 0 {
		t.Errorf("%s, of %v: needs %d, wrote %v", what, m, need, wrote)
	}
}

// blind runs a program that knows nothing, and holds it against needing and writing nothing.
func blind(t *testing.T, what string, prog func(v *view.View)) {
	t.Helper()
	if need, wrote := view.Run(nil, prog); need != -1 || len(wrote) != 0 {
		t.Errorf("%s: needs %d, wrote %v", what, need, wrote)
	}
}

// some are lists that pages are put into by several: two of one class, the least and the greatest one, and one of another class with the same number; and in the end one that stays without any.
var some = []name{{0, 1}, {0, 32}, {3, 1}, {2, 5}}

// several calls f with all ways in which pages, up to so many, may stand in three lists, or in none.
func several(t *testing.T, most int, f func(l layout.Layout, m plain)) {
	t.Helper()
	for pages := 1; pages <= most; pages++ {
		further(plain{}, 0, f, made(t, pages))
	}
}

// further calls f with those lists, and each way in which the pages from p on may stand in them.
func further(m plain, p int, f func(l layout.Layout, m plain), l layout.Layout) {
	if p == l.Config().Pages {
		f(l, m)
		return
	}
	further(m, p+1, f, l)
	for _, n := range some[:3] {
		for i := range len(m[n]) + 1 {
			more := m.copied()
			more[n] = slices.Insert(more[n], i, p)
			further(more, p+1, f, l)
		}
	}
}

// lists holds List and First of all lists against the plain ones.
func lists(t *testing.T, v *view.View, l layout.Layout, m plain) {
	t.Helper()
	for _, n := range names() {
		if got := plist.List(v, l, n.c, n.f); !slices.Equal(got, m[n]) {
			t.Errorf("of %v: List(%d, %d) is %v", m, n.c, n.f, got)
		}
	}
	for c := range blocks {
		if p := plist.First(v, l, c); p != m.first(c) {
			t.Errorf("of %v: First(%d) is %d, want %d", m, c, p, m.first(c))
		}
	}
}

// P10.1

// links holds Link, and all words behind it, against the plain lists.
func links(t *testing.T, l layout.Layout, m plain, p, c, f int) {
	t.Helper()
	was := m.copied()
	want := m.link(l.Config().Pages, p, c, f)
	prog := func(v *view.View) {
		if plist.Link(v, l, p, c, f) != want {
			t.Errorf("of %v: Link(%d, %d, %d) is not %t", was, p, c, f, want)
		}
	}
	stands(t, "Link", l, does(t, l, was.words(l), prog), m)
	if !want {
		blind(t, "Link that is refused", prog)
	}
}

// unlinks holds Unlink, and all words behind it, against the plain lists. Where nothing is to be done, it only reads.
func unlinks(t *testing.T, l layout.Layout, m plain, p, c, f int) {
	t.Helper()
	was := m.copied()
	want := m.unlink(p, c, f)
	prog := func(v *view.View) {
		if plist.Unlink(v, l, p, c, f) != want {
			t.Errorf("of %v: Unlink(%d, %d, %d) is not %t", was, p, c, f, want)
		}
	}
	stands(t, "Unlink", l, does(t, l, was.words(l), prog), m)
	if !want {
		looks(t, "Unlink that is refused", l, was, prog)
	}
}

// TestLink links each page that is in no list, and such as are none, into lists of none, of one, and of several.
func TestLink(t *testing.T) {
	several(t, 4, func(l layout.Layout, m plain) {
		for p := -2; p <= l.Config().Pages+1; p++ {
			if m.has(p) {
				continue
			}
			for _, n := range some {
				links(t, l, m.copied(), p, n.c, n.f)
			}
		}
	})
}

// TestUnlink takes each page, and such as are none, out of lists that have it, and out of others.
func TestUnlink(t *testing.T) {
	several(t, 4, func(l layout.Layout, m plain) {
		for p := -2; p <= l.Config().Pages+1; p++ {
			for _, n := range some {
				unlinks(t, l, m.copied(), p, n.c, n.f)
			}
		}
	})
}

// place holds what stands in a page's words against one more than the page behind it, and than the one ahead.
func place(t *testing.T, l layout.Layout, words []int, p, next, prev int) {
	t.Helper()
	if words[l.Next(p)] != next || words[l.Prev(p)] != prev {
		t.Errorf("of the page %d Next is %d, Prev %d; want %d, %d", p, words[l.Next(p)], words[l.Prev(p)], next, prev)
	}
}

// TestLinkWords holds single words behind Link into a list of none, of one, and of two.
func TestLinkWords(t *testing.T) {
	l := made(t, 6)
	words := make([]int, l.Words())
	for _, c := range []struct{ p, next, behind int }{{4, 0, -1}, {0, 5, 4}, {5, 1, 0}} {
		words = does(t, l, words, func(v *view.View) {
			if !plist.Link(v, l, c.p, 1, 16) {
				t.Errorf("Link(%d, 1, 16)", c.p)
			}
		})
		if words[l.Head(1, 16)] != c.p+1 {
			t.Errorf("behind Link(%d, 1, 16) Head is %d", c.p, words[l.Head(1, 16)])
		}
		place(t, l, words, c.p, c.next, 0)
		if c.behind >= 0 && words[l.Prev(c.behind)] != c.p+1 {
			t.Errorf("behind Link(%d, 1, 16) Prev of %d is %d", c.p, c.behind, words[l.Prev(c.behind)])
		}
	}
	place(t, l, words, 5, 1, 0)
	place(t, l, words, 0, 5, 6)
	place(t, l, words, 4, 0, 1)
	for p := range 4 {
		place(t, l, words, []int{1, 2, 3, 1}[p], 0, 0)
	}
}

// TestUnlinkWords holds single words behind Unlink of the first page, of one in the midst, of the last one, and of the only one.
func TestUnlinkWords(t *testing.T) {
	l := made(t, 6)
	// The list is 2, 5, 0, 3.
	first := make([]int, l.Words())
	first[l.Head(2, 8)] = 3
	first[l.Next(2)], first[l.Next(5)], first[l.Next(0)] = 6, 1, 4
	first[l.Prev(5)], first[l.Prev(0)], first[l.Prev(3)] = 3, 6, 1
	behind := func(words []int, p, head int) []int {
		t.Helper()
		out := does(t, l, words, func(v *view.View) {
			if !plist.Unlink(v, l, p, 2, 8) || plist.Unlink(v, l, p, 2, 8) {
				t.Errorf("Unlink(%d, 2, 8), twice", p)
			}
		})
		if out[l.Head(2, 8)] != head {
			t.Errorf("behind Unlink(%d, 2, 8) Head is %d, want %d", p, out[l.Head(2, 8)], head)
		}
		place(t, l, out, p, 0, 0)
		return out
	}
	w := behind(first, 2, 6)
	place(t, l, w, 5, 1, 0)
	place(t, l, w, 0, 4, 6)
	place(t, l, w, 3, 0, 1)
	w = behind(first, 5, 3)
	place(t, l, w, 2, 1, 0)
	place(t, l, w, 0, 4, 3)
	place(t, l, w, 3, 0, 1)
	w = behind(first, 0, 3)
	place(t, l, w, 2, 6, 0)
	place(t, l, w, 5, 4, 3)
	place(t, l, w, 3, 0, 6)
	w = behind(first, 3, 3)
	place(t, l, w, 2, 6, 0)
	place(t, l, w, 5, 1, 3)
	place(t, l, w, 0, 0, 6)
	w = behind(behind(behind(w, 5, 3), 2, 1), 0, 0)
	if !slices.Equal(w, make([]int, l.Words())) {
		t.Error("a list without pages any more: not all words are 0")
	}
}

// TestNone asks of pages that are none: nothing is read, and nothing is written, not the word 0 either.
func TestNone(t *testing.T) {
	for _, pages := range []int{1, 3, 4, 5, 8, 255, 256} {
		l := made(t, pages)
		blind(t, "a page that is none", func(v *view.View) {
			for _, p := range append([]int{pages, pages + 1, pages + 31}, beyond...) {
				for _, n := range names() {
					if plist.Link(v, l, p, n.c, n.f) || plist.Unlink(v, l, p, n.c, n.f) {
						t.Errorf("of %d pages: the page %d in the list %v", pages, p, n)
					}
				}
			}
		})
	}
}

// TestNoList asks of classes that are none, and for each class of numbers that no list has: 0, below 0, one beyond the class's blocks.
func TestNoList(t *testing.T) {
	for _, pages := range []int{1, 5, 256} {
		l := made(t, pages)
		blind(t, "a list that is none", func(v *view.View) {
			none := func(c, f int) {
				for _, p := range []int{-1, 0, 1, pages - 1, pages, math.MaxInt} {
					if plist.Link(v, l, p, c, f) || plist.Unlink(v, l, p, c, f) {
						t.Errorf("of %d pages: the page %d in the list %d, %d", pages, p, c, f)
					}
				}
				if got := plist.List(v, l, c, f); len(got) != 0 {
					t.Errorf("of %d pages: List(%d, %d) is %v", pages, c, f, got)
				}
			}
			for c, n := range blocks {
				for _, f := range append([]int{0, n + 1, n + 2, 2 * n, 33}, beyond...) {
					if f < 1 || f > n {
						none(c, f)
					}
				}
			}
			for _, c := range append([]int{5, 6, 7, 31, 32}, beyond...) {
				for _, f := range []int{math.MinInt, -1, 0, 1, 2, 3, 16, 32, 33, math.MaxInt} {
					none(c, f)
				}
				if p := plist.First(v, l, c); p != -1 {
					t.Errorf("of %d pages: First(%d) is %d", pages, c, p)
				}
			}
		})
	}
}

// TestAllLists links into each list that there is, and takes out of it: no other list has the page.
func TestAllLists(t *testing.T) {
	l := made(t, 3)
	for _, n := range names() {
		m := plain{}
		for _, p := range []int{1, 0, 2} {
			links(t, l, m, p, n.c, n.f)
		}
		looks(t, "List", l, m, func(v *view.View) { lists(t, v, l, m) })
		for _, other := range names() {
			if other != n {
				unlinks(t, l, m, 1, other.c, other.f)
			}
		}
		for _, p := range []int{0, 2, 1} {
			unlinks(t, l, m, p, n.c, n.f)
		}
		if len(m[n]) != 0 {
			t.Errorf("the plain list %v has %v", n, m[n])
		}
	}
}

// TestNoLayout asks of the zero layout, which has no pages, and no lists.
func TestNoLayout(t *testing.T) {
	var l layout.Layout
	blind(t, "the zero layout", func(v *view.View) {
		for _, x := range append([]int{0, 1, 4}, beyond...) {
			for _, n := range append(names(), name{0, 0}, name{x, 1}, name{1, x}, name{x, x}) {
				if plist.Link(v, l, x, n.c, n.f) || plist.Unlink(v, l, x, n.c, n.f) || len(plist.List(v, l, n.c, n.f)) != 0 || plist.First(v, l, n.c) != -1 {
					t.Errorf("the page %d in the list %v of the zero layout", x, n)
				}
			}
		}
	})
}

// P10.2

// TestLooks tells all lists, of none, of one, and of several pages, in all orders.
func TestLooks(t *testing.T) {
	several(t, 4, func(l layout.Layout, m plain) {
		looks(t, "List and First", l, m, func(v *view.View) { lists(t, v, l, m) })
	})
}

// TestListAll has all pages in one list, and takes the first one, one in the midst, and the last one out of it.
func TestListAll(t *testing.T) {
	for _, pages := range []int{1, 2, 3, 4, 5, 63, 64, 65, 255, 256} {
		l := made(t, pages)
		n := names()[pages%len(names())]
		m := plain{}
		out := does(t, l, m.words(l), func(v *view.View) {
			m = plain{}
			for p := range pages {
				if !plist.Link(v, l, p, n.c, n.f) || !m.link(pages, p, n.c, n.f) {
					t.Errorf("Link(%d, %d, %d)", p, n.c, n.f)
				}
			}
			got := plist.List(v, l, n.c, n.f)
			for i, p := range got {
				if p != pages-1-i {
					t.Errorf("of %d pages: the page %d is %d", pages, i, p)
				}
			}
			if len(got) != pages || plist.First(v, l, n.c) != pages-1 {
				t.Errorf("of %d pages: %d are told, First is %d", pages, len(got), plist.First(v, l, n.c))
			}
		})
		stands(t, "Link of all", l, out, m)
		for _, p := range []int{0, pages / 2, pages - 1} {
			unlinks(t, l, m.copied(), p, n.c, n.f)
		}
	}
}

// TestListApart writes into what List told: it is told the same again.
func TestListApart(t *testing.T) {
	l := made(t, 5)
	m := plain{{1, 3}: {4, 0, 2}}
	looks(t, "List", l, m, func(v *view.View) {
		got := plist.List(v, l, 1, 3)
		for i := range got {
			got[i] = 1
		}
		_ = append(got, 1)
		if got = plist.List(v, l, 1, 3); !slices.Equal(got, []int{4, 0, 2}) {
			t.Errorf("List is %v", got)
		}
	})
}

// TestFirst has no list, one, and each two of a class: the one of the lesser number counts. Lists of other classes do not.
func TestFirst(t *testing.T) {
	l := made(t, 12)
	first := func(m plain, c, want int) {
		t.Helper()
		looks(t, "First", l, m, func(v *view.View) {
			if p := plist.First(v, l, c); p != want {
				t.Errorf("of %v: First(%d) is %d, want %d", m, c, p, want)
			}
		})
	}
	for c, n := range blocks {
		first(plain{}, c, -1)
		others := plain{}
		for other, most := range blocks {
			if other != c {
				first(plain{{other, 1}: {5}, {other, most}: {6}}, c, -1)
				others[name{other, 1}] = []int{7 + other}
			}
		}
		for f := 1; f <= n; f++ {
			m := others.copied()
			m[name{c, f}] = []int{3, 1}
			first(m, c, 3)
			for g := 1; g < f; g++ {
				least := m.copied()
				least[name{c, g}] = []int{4}
				first(least, c, 4)
			}
		}
	}
	first(plain{{0, 2}: {6}, {0, 3}: {0}, {0, 9}: {1, 2}, {0, 32}: {4}, {1, 1}: {5}}, 0, 6)
	first(plain{{4, 1}: {0}, {4, 2}: {1}}, 4, 0)
	first(plain{{4, 2}: {1}, {3, 1}: {0}}, 4, 1)
}

// TestFirstGoesOn links and takes out, and asks First meanwhile.
func TestFirstGoesOn(t *testing.T) {
	l := made(t, 4)
	does(t, l, make([]int, l.Words()), func(v *view.View) {
		want := func(p int) {
			t.Helper()
			if got := plist.First(v, l, 3); got != p {
				t.Errorf("First(3) is %d, want %d", got, p)
			}
		}
		want(-1)
		plist.Link(v, l, 2, 3, 4)
		want(2)
		plist.Link(v, l, 0, 3, 4)
		want(0)
		plist.Link(v, l, 3, 3, 2)
		want(3)
		plist.Link(v, l, 1, 3, 3)
		want(3)
		plist.Unlink(v, l, 3, 3, 2)
		want(1)
		plist.Unlink(v, l, 1, 3, 3)
		want(0)
		plist.Unlink(v, l, 0, 3, 4)
		want(2)
		plist.Unlink(v, l, 2, 3, 4)
		want(-1)
	})
}

// P10.3

// agree goes through the words of a list by its Head and Next words, without the package, and tells its pages. It holds each Prev word against the page ahead.
func agree(t *testing.T, l layout.Layout, words []int, n name) []int {
	t.Helper()
	var pages []int
	ahead := 0
	for x := words[l.Head(n.c, n.f)]; x != 0; x = words[l.Next(x-1)] {
		if x < 1 || x > l.Config().Pages || len(pages) == l.Config().Pages {
			t.Fatalf("the list %v has %v, and then %d", n, pages, x-1)
		}
		if words[l.Prev(x-1)] != ahead {
			t.Errorf("the list %v, behind %v: Prev of %d is %d, want %d", n, pages, x-1, words[l.Prev(x-1)], ahead)
		}
		pages, ahead = append(pages, x-1), x
	}
	return pages
}

// TestKept takes each page out of its list: the others of that list stand there in order, all other lists are as they were, and Next and Prev agree.
func TestKept(t *testing.T) {
	several(t, 4, func(l layout.Layout, m plain) {
		for n, pages := range m {
			for _, p := range pages {
				out := does(t, l, m.words(l), func(v *view.View) { plist.Unlink(v, l, p, n.c, n.f) })
				for _, other := range some {
					want := m[other]
					if other == n {
						want = slices.DeleteFunc(slices.Clone(want), func(q int) bool { return q == p })
					}
					if got := agree(t, l, out, other); !slices.Equal(got, want) {
						t.Errorf("of %v, behind Unlink(%d, %d, %d): the list %v is %v", m, p, n.c, n.f, other, got)
					}
				}
			}
		}
	})
}

// TestBack links, and takes out: all words are as they were.
func TestBack(t *testing.T) {
	several(t, 4, func(l layout.Layout, m plain) {
		for p := range l.Config().Pages {
			if m.has(p) {
				continue
			}
			for _, n := range some {
				out := does(t, l, m.words(l), func(v *view.View) {
					if !plist.Link(v, l, p, n.c, n.f) || plist.List(v, l, n.c, n.f)[0] != p || !plist.Unlink(v, l, p, n.c, n.f) {
						t.Errorf("of %v: Link and Unlink(%d, %d, %d)", m, p, n.c, n.f)
					}
				})
				stands(t, "Link and Unlink", l, out, m)
			}
		}
	})
}

// TestRows makes many calls, one behind the other, in programs of several. All pages are taken out at last.
func TestRows(t *testing.T) {
	for seed := range 150 {
		x := uint64(seed)*2862933555777941757 + 3037000493
		next := func(n int) int {
			x ^= x << 13
			x ^= x >> 7
			x ^= x << 17
			return int(x >> 20 % uint64(n))
		}
		l := made(t, 1+next(24))
		m := plain{}
		words := m.words(l)
		for range 12 {
			was, from := m.copied(), x
			words = does(t, l, words, func(v *view.View) {
				// The program is run again and again, and has to do the same.
				m = was.copied()
				x = from
				for range 8 {
					step(t, v, l, m, next)
				}
				lists(t, v, l, m)
			})
			stands(t, "a row of calls", l, words, m)
			for n, pages := range m {
				if got := agree(t, l, words, n); !slices.Equal(got, pages) {
					t.Errorf("the list %v is %v, want %v", n, got, pages)
				}
			}
		}
		words = does(t, l, words, func(v *view.View) {
			for _, n := range names() {
				for _, p := range m[n] {
					plist.Unlink(v, l, p, n.c, n.f)
				}
			}
		})
		stands(t, "all taken out", l, words, plain{})
	}
}

// step makes one call, and holds it against the plain lists. Few lists are used, so that they have several pages.
func step(t *testing.T, v *view.View, l layout.Layout, m plain, next func(n int) int) {
	t.Helper()
	pages := l.Config().Pages
	p, c := next(pages+2)-1, next(6)
	f := []int{0, 1, 2, 3, 4, 8, 16, 32}[next(8)]
	switch next(4) {
	case 0:
		// Of a list that has the page, if one does.
		for _, n := range names() {
			if slices.Contains(m[n], p) {
				c, f = n.c, n.f
			}
		}
	case 1, 2:
		n := some[next(len(some))]
		c, f = n.c, n.f
	}
	if m.has(p) || next(6) == 0 {
		if want := m.unlink(p, c, f); plist.Unlink(v, l, p, c, f) != want {
			t.Errorf("of %v: Unlink(%d, %d, %d) is not %t", m, p, c, f, want)
		}
		return
	}
	if want := m.link(pages, p, c, f); plist.Link(v, l, p, c, f) != want {
		t.Errorf("of %v: Link(%d, %d, %d) is not %t", m, p, c, f, want)
	}
}

// What no calls lead to

// TestEnds has words that no calls lead to: lists that go round, pages that are none, Prev words that say anything. Each call ends, tells pages that are there, and needs and writes no words but those of lists.
func TestEnds(t *testing.T) {
	l := made(t, 3)
	odd := []int{math.MinInt, -1, 0, 1, 2, 3, 4, 257, math.MaxInt}
	for _, head := range odd {
		for _, next := range odd {
			for _, last := range odd {
				for _, prev := range []int{math.MinInt, -1, 0, 1, 3, 4, math.MaxInt} {
					words := make([]int, l.Words())
					words[l.Head(2, 1)], words[l.Head(2, 2)] = head, last
					for p := range 3 {
						words[l.Next(p)], words[l.Prev(p)] = next, prev
					}
					words[l.Next(2)] = last
					for p := -1; p <= 3; p++ {
						ends(t, l, words, p)
					}
				}
			}
		}
	}
}

// ends makes all calls with a page.
func ends(t *testing.T, l layout.Layout, words []int, p int) {
	t.Helper()
	there := func(v *view.View) {
		for f := 1; f <= 2; f++ {
			got := plist.List(v, l, 2, f)
			for _, q := range got {
				if q < 0 || q > 2 {
					t.Errorf("List tells %v", got)
				}
			}
			if len(got) > 3 {
				t.Errorf("List tells %v of 3 pages", got)
			}
		}
		if q := plist.First(v, l, 2); q < -1 || q > 2 {
			t.Errorf("First is %d", q)
		}
	}
	calls := []func(v *view.View){
		func(v *view.View) { plist.Unlink(v, l, p, 2, 1) },
		func(v *view.View) { plist.Link(v, l, p, 2, 1) },
		func(v *view.View) { plist.Unlink(v, l, p, 2, 2) },
		func(v *view.View) { plist.Link(v, l, p, 2, 2) },
	}
	for first := range calls {
		need, wrote := view.Run(known(l, words), func(v *view.View) {
			for i := range calls {
				there(v)
				calls[(first+i)%len(calls)](v)
			}
			there(v)
		})
		if need != -1 {
			t.Errorf("needs %d", need)
		}
		for _, x := range wrote {
			if !ours(l, x.Addr) {
				t.Errorf("wrote %d at %d", x.Val, x.Addr)
			}
		}
	}
}

// TestLinkTwice links what is in a list already, of which nothing is promised but that each call ends.
func TestLinkTwice(t *testing.T) {
	several(t, 3, func(l layout.Layout, m plain) {
		for p := range l.Config().Pages {
			if m.has(p) {
				twice(t, l, m, p)
			}
		}
	})
}

// twice links a page into each of some lists, one behind the other, and takes it out of them.
func twice(t *testing.T, l layout.Layout, m plain, p int) {
	t.Helper()
	does(t, l, m.words(l), func(v *view.View) {
		for _, n := range some {
			plist.Link(v, l, p, n.c, n.f)
			for _, k := range some {
				if got := plist.List(v, l, k.c, k.f); len(got) > l.Config().Pages {
					t.Errorf("List tells %v of %d pages", got, l.Config().Pages)
				}
			}
			plist.First(v, l, n.c)
		}
		for _, n := range some {
			plist.Unlink(v, l, p, n.c, n.f)
		}
	})
}

// dead holds a view that reads 0 of all, and writes nothing, against what is told by it: no list has a page.
func dead(t *testing.T, what string, v *view.View) {
	t.Helper()
	l := made(t, 5)
	for range 2 {
		if !plist.Link(v, l, 4, 1, 2) || plist.Link(v, l, 5, 1, 2) || plist.Link(v, l, 4, 1, 17) {
			t.Errorf("%s: Link", what)
		}
		if plist.Unlink(v, l, 4, 1, 2) || plist.Unlink(v, l, -1, 1, 2) {
			t.Errorf("%s: Unlink", what)
		}
		if len(plist.List(v, l, 1, 2)) != 0 || plist.First(v, l, 1) != -1 {
			t.Errorf("%s: looks", what)
		}
	}
}

// TestNoView asks by no view, by one whose run ended where it needed a word, and by one whose run is over.
func TestNoView(t *testing.T) {
	dead(t, "nil", nil)
	dead(t, "a view that nothing made", &view.View{})
	l := made(t, 5)
	var kept *view.View
	keep := func(v *view.View) {
		kept = v
		plist.Link(v, l, 0, 1, 2)
	}
	if need, wrote := view.Run(nil, keep); need != l.Head(1, 2) || len(wrote) != 0 {
		t.Errorf("needs %d, wrote %v", need, wrote)
	}
	dead(t, "one that needed a word", kept)
	if need, _ := view.Run(known(l, plain{}.words(l)), keep); need != -1 {
		t.Errorf("needs %d", need)
	}
	dead(t, "one that is done", kept)
}

// The chapter's example.
func TestExample(t *testing.T) {
	l := made(t, 6)
	does(t, l, make([]int, l.Words()), func(v *view.View) {
		if !plist.Link(v, l, 3, 2, 4) || !plist.Link(v, l, 5, 2, 4) {
			t.Error("Link")
		}
		if got := plist.List(v, l, 2, 4); !slices.Equal(got, []int{5, 3}) {
			t.Errorf("List is %v", got)
		}
		if !plist.Unlink(v, l, 5, 2, 4) {
			t.Error("Unlink")
		}
		if got := plist.List(v, l, 2, 4); !slices.Equal(got, []int{3}) {
			t.Errorf("List is %v", got)
		}
	})
}
