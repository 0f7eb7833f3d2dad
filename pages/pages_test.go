package pages_test

import (
	"math"
	"slices"
	"strconv"
	"strings"
	"testing"

	"assart/api"
	"assart/extent"
	"assart/layout"
	"assart/pages"
	"assart/plist"
	"assart/view"
)

// beyond are numbers that no word, page, or class has; some of them wrap round to small ones when something is added, taken away, or they are taken several times.
var beyond = []int{math.MinInt, math.MinInt + 1, math.MinInt + 2, math.MinInt + 128, math.MinInt32, -1 << 20, -257, -256, -128, -33, -32, -5, -4, -3, -2, -1, 1 << 20, 1 << 31, 1 << 32, 1 << 58, 1 << 59, 1 << 62, math.MaxInt - 128, math.MaxInt - 31, math.MaxInt - 2, math.MaxInt - 1, math.MaxInt}

// blocks and sizes are how many blocks of each class a page has, and how many words each has.
var (
	blocks = []int{32, 16, 8, 4, 2}
	sizes  = []int{1, 2, 4, 8, 16}
)

// made tells the layout of so many pages.
func made(t *testing.T, pages int) layout.Layout {
	t.Helper()
	l, e := layout.Of(api.Config{Workers: 2, CPUs: 2, Pages: pages, Stripes: 3, Tries: 1, Wait: 1, Clock: 9, Private: 2, Cache: 1, Bin: 2, Batch: 2})
	if e != api.OK {
		t.Fatalf("a layout of %d pages: error %d", pages, e)
	}
	return l
}

// page is what a plain page knows by itself: its Kind, how many pages its run has, which of its blocks are taken.
type page struct {
	kind, run int
	taken     [32]bool
	mapped    bool
}

// name is a list's class and number.
type name struct{ c, f int }

// names tells all lists that there are.
func names() []name {
	var l []name
	for c, n := range blocks {
		for f := 1; f <= n; f++ {
			l = append(l, name{c, f})
		}
	}
	return l
}

// plain is pages, and lists of them, without words.
type plain struct {
	pages []page
	lists map[name][]int
}

// fresh tells so many pages of which none was ever used.
func fresh(pages int) plain { return plain{make([]page, pages), map[name][]int{}} }

// of makes plain pages of a text: . of a page that is free and mapped, _ of one that is free and not mapped, H of a run's first page, - of a further one; of a class's page the class, and behind it x for each block that is taken, . for each other one, and * for all that are left, which are taken. Lists have their pages rising.
func of(t *testing.T, text string) plain {
	t.Helper()
	m := fresh(0)
	for p, x := range strings.Fields(text) {
		g := page{mapped: x != "_"}
		switch x[0] {
		case '.', '_':
		case 'H':
			g.kind, g.run = 6, 1
		case '-':
			g.kind = 7
			q := p - 1
			for m.pages[q].kind == 7 {
				q--
			}
			m.pages[q].run++
		default:
			g.kind = int(x[0]-'0') + 1
			rest := strings.HasSuffix(x, "*")
			for i := range blocks[g.kind-1] {
				g.taken[i] = i+1 < len(x) && x[i+1] == 'x' || rest && i+2 >= len(x)
			}
		}
		m.pages = append(m.pages, g)
		if g.mapped != m.pages[p/4*4].mapped || g.kind != 0 && !slices.Contains(g.taken[:], true) && g.kind < 6 || g.kind == 0 && len(x) > 1 {
			t.Fatalf("%s: no page is so at %s", text, x)
		}
	}
	for p := len(m.pages) - 1; p >= 0; p-- {
		m.move(p, func() {})
	}
	return m
}

// String tells plain pages as such a text, and their lists.
func (m plain) String() string {
	var b strings.Builder
	for _, g := range m.pages {
		switch {
		case g.kind == 0 && g.mapped:
			b.WriteString(". ")
		case g.kind == 0 || g.kind > 5:
			b.WriteString(map[int]string{0: "_ ", 6: "H ", 7: "- "}[g.kind])
		default:
			b.WriteByte(byte('0' + g.kind - 1))
			for i := range blocks[g.kind-1] {
				b.WriteString(map[bool]string{true: "x", false: "."}[g.taken[i]])
			}
			b.WriteByte(' ')
		}
	}
	for _, n := range names() {
		if l := m.lists[n]; len(l) > 0 {
			b.WriteString("list " + strconv.Itoa(n.c) + "," + strconv.Itoa(n.f) + ":")
			for _, p := range l {
				b.WriteString(" " + strconv.Itoa(p))
			}
			b.WriteString(" ")
		}
	}
	return strings.TrimSuffix(b.String(), " ")
}

// copied tells the same pages, apart.
func (m plain) copied() plain {
	n := plain{slices.Clone(m.pages), map[name][]int{}}
	for k, l := range m.lists {
		if len(l) > 0 {
			n.lists[k] = slices.Clone(l)
		}
	}
	return n
}

// class tells the class of a page, or -1.
func (m plain) class(p int) int {
	if k := m.pages[p].kind; k >= 1 && k <= 5 {
		return k - 1
	}
	return -1
}

// open tells how many blocks of a page are not taken; none, of a page without a class.
func (m plain) open(p int) int {
	n := 0
	if c := m.class(p); c >= 0 {
		for i := range blocks[c] {
			if !m.pages[p].taken[i] {
				n++
			}
		}
	}
	return n
}

// move does something with a page, which is in no list meanwhile, and behind it the first one of the list that it belongs to.
func (m plain) move(p int, f func()) {
	for k, l := range m.lists {
		if i := slices.Index(l, p); i >= 0 {
			m.lists[k] = slices.Delete(slices.Clone(l), i, i+1)
		}
	}
	f()
	if n := (name{m.class(p), m.open(p)}); n.f > 0 {
		m.lists[n] = slices.Insert(slices.Clone(m.lists[n]), 0, p)
	}
}

// giver tells the page that a block of a class is to be taken of: of the list of the least number, or a free one, mapped ones ahead of others.
func (m plain) giver(c int) int {
	if c < 0 || c >= 5 {
		return -1
	}
	for f := 1; f <= 32; f++ {
		if l := m.lists[name{c, f}]; len(l) > 0 {
			return l[0]
		}
	}
	for _, mapped := range []bool{true, false} {
		for p, g := range m.pages {
			if g.kind == 0 && g.mapped == mapped {
				return p
			}
		}
	}
	return -1
}

// turn lets the pages of a chunk be mapped, or not.
func (m plain) turn(k int, to bool) {
	for p := range m.pages {
		if p/4 == k {
			m.pages[p].mapped = to
		}
	}
}

// grab is Grab: the page, and the block in it.
func (m plain) grab(c int) (int, int, bool) {
	p := m.giver(c)
	if p < 0 {
		return 0, 0, false
	}
	i := 0
	m.move(p, func() {
		m.turn(p/4, true)
		m.pages[p].kind = c + 1
		i = slices.Index(m.pages[p].taken[:], false)
		m.pages[p].taken[i] = true
	})
	return p, i, true
}

// has tells the class of the taken block whose first word is the word w of the page p, and which one it is.
func (m plain) has(p, w int) (int, int, bool) {
	c := m.class(p)
	if c < 0 {
		return 0, 0, false
	}
	for i := range blocks[c] {
		if i*sizes[c] == w && m.pages[p].taken[i] {
			return c, i, true
		}
	}
	return 0, 0, false
}

// back is Return of the word w of the page p.
func (m plain) back(p, w int) bool {
	c, i, ok := m.has(p, w)
	if ok {
		m.move(p, func() {
			m.pages[p].taken[i] = false
			if m.open(p) == blocks[c] {
				m.pages[p].kind = 0
			}
		})
	}
	return ok
}

// free is Free.
func (m plain) free(c int) int {
	n := 0
	for p := range m.pages {
		if m.pages[p].kind == c+1 {
			n += m.open(p)
		}
	}
	return n
}

// take lets a run be taken, if its pages are there and free.
func (m plain) take(p, n int) bool {
	for q := p; q < p+n; q++ {
		if q >= len(m.pages) || m.pages[q].kind != 0 {
			return false
		}
	}
	for q := p; q < p+n; q++ {
		m.turn(q/4, true)
		m.pages[q].kind = 7
	}
	m.pages[p].kind, m.pages[p].run = 6, n
	return true
}

// drop lets a run be free.
func (m plain) drop(p int) {
	for q := range m.pages[p].run {
		m.pages[p+q].kind = 0
	}
	m.pages[p].run = 0
}

// trim lets chunks without used pages be not mapped.
func (m plain) trim() {
	for k := range (len(m.pages) + 3) / 4 {
		used := false
		for p, g := range m.pages {
			used = used || p/4 == k && g.kind != 0
		}
		if !used {
			m.turn(k, false)
		}
	}
}

// words tells the words of a layout that say just that of its pages. All other words are none that a page's may be, so that nothing is told of them by chance.
func (m plain) words(l layout.Layout) []int {
	words := make([]int, l.Words())
	for a := range words {
		if words[a] = 1000 + a; ours(l, a) {
			words[a] = 0
		}
	}
	for p, g := range m.pages {
		if g.mapped {
			words[l.Table(p/4)] = 1
		}
		words[l.Kind(p)], words[l.Count(p)] = g.kind, g.run+m.open(p)
		for i, taken := range g.taken {
			if taken {
				words[l.Bits(p)] += 1 << i
			}
		}
	}
	for n, pages := range m.lists {
		before := l.Head(n.c, n.f)
		for i, p := range pages {
			words[before] = p + 1
			if i > 0 {
				words[l.Prev(p)] = pages[i-1] + 1
			}
			before = l.Next(p)
		}
	}
	return words
}

// ours tells whether the word at a is one of tables, pages, or lists.
func ours(l layout.Layout, a int) bool { return a >= l.Table(0) && a < l.Cache(0, 0) }

// known tells the words of tables, pages and lists alone, as pairs, so that a program that needs another word ends there.
func known(l layout.Layout, words []int) []api.Pair {
	var pairs []api.Pair
	for a, x := range words {
		if ours(l, a) {
			pairs = append(pairs, api.Pair{Addr: a, Val: x})
		}
	}
	return pairs
}

// does does a program over words, and tells all words behind it. It holds what was read against the words of tables, pages and lists.
func does(t *testing.T, l layout.Layout, words []int, prog func(v *view.View)) []int {
	t.Helper()
	out, needed, e := view.Do(words, prog)
	if e != api.OK || len(out) != len(words) {
		t.Fatalf("of %d pages: error %d, %d words", l.Config().Pages, e, len(out))
	}
	for _, x := range needed {
		if !ours(l, x.Addr) {
			t.Errorf("of %d pages: the word %d was read", l.Config().Pages, x.Addr)
		}
	}
	return out
}

// stands holds words against those of plain pages.
func stands(t *testing.T, what string, l layout.Layout, words []int, m plain) {
	t.Helper()
	if want := m.words(l); !slices.Equal(words, want) {
		for a := range want {
			if a < len(words) && words[a] != want[a] {
				t.Errorf("%s, of %d pages: the word %d is %d, want %d", what, l.Config().Pages, a, words[a], want[a])
			}
		}
	}
}

// looks runs a program that needs no words but those of tables, pages and lists, and writes nothing.
func looks(t *testing.T, what string, l layout.Layout, words []int, prog func(v *view.View)) {
	t.Helper()
	if need, wrote := view.Run(known(l, words), prog); need != -1 || len(wrote) != 0 {
		t.Errorf("%s, of %d pages: needs %d, wrote %v", what, l.Config().Pages, need, wrote)
	}
}

// blind runs a program that knows nothing, and holds it against needing and writing nothing.
func blind(t *testing.T, what string, prog func(v *view.View)) {
	t.Helper()
	if need, wrote := view.Run(nil, prog); need != -1 || len(wrote) != 0 {
		t.Errorf("%s: needs %d, wrote %v", what, need, wrote)
	}
}

// grabs holds Grab, and all words behind it, against the plain pages, which go on by it. Where nothing is to be done, it only reads.
func grabs(t *testing.T, l layout.Layout, m plain, c int) {
	t.Helper()
	was := m.words(l)
	p, i, ok := m.grab(c)
	want := 0
	if ok {
		want = l.Addr(p) + i*sizes[c]
	}
	prog := func(v *view.View) {
		if a, got := pages.Grab(v, l, c); a != want || got != ok {
			t.Errorf("of %v: Grab(%d) is %d, %t, want %d, %t", m, c, a, got, want, ok)
		}
	}
	stands(t, "Grab", l, does(t, l, was, prog), m)
	if !ok {
		looks(t, "Grab that is refused", l, was, prog)
	}
}

// gives holds Return of the word w of the page p, and all words behind it, against the plain pages, which go on by it. Done again, it is refused.
func gives(t *testing.T, l layout.Layout, m plain, p, w int) {
	t.Helper()
	was := m.words(l)
	ok := m.back(p, w)
	out := does(t, l, was, func(v *view.View) {
		if got := pages.Return(v, l, l.Addr(p)+w); got != ok {
			t.Errorf("of %v: Return of the word %d of the page %d is %t, want %t", m, w, p, got, ok)
		}
	})
	stands(t, "Return", l, out, m)
	looks(t, "Return again", l, out, func(v *view.View) {
		if pages.Return(v, l, l.Addr(p)+w) {
			t.Errorf("of %v: Return of the word %d of the page %d, again", m, w, p)
		}
	})
}

// told holds Room, Free, and Taken of all words, against the plain pages, and that Return of all that is no taken block is refused: nothing is written by all that.
func told(t *testing.T, l layout.Layout, m plain) {
	t.Helper()
	looks(t, "looks", l, m.words(l), func(v *view.View) {
		for c := -2; c <= 7; c++ {
			free := 0
			if c >= 0 && c < 5 {
				free = m.free(c)
			}
			if n := pages.Free(v, l, c); n != free {
				t.Errorf("of %v: Free(%d) is %d, want %d", m, c, n, free)
			}
			if ok := pages.Room(v, l, c); ok != (free > 0) {
				t.Errorf("of %v: Room(%d) is %t", m, c, ok)
			}
		}
		for p := range m.pages {
			for w := range 32 {
				c, _, ok := m.has(p, w)
				if k, got := pages.Taken(v, l, l.Addr(p)+w); k != c || got != ok {
					t.Errorf("of %v: Taken of the word %d of the page %d is %d, %t, want %d, %t", m, w, p, k, got, c, ok)
				}
				if !ok && pages.Return(v, l, l.Addr(p)+w) {
					t.Errorf("of %v: Return of the word %d of the page %d", m, w, p)
				}
			}
		}
	})
}

// several calls f with all plain pages that calls of these classes lead to, as many pages as there are; up to the first ones of which something is told.
func several(t *testing.T, pages int, classes []int, f func(l layout.Layout, m plain)) {
	t.Helper()
	l := made(t, pages)
	met := map[string]bool{}
	var further func(m plain)
	further = func(m plain) {
		k := key(l, m)
		if met[k] || t.Failed() {
			return
		}
		met[k] = true
		f(l, m.copied())
		for _, c := range classes {
			n := m.copied()
			n.grab(c)
			further(n)
		}
		for p := range m.pages {
			for w := range 32 {
				if _, _, ok := m.has(p, w); ok {
					n := m.copied()
					n.back(p, w)
					further(n)
				}
			}
		}
	}
	further(fresh(pages))
}

// key tells the words of plain pages as a text, of which there is one each.
func key(l layout.Layout, m plain) string {
	var b strings.Builder
	for a, x := range m.words(l) {
		if ours(l, a) {
			b.WriteRune(rune(x))
		}
	}
	return b.String()
}

// all calls f with many plain pages: of one page of three classes, of two pages of two classes, of several of one.
func all(t *testing.T, f func(l layout.Layout, m plain)) {
	t.Helper()
	several(t, 1, []int{2, 3, 4}, f)
	several(t, 2, []int{3, 4}, f)
	several(t, 4, []int{4}, f)
}

// some are pages of all that the chapter names: free, of runs, of several classes; full, with one block, with several; lists of several numbers, with several pages.
func some(t *testing.T, f func(l layout.Layout, m plain)) {
	t.Helper()
	for _, text := range []string{
		"_",
		".",
		"0x",
		"0*",
		"0xx.x",
		"0.*",
		"1.x.*",
		"2xxxxxxxx",
		"H",
		"3x 3x.x 3*",
		"4x. 4.x 4xx .",
		"4xx 4xx 4xx 4xx _ _",
		"4xx 4xx 4xx 4xx 4xx",
		"H - - - - -",
		"H - . 3x . H",
		". H - 3x. H - - - _ _",
		"_ _ _ _ . . .",
		"_ _ _ _ 0* . .",
		"_ _ _ _ 2* H -",
		"0x 1x 2x 3x 4x",
		"0* 1* 2* 3* 4*",
		"0.* 1.* 2.* 3.* 4.* 4.x H",
		"0xx 0.x.* 0.* 0..* 0...* 0x 1..* 1.* 1*",
		"2xx 2xxx 2xxxx 2xxx 2xxxxx 2xxx 2* 2x",
		"3.xx. 3x..x 3xxx 3.xxx 3xx 3x 3.x H 3.*",
	} {
		m := of(t, text)
		f(made(t, len(m.pages)), m)
	}
}

// P11.1

// TestGrab grabs of each class, and of such as are none, from all pages that calls lead to, and from some others.
func TestGrab(t *testing.T) {
	each := func(l layout.Layout, m plain) {
		for c := -1; c <= 6; c++ {
			grabs(t, l, m.copied(), c)
		}
	}
	all(t, each)
	some(t, each)
}

// TestGrabOf looks at what the chapter's words lead to, one by one: the page, and which of its blocks, or -1 where there is none.
func TestGrabOf(t *testing.T) {
	for _, c := range []struct {
		pages      string
		c, p, slot int
	}{
		{"_ _", 0, 0, 0}, // no page of the class
		{"0x .", 1, 1, 0},
		{"0x 0xx", 3, -1, -1},
		{"0x 0xx H 0x", 3, -1, -1},
		{"_ _ _ _ .", 2, 4, 0}, // a mapped page ahead of others
		{"H - - - _ _", 2, 4, 0},
		{"H - - - - .", 2, 5, 0},
		{"H - - - - -", 2, -1, -1},
		{". . . . 2x", 2, 4, 1}, // no page is taken anew
		{". . . . 2*", 2, 0, 0},
		{"_ _ _ _ 2*", 2, 0, 0},
		{"2xx 2xxx 2xxxx", 2, 2, 4}, // the list of the least number
		{"2xxxx 2xxx 2xx", 2, 0, 4},
		{"2xx 2xxxx 2xxx", 2, 1, 4},
		{"2* 2xx 2* 2x", 2, 1, 2},
		{"2.xx 2xx 2xx.x", 2, 2, 2}, // of the same number the first page of the list
		{"2.xx 2xx.", 2, 0, 0},
		{"2x.x 2xx", 2, 0, 1},
		{"0*", 0, -1, -1},
		{"0* .", 0, 1, 0},
		{"0xxxxxxxxxxxxxxxxxxxxxxxxxxxxxxx.", 0, 0, 31},
		{"0.*", 0, 0, 0},
		{"0xxxx.*", 0, 0, 4},
		{"1xxxxxxxxxxxxxxx", 1, 0, 15},
		{"3xxx", 3, 0, 3},
		{"4x", 4, 0, 1},
		{"4.x", 4, 0, 0},
		{"3xxx 4x 2xxxxxxx 1xxxxxxxxxxxxxxx", 0, -1, -1}, // other classes do not matter
		{"3xxx 4x 2xxxxxxx 1xxxxxxxxxxxxxxx 0x", 0, 4, 1},
		{"3xxx 4x 2xxxxxxx 1xxxxxxxxxxxxxxx 0x", 4, 1, 1},
	} {
		m := of(t, c.pages)
		l := made(t, len(m.pages))
		does(t, l, m.words(l), func(v *view.View) {
			want := 0
			if c.p >= 0 {
				want = l.Addr(c.p) + c.slot*sizes[c.c]
			}
			if a, ok := pages.Grab(v, l, c.c); a != want || ok != (c.p >= 0) {
				t.Errorf("of %s: Grab(%d) is %d, %t, want %d", c.pages, c.c, a, ok, want)
			}
		})
		grabs(t, l, m, c.c)
	}
}

// TestGrabWords holds single words behind each Grab of a class with four blocks, and one more.
func TestGrabWords(t *testing.T) {
	l := made(t, 6)
	words := make([]int, l.Words())
	heads := func(p int, at int) {
		t.Helper()
		for f := 1; f <= 4; f++ {
			if want := map[bool]int{true: p + 1}[f == at]; words[l.Head(3, f)] != want {
				t.Errorf("Head(3, %d) is %d, want %d", f, words[l.Head(3, f)], want)
			}
		}
	}
	for i := range 5 {
		p, slot := i/4, i%4
		words = does(t, l, words, func(v *view.View) {
			if a, ok := pages.Grab(v, l, 3); a != l.Addr(p)+8*slot || !ok {
				t.Errorf("Grab(3), the %d-th one, is %d, %t", i, a, ok)
			}
		})
		if words[l.Kind(p)] != 4 || words[l.Bits(p)] != 2<<slot-1 || words[l.Count(p)] != 3-slot {
			t.Errorf("behind Grab(3), the %d-th one: Kind %d, Bits %d, Count %d", i, words[l.Kind(p)], words[l.Bits(p)], words[l.Count(p)])
		}
		if words[l.Next(p)] != 0 || words[l.Prev(p)] != 0 || words[l.Table(0)] != 1 || words[l.Table(1)] != 0 {
			t.Errorf("behind Grab(3), the %d-th one: Next %d, Prev %d", i, words[l.Next(p)], words[l.Prev(p)])
		}
		heads(p, 3-slot)
	}
	if words[l.Kind(0)] != 4 || words[l.Bits(0)] != 15 || words[l.Count(0)] != 0 {
		t.Errorf("a full page: Kind %d, Bits %d, Count %d", words[l.Kind(0)], words[l.Bits(0)], words[l.Count(0)])
	}
}

// TestGrabAll grabs all blocks of each class, of fresh pages, one behind the other, and then two more.
func TestGrabAll(t *testing.T) {
	for c, n := range blocks {
		for _, count := range []int{1, 2, 5} {
			l := made(t, count)
			m := fresh(count)
			for range count*n + 2 {
				grabs(t, l, m, c)
			}
			out := does(t, l, fresh(count).words(l), func(v *view.View) {
				for i := range count * n {
					if a, ok := pages.Grab(v, l, c); a != l.User()+i*sizes[c] || !ok {
						t.Errorf("of %d pages: Grab(%d), the %d-th one, is %d, %t", count, c, i, a, ok)
					}
				}
				if a, ok := pages.Grab(v, l, c); a != 0 || ok || pages.Room(v, l, c) || pages.Free(v, l, c) != 0 {
					t.Errorf("of %d full pages: Grab(%d) is %d, %t", count, c, a, ok)
				}
			})
			stands(t, "Grab of all", l, out, m)
		}
	}
}

// TestGrabBeside grabs of all classes, one behind the other, beside runs that leave few pages.
func TestGrabBeside(t *testing.T) {
	for _, text := range []string{"H - . H - . .", ". H - - - . H - .", ". H . H . H . H .", "H - - - - - - - - -", "_ _ _ _ H - - .", "H - - - - - - ."} {
		m := of(t, text)
		l := made(t, len(m.pages))
		for range 20 {
			for c := range blocks {
				grabs(t, l, m, c)
				told(t, l, m)
			}
		}
	}
}

// TestNoClass grabs, and looks, of classes that are none: nothing is read, and nothing is written, whatever stands in the words.
func TestNoClass(t *testing.T) {
	for _, count := range []int{1, 4, 5, 256} {
		l := made(t, count)
		for _, c := range append([]int{5, 6, 7, 8, 31, 32, 33, 256, 257}, beyond...) {
			blind(t, "a class that is none", func(v *view.View) {
				if a, ok := pages.Grab(v, l, c); a != 0 || ok {
					t.Errorf("of %d pages: Grab(%d) is %d, %t", count, c, a, ok)
				}
				if pages.Room(v, l, c) || pages.Free(v, l, c) != 0 {
					t.Errorf("of %d pages: Room(%d) is %t, Free %d", count, c, pages.Room(v, l, c), pages.Free(v, l, c))
				}
			})
		}
	}
}

// P11.2

// TestReturn returns each word of all pages that calls lead to, and of some others.
func TestReturn(t *testing.T) {
	each := func(l layout.Layout, m plain) {
		told(t, l, m)
		for p := range m.pages {
			for w := range 32 {
				if _, _, ok := m.has(p, w); ok {
					gives(t, l, m.copied(), p, w)
				}
			}
		}
	}
	all(t, each)
	some(t, each)
}

// TestReturnOf looks at what the chapter's words lead to, one by one: the lists of the page's class from the number 1 on, and what Kind the page is of.
func TestReturnOf(t *testing.T) {
	for _, c := range []struct {
		pages      string
		p, w, kind int
		ok         bool
		lists      [][]int
	}{
		{"3*", 0, 0, 4, true, [][]int{{0}}}, // a page that was full
		{"3* 3xxx 3.*", 0, 24, 4, true, [][]int{{0, 1, 2}}},
		{"3xxx 3* 3xx", 1, 8, 4, true, [][]int{{1, 0}, {2}}},
		{"3xxx 3xx 3x", 0, 8, 4, true, [][]int{{}, {0, 1}, {2}}}, // one that was in a list
		{"3xx 3xxx 3xx 3x..", 1, 0, 4, true, [][]int{{}, {1, 0, 2}, {3}}},
		{"3xxx 3xxx 3xxx", 1, 16, 4, true, [][]int{{0, 2}, {1}}},
		{"3x.x 3x 3x", 0, 16, 4, true, [][]int{{}, {}, {0, 1, 2}}},
		{"3xx 3x 3x", 1, 0, 0, true, [][]int{{}, {0}, {2}}}, // the last one
		{"3xx 3...x 3x", 1, 24, 0, true, [][]int{{}, {0}, {2}}},
		{"4.x", 0, 16, 0, true, [][]int{{}, {}}},
		{"4*", 0, 16, 5, true, [][]int{{0}, {}}},
		{"2x", 0, 0, 0, true, [][]int{{}, {}, {}, {}, {}, {}, {}, {}}},
		{"3xx 3x", 1, 8, 4, false, [][]int{{}, {0}, {1}}}, // not taken
		{"3xx 3x", 1, 24, 4, false, [][]int{{}, {0}, {1}}},
		{"3* 3x", 0, 1, 4, false, [][]int{{}, {}, {1}}}, // in the midst of a block
		{"3* 3x", 0, 4, 4, false, [][]int{{}, {}, {1}}},
		{"3* 3x", 0, 15, 4, false, [][]int{{}, {}, {1}}},
		{"3* 3x", 0, 31, 4, false, [][]int{{}, {}, {1}}},
		{". 3x", 0, 0, 0, false, nil}, // a free page
		{"_ _", 0, 0, 0, false, nil},
		{"H - 3x", 0, 0, 6, false, nil}, // a run
		{"H - 3x", 1, 0, 7, false, nil},
	} {
		m := of(t, c.pages)
		l := made(t, len(m.pages))
		class := m.class(c.p)
		out := does(t, l, m.words(l), func(v *view.View) {
			if ok := pages.Return(v, l, l.Addr(c.p)+c.w); ok != c.ok {
				t.Errorf("of %s: Return of the word %d of the page %d is %t", c.pages, c.w, c.p, ok)
			}
			for i, want := range c.lists {
				if got := plist.List(v, l, class, i+1); !slices.Equal(got, want) {
					t.Errorf("of %s: behind Return of the word %d of the page %d the list %d is %v, want %v", c.pages, c.w, c.p, i+1, got, want)
				}
			}
			if k := extent.Kind(v, l, c.p); k != c.kind {
				t.Errorf("of %s: behind Return of the word %d of the page %d Kind is %d", c.pages, c.w, c.p, k)
			}
		})
		m.back(c.p, c.w)
		stands(t, c.pages, l, out, m)
	}
}

// TestReturnWords holds single words behind each Return of a full page, from the second block on.
func TestReturnWords(t *testing.T) {
	l := made(t, 6)
	words := make([]int, l.Words())
	words[l.Table(1)], words[l.Kind(5)], words[l.Bits(5)] = 1, 4, 15
	for i, slot := range []int{1, 3, 0, 2} {
		words = does(t, l, words, func(v *view.View) {
			if !pages.Return(v, l, l.Addr(5)+8*slot) || pages.Return(v, l, l.Addr(5)+8*slot) {
				t.Errorf("Return of the block %d, twice", slot)
			}
		})
		kind, count, bits := 4, i+1, []int{13, 5, 4, 0}[i]
		if i == 3 {
			kind, count = 0, 0
		}
		if words[l.Kind(5)] != kind || words[l.Bits(5)] != bits || words[l.Count(5)] != count {
			t.Errorf("behind Return of the block %d: Kind %d, Bits %d, Count %d", slot, words[l.Kind(5)], words[l.Bits(5)], words[l.Count(5)])
		}
		for f := 1; f <= 4; f++ {
			if want := map[bool]int{true: 6}[f == i+1 && i < 3]; words[l.Head(3, f)] != want {
				t.Errorf("behind Return of the block %d: Head(3, %d) is %d, want %d", slot, f, words[l.Head(3, f)], want)
			}
		}
		if words[l.Next(5)] != 0 || words[l.Prev(5)] != 0 || words[l.Table(1)] != 1 {
			t.Errorf("behind Return of the block %d: Next %d, Prev %d", slot, words[l.Next(5)], words[l.Prev(5)])
		}
	}
}

// TestNoWord returns, and looks, at addresses that are no word of a page: nothing is read, and nothing is written.
func TestNoWord(t *testing.T) {
	for _, count := range []int{1, 3, 4, 5, 8, 255, 256} {
		l := made(t, count)
		far := []int{0, 1, 2, 3, l.Kind(0), l.Bits(0), l.Head(0, 1), l.Live(l.User()), l.User() - 2, l.User() - 1, l.Words(), l.Words() + 1, l.Words() + 31, l.Words() + 32, l.Words() + l.User()}
		for _, a := range append(far, beyond...) {
			blind(t, "an address that is no word of a page", func(v *view.View) {
				if pages.Return(v, l, a) {
					t.Errorf("of %d pages: Return(%d)", count, a)
				}
				if c, ok := pages.Taken(v, l, a); c != 0 || ok {
					t.Errorf("of %d pages: Taken(%d) is %d, %t", count, a, c, ok)
				}
			})
		}
	}
}

// TestReturnAll grabs all blocks of each class, and returns them, in several orders: all pages are free, and in no list, behind that.
func TestReturnAll(t *testing.T) {
	for c, n := range blocks {
		for _, step := range []int{1, 3, 2*n - 1, 2*n + 1} {
			l := made(t, 2)
			m := fresh(2)
			for range 2 * n {
				m.grab(c)
			}
			for i := range 2 * n {
				k := i * step % (2 * n)
				gives(t, l, m, k/n, k%n*sizes[c])
			}
			want := fresh(2)
			want.turn(0, true)
			stands(t, "all returned", l, m.words(l), want)
		}
	}
}

// P11.3

// TestLooks tells Room, Taken and Free of all pages that calls lead to, and of some others.
func TestLooks(t *testing.T) {
	all(t, func(l layout.Layout, m plain) { told(t, l, m) })
	some(t, func(l layout.Layout, m plain) { told(t, l, m) })
}

// TestLooksOf looks at what the chapter's words lead to, one by one.
func TestLooksOf(t *testing.T) {
	for _, c := range []struct {
		pages string
		free  []int
	}{
		{"_", []int{0, 0, 0, 0, 0}},
		{". . . . .", []int{0, 0, 0, 0, 0}},
		{"H - H", []int{0, 0, 0, 0, 0}},
		{"0* 1* 2* 3* 4*", []int{0, 0, 0, 0, 0}},
		{"0x 1x 2x 3x 4x", []int{31, 15, 7, 3, 1}},
		{"0.* 1.* 2.* 3.* 4.*", []int{1, 1, 1, 1, 1}},
		{"0x 0x 0*", []int{62, 0, 0, 0, 0}},
		{"4x 4.x 4* 4x 4.x", []int{0, 0, 0, 0, 4}},
		{"2x.x 3* 2xxx. H 2* . 2x", []int{0, 0, 18, 0, 0}},
		{"1.*", []int{0, 1, 0, 0, 0}},
	} {
		m := of(t, c.pages)
		l := made(t, len(m.pages))
		looks(t, c.pages, l, m.words(l), func(v *view.View) {
			for k, want := range c.free {
				if n := pages.Free(v, l, k); n != want || pages.Room(v, l, k) != (want > 0) {
					t.Errorf("of %s: Free(%d) is %d, Room %t, want %d", c.pages, k, n, pages.Room(v, l, k), want)
				}
			}
		})
	}
	m := of(t, "4x 4.x 0.x H 3..x")
	l := made(t, len(m.pages))
	looks(t, "Taken", l, m.words(l), func(v *view.View) {
		for _, c := range []struct {
			p, w, c int
			ok      bool
		}{
			{0, 0, 4, true}, {0, 1, 0, false}, {0, 16, 0, false}, {1, 0, 0, false}, {1, 16, 4, true}, {1, 17, 0, false}, {2, 0, 0, false}, {2, 1, 0, true}, {2, 2, 0, false}, {3, 0, 0, false}, {4, 2, 0, false}, {4, 16, 3, true}, {4, 20, 0, false},
		} {
			if k, ok := pages.Taken(v, l, l.Addr(c.p)+c.w); k != c.c || ok != c.ok {
				t.Errorf("Taken of the word %d of the page %d is %d, %t", c.w, c.p, k, ok)
			}
		}
	})
}

// TestMany has as many pages as there may be, of one class each.
func TestMany(t *testing.T) {
	l := made(t, api.MaxPages)
	for c, n := range blocks {
		m := fresh(api.MaxPages)
		for p := range m.pages {
			m.turn(p/4, true)
			m.move(p, func() {
				m.pages[p].kind = c + 1
				for i := range n {
					m.pages[p].taken[i] = i < 1+p%n
				}
			})
		}
		told(t, l, m)
		grabs(t, l, m, c)
		gives(t, l, m, 255, 0)
		for p := range m.pages {
			for i := range n {
				m.pages[p].taken[i] = true
			}
		}
		m.lists = map[name][]int{}
		told(t, l, m)
		grabs(t, l, m, c)
	}
}

// P11.4

// TestOnce grabs and returns of all classes, and keeps which words blocks that are taken have: no word is in two of them, and a block is in one page.
func TestOnce(t *testing.T) {
	for seed := range 40 {
		next := made64(seed)
		l := made(t, 1+next(9))
		words := make([]int, l.Words())
		owner := map[int]int{}
		var have []int
		for range 60 + next(100) {
			c, one := next(5), next(3)
			if one == 0 && len(have) > 0 {
				i := next(len(have))
				a := have[i]
				words = does(t, l, words, func(v *view.View) {
					if !pages.Return(v, l, a) {
						t.Errorf("Return(%d)", a)
					}
				})
				have = slices.Delete(have, i, i+1)
				for w, of := range owner {
					if of == a {
						delete(owner, w)
					}
				}
				continue
			}
			var a int
			var ok bool
			words = does(t, l, words, func(v *view.View) {
				a, ok = pages.Grab(v, l, c)
				if k, taken := pages.Taken(v, l, a); taken != ok || ok && k != c {
					t.Errorf("Grab(%d) is %d, Taken %d, %t", c, a, k, taken)
				}
			})
			if ok {
				owns(t, l, owner, a, sizes[c])
				have = append(have, a)
			}
		}
	}
}

// owns lets a block own its words, of which none is any other one's, and all are of one page.
func owns(t *testing.T, l layout.Layout, owner map[int]int, a, size int) {
	t.Helper()
	first, _, ok := l.Place(a)
	last, _, there := l.Place(a + size - 1)
	if !ok || !there || first != last || a%size != 0 {
		t.Errorf("a block of %d words is at %d", size, a)
	}
	for w := a; w < a+size; w++ {
		if of, taken := owner[w]; taken {
			t.Errorf("the word %d is of the block %d, and of the block %d", w, of, a)
		}
		owner[w] = a
	}
}

// made64 tells a function that makes numbers below n, the same ones of the same seed.
func made64(seed int) func(n int) int {
	x := uint64(seed)*2862933555777941757 + 3037000493
	return func(n int) int {
		x ^= x << 13
		x ^= x >> 7
		x ^= x << 17
		return int(x >> 20 % uint64(n))
	}
}

// TestNotTaken sees that what is grabbed was not taken just ahead of that, and is behind it; and that nothing else is otherwise.
func TestNotTaken(t *testing.T) {
	each := func(l layout.Layout, m plain) {
		for c := range blocks {
			was := takens(t, l, m.words(l))
			var a int
			var ok bool
			out := does(t, l, m.words(l), func(v *view.View) { a, ok = pages.Grab(v, l, c) })
			if _, had := was[a]; ok && had {
				t.Errorf("of %v: Grab(%d) is %d, which was taken", m, c, a)
			}
			if ok {
				was[a] = c
			}
			same(t, takens(t, l, out), was)
		}
	}
	several(t, 2, []int{3, 4}, each)
	some(t, each)
}

// takens tells all blocks that are taken, by their addresses, with their classes.
func takens(t *testing.T, l layout.Layout, words []int) map[int]int {
	t.Helper()
	taken := map[int]int{}
	looks(t, "Taken", l, words, func(v *view.View) {
		for a := range l.Words() {
			if c, ok := pages.Taken(v, l, a); ok {
				taken[a] = c
			}
		}
	})
	return taken
}

// same holds blocks against others.
func same(t *testing.T, got, want map[int]int) {
	t.Helper()
	if len(got) != len(want) {
		t.Errorf("%v are taken, want %v", got, want)
	}
	for a, c := range want {
		if k, ok := got[a]; !ok || k != c {
			t.Errorf("%v are taken, want %v", got, want)
		}
	}
}

// P11.5

// TestFullest holds the page that a block is grabbed of against the Kind and Bits words of all pages.
func TestFullest(t *testing.T) {
	each := func(l layout.Layout, m plain) {
		for c := range blocks {
			fullest(t, l, m.words(l), c)
		}
	}
	all(t, each)
	some(t, each)
}

// fullest grabs once: where a page of the class has a block that is not taken, it is of one with the fewest, and as many pages are used as ahead of that.
func fullest(t *testing.T, l layout.Layout, words []int, c int) {
	t.Helper()
	counts := map[int]int{}
	fewest := 33
	for p := range l.Config().Pages {
		if words[l.Kind(p)] == c+1 {
			for i := range blocks[c] {
				counts[p] += 1 - words[l.Bits(p)]>>i&1
			}
			if counts[p] > 0 {
				fewest = min(fewest, counts[p])
			}
		}
	}
	does(t, l, words, func(v *view.View) {
		used := extent.Used(v, l)
		a, ok := pages.Grab(v, l, c)
		p, _, _ := l.Place(a)
		if fewest < 33 && (!ok || counts[p] != fewest || extent.Used(v, l) != used) {
			t.Errorf("of pages with %v: Grab(%d) is of the page %d, %t, and %d are used, %d ahead", counts, c, p, ok, extent.Used(v, l), used)
		}
		if fewest == 33 && ok && extent.Used(v, l) != used+1 {
			t.Errorf("of pages with %v: Grab(%d) is of the page %d, and %d are used, %d ahead", counts, c, p, extent.Used(v, l), used)
		}
	})
}

// P11.6

// TestBack grabs, and returns: all words are as they were, but for what is mapped. A second Return is refused.
func TestBack(t *testing.T) {
	each := func(l layout.Layout, m plain) {
		for c := range blocks {
			words := m.words(l)
			var a int
			var ok bool
			out := does(t, l, words, func(v *view.View) {
				used, free := extent.Used(v, l), pages.Free(v, l, c)
				if a, ok = pages.Grab(v, l, c); ok && (!pages.Return(v, l, a) || pages.Return(v, l, a)) {
					t.Errorf("of %v: Return of what Grab(%d) told, twice", m, c)
				}
				if extent.Used(v, l) != used || pages.Free(v, l, c) != free {
					t.Errorf("of %v: behind Grab(%d) and Return %d pages are used, %d ahead", m, c, extent.Used(v, l), used)
				}
			})
			if p, _, _ := l.Place(a); ok {
				words[l.Table(p/4)] = 1
			}
			if !slices.Equal(out, words) {
				t.Errorf("of %v: behind Grab(%d) and Return the words are not as they were", m, c)
			}
		}
	}
	all(t, each)
	some(t, each)
}

// TestBackAll grabs all that there is of several classes, and returns it, the last one first: blocks and pages are as they were.
func TestBackAll(t *testing.T) {
	some(t, func(l layout.Layout, m plain) {
		was := takens(t, l, m.words(l))
		out := does(t, l, m.words(l), func(v *view.View) {
			used := extent.Used(v, l)
			var have []int
			for c := range blocks {
				for a, ok := pages.Grab(v, l, c); ok && len(have) < l.Words(); a, ok = pages.Grab(v, l, c) {
					have = append(have, a)
				}
			}
			for _, a := range slices.Backward(have) {
				if !pages.Return(v, l, a) {
					t.Errorf("of %v: Return(%d)", m, a)
				}
			}
			if extent.Used(v, l) != used {
				t.Errorf("of %v: %d pages are used, %d ahead", m, extent.Used(v, l), used)
			}
		})
		same(t, takens(t, l, out), was)
		for p := range m.pages {
			if out[l.Kind(p)] != m.pages[p].kind {
				t.Errorf("of %v: Kind of the page %d is %d", m, p, out[l.Kind(p)])
			}
		}
	})
}

// What calls in a row lead to

// TestRows makes many calls, one behind the other, in programs of several, beside runs that are taken and dropped, and trims. All is given back at last.
func TestRows(t *testing.T) {
	for seed := range 60 {
		next := made64(seed)
		l := made(t, 1+next(14))
		m := fresh(l.Config().Pages)
		words := m.words(l)
		first := slices.Clone(words)
		busy := 1 + next(5)
		for range 25 {
			calls := make([]func(v *view.View), 6)
			for i := range calls {
				calls[i] = step(t, l, m, busy, next)
			}
			words = does(t, l, words, func(v *view.View) {
				for _, call := range calls {
					call(v)
				}
			})
			stands(t, "a row of calls", l, words, m)
			if told(t, l, m); t.Failed() {
				t.Fatalf("of %v", m)
			}
		}
		words = does(t, l, words, func(v *view.View) {
			for a := l.User(); a < l.Words(); a++ {
				pages.Return(v, l, a)
			}
			for p := range m.pages {
				if extent.Kind(v, l, p) == extent.Whole {
					extent.Drop(v, l, p)
				}
			}
			extent.Trim(v, l)
		})
		if !slices.Equal(words, first) {
			t.Errorf("of %d pages: the words are not as they were at first", len(m.pages))
		}
	}
}

// step makes one call of the plain pages, and tells a function that makes it by a view, and holds it against that. As many blocks are grabbed for one that is returned as busy says.
func step(t *testing.T, l layout.Layout, m plain, busy int, next func(n int) int) func(v *view.View) {
	t.Helper()
	p, w, c := next(len(m.pages)), next(32), next(7)-1
	switch k := next(4 + 2*busy); {
	case k == 0:
		m.trim()
		return func(v *view.View) { extent.Trim(v, l) }
	case k == 1 && m.pages[p].kind == 6:
		m.drop(p)
		return func(v *view.View) { extent.Drop(v, l, p) }
	case k == 1:
		n := 1 + next(3)
		want := m.take(p, n)
		return func(v *view.View) {
			if extent.Take(v, l, p, n, extent.Whole) != want {
				t.Errorf("Take(%d, %d) is not %t", p, n, want)
			}
		}
	case k < 5:
		// A word that is a block's first one, if the page has a class.
		if c := m.class(p); c >= 0 {
			w -= w % sizes[c]
		}
		want := m.back(p, w)
		return func(v *view.View) {
			if pages.Return(v, l, l.Addr(p)+w) != want {
				t.Errorf("Return of the word %d of the page %d is not %t", w, p, want)
			}
		}
	}
	p, i, ok := m.grab(c)
	return func(v *view.View) {
		a, got := pages.Grab(v, l, c)
		if got != ok || ok && a != l.Addr(p)+i*sizes[c] || !ok && a != 0 {
			t.Errorf("Grab(%d) is %d, %t, want the block %d of the page %d, %t", c, a, got, i, p, ok)
		}
	}
}

// What no calls lead to

// TestNoLayout asks of the zero layout, which has no pages.
func TestNoLayout(t *testing.T) {
	var l layout.Layout
	for _, x := range append([]int{0, 1, 2, 3, 4, 5, 6, 32}, beyond...) {
		blind(t, "the zero layout", func(v *view.View) {
			a, ok := pages.Grab(v, l, x)
			c, taken := pages.Taken(v, l, x)
			if a != 0 || ok || c != 0 || taken || pages.Return(v, l, x) || pages.Room(v, l, x) || pages.Free(v, l, x) != 0 {
				t.Errorf("%d of the zero layout", x)
			}
		})
	}
}

// TestEnds has words that no calls lead to: each call ends, needs and writes no words but those of tables, pages and lists, and tells addresses of the pages alone.
func TestEnds(t *testing.T) {
	l := made(t, 3)
	odd := []int{math.MinInt, -1, 0, 1, 2, 3, 4, 5, 6, 7, 15, 1 << 31, 1<<32 - 1, math.MaxInt}
	for _, kind := range odd {
		for _, count := range odd {
			for _, bits := range odd {
				for _, next := range []int{math.MinInt, 0, 1, 2, 4, math.MaxInt} {
					words := make([]int, l.Words())
					for p := range 3 {
						words[l.Kind(p)], words[l.Count(p)], words[l.Bits(p)] = kind, count, bits
						words[l.Next(p)], words[l.Prev(p)] = next, next
					}
					words[l.Kind(2)], words[l.Bits(2)] = bits, count
					words[l.Head(3, 2)], words[l.Head(4, 1)], words[l.Head(0, 31)] = next, count, 2
					if ends(t, l, words); t.Failed() {
						t.Fatalf("of Kind %d, Count %d, Bits %d, Next %d", kind, count, bits, next)
					}
				}
			}
		}
	}
}

// ends makes all calls.
func ends(t *testing.T, l layout.Layout, words []int) {
	t.Helper()
	need, wrote := view.Run(known(l, words), func(v *view.View) {
		for c := range blocks {
			for range 3 {
				a, ok := pages.Grab(v, l, c)
				if p, _, there := l.Place(a); ok != there || ok && a+sizes[c] > l.Addr(p)+32 {
					t.Errorf("Grab(%d) is %d, %t", c, a, ok)
				}
			}
			pages.Room(v, l, c)
			if n := pages.Free(v, l, c); n < 0 || n > 3*blocks[c] {
				t.Errorf("Free(%d) is %d", c, n)
			}
		}
		for a := l.User(); a < l.Words(); a++ {
			if c, ok := pages.Taken(v, l, a); c < 0 || c > 4 || pages.Return(v, l, a) != ok {
				t.Errorf("Taken(%d) is %d, %t", a, c, ok)
			}
			if pages.Return(v, l, a) {
				t.Errorf("Return(%d) again", a)
			}
		}
	})
	if need != -1 {
		t.Errorf("needs %d", need)
	}
	for _, x := range wrote {
		if !ours(l, x.Addr) {
			t.Errorf("wrote %d at %d", x.Val, x.Addr)
		}
	}
}

// dead holds a view that reads 0 of all, and writes nothing, against what is told by it: all pages are free, and stay so.
func dead(t *testing.T, what string, v *view.View) {
	t.Helper()
	l := made(t, 5)
	for range 2 {
		if a, ok := pages.Grab(v, l, 3); a != l.User() || !ok {
			t.Errorf("%s: Grab is %d, %t", what, a, ok)
		}
		if a, ok := pages.Grab(v, l, 5); a != 0 || ok {
			t.Errorf("%s: Grab of no class is %d, %t", what, a, ok)
		}
		if c, ok := pages.Taken(v, l, l.User()); c != 0 || ok || pages.Return(v, l, l.User()) || pages.Return(v, l, -1) {
			t.Errorf("%s: Taken is %d, %t, or Return", what, c, ok)
		}
		if pages.Room(v, l, 3) || pages.Free(v, l, 3) != 0 {
			t.Errorf("%s: looks", what)
		}
	}
}

// TestNoView asks by no view, by one whose run ended where it needed a word, and by one whose run is over.
func TestNoView(t *testing.T) {
	dead(t, "nil", nil)
	dead(t, "a view that nothing made", &view.View{})
	l := made(t, 5)
	words := fresh(5).words(l)
	var kept *view.View
	keep := func(v *view.View) {
		kept = v
		pages.Grab(v, l, 1)
	}
	if need, wrote := view.Run(nil, keep); need != l.Head(1, 1) || len(wrote) != 0 {
		t.Errorf("needs %d, wrote %v", need, wrote)
	}
	dead(t, "one that needed a word", kept)
	if need, _ := view.Run(known(l, words), keep); need != -1 {
		t.Errorf("needs %d", need)
	}
	dead(t, "one that is done", kept)
}

// TestAgain runs a program as far as what is known goes, one word more each time: wherever a run ends, it ends for the word that it needs, and the words behind all are those of one run.
func TestAgain(t *testing.T) {
	some(t, func(l layout.Layout, m plain) {
		words := m.words(l)
		for c := range blocks {
			prog := func(v *view.View) {
				a, ok := pages.Grab(v, l, c)
				b, _ := pages.Grab(v, l, c)
				if ok && (!pages.Return(v, l, a) || b != 0 && !pages.Return(v, l, b)) {
					t.Errorf("of %v: Return of %d and %d", m, a, b)
				}
				pages.Grab(v, l, c)
			}
			_, want := view.Run(known(l, words), prog)
			var have []api.Pair
			for {
				need, wrote := view.Run(have, prog)
				if need < 0 {
					if !slices.Equal(wrote, want) {
						t.Errorf("of %v: wrote %v, want %v", m, wrote, want)
					}
					break
				}
				if len(wrote) != 0 || !ours(l, need) || slices.ContainsFunc(have, func(x api.Pair) bool { return x.Addr == need }) {
					t.Fatalf("of %v: needs %d, wrote %v", m, need, wrote)
				}
				have = append(have, api.Pair{Addr: need, Val: words[need]})
			}
		}
	})
}

// The chapter's example.
func TestExample(t *testing.T) {
	l := made(t, 4)
	does(t, l, make([]int, l.Words()), func(v *view.View) {
		for _, want := range []int{0, 16, 32} {
			if a, ok := pages.Grab(v, l, 4); a != l.User()+want || !ok {
				t.Errorf("Grab(4) is %d, %t, want %d", a, ok, l.User()+want)
			}
		}
		if n := extent.Used(v, l); n != 2 {
			t.Errorf("%d pages are used", n)
		}
	})
}
