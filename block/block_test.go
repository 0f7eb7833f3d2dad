package block_test

import (
	"math"
	"slices"
	"strconv"
	"strings"
	"testing"

	"assart/api"
	"assart/block"
	"assart/front"
	"assart/layout"
	"assart/pages"
	"assart/purse"
	"assart/view"
)

// beyond are numbers that no word, and no CPU, has; some of them wrap round to small ones when something is added, or they are taken several times.
var beyond = []int{math.MinInt, math.MinInt + 1, math.MinInt + 128, math.MinInt32, -1 << 20, -257, -128, -33, -32, -5, -4, -3, -2, -1, 1 << 20, 1 << 31, 1 << 32, 1<<32 + 1, 1 << 58, 1 << 59, 1 << 62, math.MaxInt - 128, math.MaxInt - 31, math.MaxInt - 1, math.MaxInt}

// noCPU are numbers that none of two CPUs has.
var noCPU = append([]int{2, 3, 4, 8}, beyond...)

// aligns are all numbers that a block may be asked for at a multiple of.
var aligns = []int{1, 2, 4, 8, 16, 32, 64, 128}

// sizes are how many words each class's blocks have.
var sizes = []int{1, 2, 4, 8, 16}

// made tells the layout of a configuration, of which what does not matter here may be left out.
func made(t *testing.T, c api.Config) layout.Layout {
	t.Helper()
	c.Workers, c.Stripes, c.Clock = 2, 3, 9
	l, e := layout.Of(c)
	if e != api.OK {
		t.Fatalf("a layout of %v: error %d", c, e)
	}
	return l
}

// two tells the layout of so many pages, and two CPUs, with room for some blocks everywhere.
func two(t *testing.T, pages int) layout.Layout {
	t.Helper()
	return made(t, api.Config{CPUs: 2, Pages: pages, Private: 2, Cache: 2, Bin: 2, Batch: 2})
}

// fresh tells the words of a layout of which nothing was ever taken. Those that are not this layer's business are none that may be read as something else.
func fresh(l layout.Layout) []int {
	words := make([]int, l.Words())
	for a := range words {
		if !ours(l, a) {
			words[a] = 70000 + a
		}
	}
	return words
}

// ours tells whether the word at a is one of tables, pages, lists, stacks, or bins.
func ours(l layout.Layout, a int) bool { return a >= l.Table(0) && a < l.Live(l.User()) }

// known tells our words alone, as pairs, so that a program that needs another word ends there.
func known(l layout.Layout, words []int) []api.Pair {
	var pairs []api.Pair
	for a, x := range words {
		if ours(l, a) {
			pairs = append(pairs, api.Pair{Addr: a, Val: x})
		}
	}
	return pairs
}

// does does a program that needs and writes no words but ours, and tells all words behind it.
func does(t *testing.T, l layout.Layout, words []int, prog func(v *view.View)) []int {
	t.Helper()
	need, wrote := view.Run(known(l, words), prog)
	if need != -1 {
		t.Errorf("of %v: needs %d", l.Config(), need)
	}
	out := slices.Clone(words)
	for _, x := range wrote {
		if !ours(l, x.Addr) {
			t.Errorf("of %v: the word %d was written", l.Config(), x.Addr)
			continue
		}
		out[x.Addr] = x.Val
	}
	return out
}

// looks does a program that writes nothing besides.
func looks(t *testing.T, what string, l layout.Layout, words []int, prog func(v *view.View)) {
	t.Helper()
	if need, wrote := view.Run(known(l, words), prog); need != -1 || len(wrote) != 0 {
		t.Errorf("%s, of %v: needs %d, wrote %v", what, l.Config(), need, wrote)
	}
}

// blind does a program that knows nothing, and holds it against needing and writing nothing.
func blind(t *testing.T, what string, prog func(v *view.View)) {
	t.Helper()
	if need, wrote := view.Run(nil, prog); need != -1 || len(wrote) != 0 {
		t.Errorf("%s: needs %d, wrote %v", what, need, wrote)
	}
}

// stands holds words against others.
func stands(t *testing.T, what string, l layout.Layout, words, want []int) {
	t.Helper()
	if len(words) != len(want) {
		t.Fatalf("%s, of %v: %d words", what, l.Config(), len(words))
	}
	for a := range want {
		if words[a] != want[a] {
			t.Errorf("%s, of %v: the word %d is %d, want %d", what, l.Config(), a, words[a], want[a])
		}
	}
}

// same holds a purse against another one.
func same(t *testing.T, what string, p, want purse.Purse) {
	t.Helper()
	for c := range sizes {
		if !slices.Equal(p.List(c), want.List(c)) {
			t.Errorf("%s: the purse has %v of class %d, want %v", what, p.List(c), c, want.List(c))
		}
	}
}

// held tells a purse that has these blocks of a class.
func held(c int, list ...int) purse.Purse {
	var p purse.Purse
	for _, a := range list {
		p, _ = p.Push(c, a, len(list))
	}
	return p
}

// some tells a purse that has numbers of each class, which are no blocks.
func some() purse.Purse {
	var p purse.Purse
	for c := range sizes {
		for i := range c % 3 {
			p, _ = p.Push(c, 500+10*c+i, 8)
		}
	}
	return p
}

// fit reckons plainly of which class a block is, or else how many pages it has and of how many the first one is a multiple, and how many words.
func fit(n, align int) (c, count, step, words int) {
	for c, size := range sizes {
		if size >= n && size >= align {
			return c, 0, 0, size
		}
	}
	for count = 1; 32*count < n; {
		count++
	}
	for step = 1; 32*step < align; {
		step++
	}
	return -1, count, step, 32 * count
}

// vacant tells whether words say that a page is there and free, and mapped, if that is asked.
func vacant(l layout.Layout, words []int, p int, mapped bool) bool {
	return p < l.Config().Pages && words[l.Kind(p)] == 0 && (!mapped || words[l.Table(p/4)] == 1)
}

// seek tells the first page of the run that is to be taken, or -1: each page is asked of.
func seek(l layout.Layout, words []int, n, step int) int {
	for _, mapped := range []bool{true, false} {
		for p := 0; p+n <= l.Config().Pages; p += step {
			q := p
			for q < p+n && vacant(l, words, q, mapped) {
				q++
			}
			if q == p+n {
				return p
			}
		}
	}
	return -1
}

// laid tells the words with a run of n pages from p on.
func laid(l layout.Layout, words []int, p, n int) []int {
	words = slices.Clone(words)
	for q := p; q < p+n; q++ {
		words[l.Table(q/4)], words[l.Kind(q)], words[l.Count(q)], words[l.Bits(q)] = 1, 7, 0, 0
	}
	words[l.Kind(p)], words[l.Count(p)] = 6, n
	return words
}

// cut tells the words without the run that begins with p: it goes as far as there are further pages of it.
func cut(l layout.Layout, words []int, p int) []int {
	words = slices.Clone(words)
	for q := p; q == p || q < l.Config().Pages && words[l.Kind(q)] == 7; q++ {
		words[l.Kind(q)], words[l.Count(q)], words[l.Bits(q)] = 0, 0, 0
	}
	return words
}

// owner is the block that has a word: its address, how many words it has (0, if none has the word), and its class, or -1.
type owner struct{ addr, words, class int }

// owners tells of each user word what block has it, as Kind and Bits words say: a run goes as far as there are further pages of it.
func owners(l layout.Layout, words []int) map[int]owner {
	all := map[int]owner{}
	add := func(o owner) {
		for i := range o.words {
			all[o.addr+i] = o
		}
	}
	for p := range l.Config().Pages {
		switch k := words[l.Kind(p)]; {
		case k == 6:
			n := 1
			for p+n < l.Config().Pages && words[l.Kind(p+n)] == 7 {
				n++
			}
			add(owner{l.Addr(p), 32 * n, -1})
		case k >= 1 && k <= 5:
			for i := range 32 / sizes[k-1] {
				if words[l.Bits(p)]>>i&1 == 1 {
					add(owner{l.Addr(p) + i*sizes[k-1], sizes[k-1], k - 1})
				}
			}
		}
	}
	return all
}

// everywhere calls f with each word's address, and with such as no word has.
func everywhere(l layout.Layout, f func(a int)) {
	for a := range l.Words() + 40 {
		f(a)
	}
	for _, a := range beyond {
		f(a)
		f(a + l.User())
	}
}

// finds holds Find of all words, and of such as are none, against a plain look: nothing is written by that.
func finds(t *testing.T, l layout.Layout, words []int) {
	t.Helper()
	all := owners(l, words)
	looks(t, "Find", l, words, func(v *view.View) {
		everywhere(l, func(a int) {
			o := all[a]
			b, n, ok := block.Find(v, l, a)
			if b != o.addr || n != o.words || ok != (o.words > 0) {
				t.Errorf("of %v: Find(%d) is %d, %d, %t, want %d, %d", l.Config(), a, b, n, ok, o.addr, o.words)
			}
		})
	})
}

// alloc is what Alloc is to tell of a size and an alignment that may be, and the words behind it.
func alloc(t *testing.T, l layout.Layout, words []int, cpu int, p purse.Purse, n, align int) (a int, q purse.Purse, ok bool, out []int) {
	t.Helper()
	c, count, step, _ := fit(n, align)
	if c >= 0 {
		out = does(t, l, words, func(v *view.View) { a, q, ok = front.Take(v, l, cpu, p, c) })
		return a, q, ok, out
	}
	first := seek(l, words, count, step)
	if first < 0 {
		return 0, p, false, words
	}
	return l.User() + 32*first, p, true, laid(l, words, first, count)
}

// allocs holds Alloc, and all words behind it, against that, and tells what it told.
func allocs(t *testing.T, l layout.Layout, words []int, cpu int, p purse.Purse, n, align int) (int, purse.Purse, []int) {
	t.Helper()
	want, left, ok, behind := alloc(t, l, words, cpu, p, n, align)
	_, _, _, size := fit(n, align)
	e := api.OK
	if !ok {
		size, e = 0, api.ErrMemory
	}
	prog := func(v *view.View) {
		a, m, q, err := block.Alloc(v, l, cpu, p, n, align)
		if a != want || m != size || err != e {
			t.Errorf("of %v: Alloc(%d, %d) on CPU %d is %d, %d, %d, want %d, %d, %d", l.Config(), n, align, cpu, a, m, err, want, size, e)
		}
		same(t, "what Alloc told", q, left)
	}
	out := does(t, l, words, prog)
	stands(t, "Alloc", l, out, behind)
	if !ok {
		looks(t, "Alloc that is refused", l, words, prog)
	}
	return want, left, out
}

// frees holds Free, and all words behind it, against a plain look, and tells what it told.
func frees(t *testing.T, l layout.Layout, words []int, cpu int, p purse.Purse, a int) (purse.Purse, []int) {
	t.Helper()
	o := owners(l, words)[a]
	ok := o.words > 0 && o.addr == a
	left, behind := p, words
	switch {
	case ok && o.class >= 0:
		behind = does(t, l, words, func(v *view.View) { left = front.Give(v, l, cpu, p, o.class, a) })
	case ok:
		behind = cut(l, words, (a-l.User())/32)
	}
	prog := func(v *view.View) {
		q, got := block.Free(v, l, cpu, p, a)
		if got != ok {
			t.Errorf("of %v: Free(%d) on CPU %d is %t, want %t", l.Config(), a, cpu, got, ok)
		}
		same(t, "what Free told", q, left)
	}
	out := does(t, l, words, prog)
	stands(t, "Free", l, out, behind)
	if !ok {
		looks(t, "Free that is refused", l, words, prog)
	}
	return left, out
}

// grab tells n blocks of a class that are taken of pages, and the words behind that.
func grab(t *testing.T, l layout.Layout, words []int, c, n int) ([]int, []int) {
	t.Helper()
	var list []int
	out := does(t, l, words, func(v *view.View) {
		for range n {
			a, ok := pages.Grab(v, l, c)
			if !ok {
				t.Errorf("of %v: no block of class %d", l.Config(), c)
			}
			list = append(list, a)
		}
	})
	return list, out
}

// back tells the words behind blocks that were given to their pages.
func back(t *testing.T, l layout.Layout, words []int, list ...int) []int {
	t.Helper()
	return does(t, l, words, func(v *view.View) {
		for _, a := range list {
			if !pages.Return(v, l, a) {
				t.Errorf("of %v: Return(%d)", l.Config(), a)
			}
		}
	})
}

// kept tells the words with these blocks in the stack, or the bin, at base.
func kept(words []int, base int, list ...int) []int {
	words = slices.Clone(words)
	words[base] = len(list)
	copy(words[base+1:], list)
	return words
}

// of tells the words of pages that a text tells of, a letter each: . of a page that is free and mapped, _ of one that is free and not mapped, H of a run's first page, - of a further one, x of one with blocks of class 3 of which each second one is taken, X of one of class 4 of which both are.
func of(t *testing.T, text string) (layout.Layout, []int) {
	t.Helper()
	l := two(t, len(text))
	words := fresh(l)
	for p := range len(text) {
		if text[p] != '_' {
			words[l.Table(p/4)] = 1
		}
	}
	for p := range len(text) {
		switch text[p] {
		case '_':
			if words[l.Table(p/4)] == 1 {
				t.Fatalf("%s: the chunk of the page %d is mapped", text, p)
			}
		case 'H':
			n := 1
			for p+n < len(text) && text[p+n] == '-' {
				n++
			}
			words = laid(l, words, p, n)
		case 'x':
			words[l.Kind(p)], words[l.Count(p)], words[l.Bits(p)] = 4, 2, 10
			if head := words[l.Head(3, 2)]; head > 0 {
				words[l.Next(p)], words[l.Prev(head-1)] = head, p+1
			}
			words[l.Head(3, 2)] = p + 1
		case 'X':
			words[l.Kind(p)], words[l.Bits(p)] = 5, 3
		}
	}
	return l, words
}

// texts calls f with texts of pages of all kinds: each page free, with blocks, or of a run, each chunk without used pages mapped or not.
func texts(most int, f func(text string)) {
	var further func(text string, left int)
	further = func(text string, left int) {
		if left == 0 {
			chunks(text, f)
			return
		}
		further(text+".", left-1)
		further(text+"x", left-1)
		for n := range left {
			further(text+"H"+strings.Repeat("-", n), left-n-1)
		}
	}
	for pages := 1; pages <= most; pages++ {
		further("", pages)
	}
}

// chunks calls f with that text, and with each set of chunks that have no used pages being not mapped.
func chunks(text string, f func(text string)) {
	var open []int
	for p := 0; p < len(text); p += 4 {
		if strings.Trim(text[p:min(p+4, len(text))], ".") == "" {
			open = append(open, p)
		}
	}
	for set := range 1 << len(open) {
		was := []byte(text)
		for i, p := range open {
			for q := p; q < min(p+4, len(text)) && set>>i&1 == 1; q++ {
				was[q] = '_'
			}
		}
		f(string(was))
	}
}

// P15.1

// TestAllocError asks for sizes and alignments for which Fit has an error, on CPUs that are there or not: no word is needed.
func TestAllocError(t *testing.T) {
	l := two(t, 5)
	p := some()
	refused := func(cpu, n, align int) {
		blind(t, "an error", func(v *view.View) {
			a, m, q, e := block.Alloc(v, l, cpu, p, n, align)
			if a != 0 || m != 0 || e != api.ErrArg {
				t.Errorf("Alloc(%d, %d) on CPU %d is %d, %d, %d", n, align, cpu, a, m, e)
			}
			same(t, "an error", q, p)
		})
	}
	for _, cpu := range []int{0, 1, 2, -1, math.MaxInt, math.MinInt} {
		for _, n := range []int{-1, -2, -32, -33, math.MinInt32, math.MinInt + 1, math.MinInt} {
			for _, align := range append([]int{0, 3}, aligns...) {
				refused(cpu, n, align)
			}
		}
		for _, align := range append([]int{0, 3, 5, 6, 7, 9, 12, 15, 17, 24, 31, 33, 48, 63, 65, 96, 127, 129, 192, 256, 512}, beyond...) {
			for _, n := range []int{0, 1, 3, 16, 17, 32, 33, 160, math.MaxInt} {
				refused(cpu, n, align)
			}
		}
	}
}

// TestAllocPurse asks for blocks of classes of a purse that has some: the last one is told, and no word is needed.
func TestAllocPurse(t *testing.T) {
	l := two(t, 5)
	for n := range 17 {
		for _, align := range aligns[:5] {
			c, _, _, words := fit(n, align)
			blind(t, "a purse", func(v *view.View) {
				p := held(c, 900, 800, 700)
				p, _ = p.Push((c+1)%5, 600, 1)
				for _, want := range []int{700, 800, 900} {
					a, m, q, e := block.Alloc(v, l, n%2, p, n, align)
					if a != want || m != words || e != api.OK {
						t.Errorf("Alloc(%d, %d) is %d, %d, %d, want %d, %d", n, align, a, m, e, want, words)
					}
					left, _, _ := p.Pop(c)
					same(t, "a purse", q, left)
					p = q
				}
			})
		}
	}
}

// TestAllocClass asks for blocks of classes, of all sizes and alignments: of the CPU's stack, of the bin, of pages that have one, of a page that is taken anew; where the other CPU's stack, and the purse of other classes, have some.
func TestAllocClass(t *testing.T) {
	l := two(t, 9)
	for n := range 17 {
		for _, align := range aligns[:5] {
			c, _, _, size := fit(n, align)
			d := (c + 2) % 5
			list, words := grab(t, l, fresh(l), c, 7)
			other, words := grab(t, l, words, d, 4)
			words = kept(words, l.Cache(0, c), list[:2]...)
			words = kept(words, l.Cache(0, d), other[:2]...)
			words = kept(words, l.Bin(d), other[2:3]...)
			p := held(d, other[3])
			stack := kept(words, l.Cache(1, c), list[2:4]...)
			bin := kept(words, l.Bin(c), list[4:6]...)
			all := kept(stack, l.Bin(c), list[4:6]...)
			for _, x := range []struct {
				words []int
				want  int
			}{{stack, list[3]}, {all, list[3]}, {bin, list[5]}, {words, list[6] + size}, {back(t, l, words, list[6]), list[6]}} {
				a, q, _ := allocs(t, l, x.words, 1, p, n, align)
				if a != x.want {
					t.Errorf("Alloc(%d, %d) is %d, want %d", n, align, a, x.want)
				}
				if got := q.List(d); !slices.Equal(got, other[3:]) {
					t.Errorf("Alloc(%d, %d): the purse has %v of class %d", n, align, got, d)
				}
			}
		}
	}
}

// TestAllocFresh asks for all sizes at all alignments where nothing was ever taken: the first words are told, as many as the class's blocks or the pages have, up to all pages; and none for more than that.
func TestAllocFresh(t *testing.T) {
	for _, count := range []int{1, 2, 3, 4, 5, 9} {
		l := two(t, count)
		for n := range 32*count + 70 {
			for _, align := range aligns {
				a, _, _ := allocs(t, l, fresh(l), n%2, purse.Purse{}, n, align)
				want := 0
				if n <= 32*count {
					want = l.User()
				}
				if a != want {
					t.Errorf("of %d pages Alloc(%d, %d) is %d, want %d", count, n, align, a, want)
				}
			}
		}
	}
}

// TestAllocSizes holds how many words a block has against numbers written out: the greatest size of each class, one word more, one whole page, several, and alignments that ask for more than the size.
func TestAllocSizes(t *testing.T) {
	l := two(t, 9)
	for _, x := range []struct{ n, align, words, kind int }{
		{0, 1, 1, 1}, {1, 1, 1, 1}, {2, 1, 2, 2}, {3, 1, 4, 3}, {4, 1, 4, 3}, {5, 1, 8, 4}, {8, 1, 8, 4}, {9, 1, 16, 5}, {16, 1, 16, 5},
		{17, 1, 32, 6}, {31, 1, 32, 6}, {32, 1, 32, 6}, {33, 1, 64, 6}, {64, 1, 64, 6}, {65, 1, 96, 6}, {288, 1, 288, 6},
		{0, 2, 2, 2}, {1, 4, 4, 3}, {3, 8, 8, 4}, {0, 16, 16, 5}, {5, 4, 8, 4}, {16, 16, 16, 5}, {17, 16, 32, 6},
		{0, 32, 32, 6}, {1, 32, 32, 6}, {33, 32, 64, 6}, {0, 64, 32, 6}, {1, 64, 32, 6}, {40, 64, 64, 6}, {65, 64, 96, 6}, {1, 128, 32, 6}, {160, 128, 160, 6},
	} {
		words := does(t, l, fresh(l), func(v *view.View) {
			a, m, _, e := block.Alloc(v, l, 0, purse.Purse{}, x.n, x.align)
			if a != l.User() || m != x.words || e != api.OK {
				t.Errorf("Alloc(%d, %d) is %d, %d, %d, want %d", x.n, x.align, a, m, e, x.words)
			}
		})
		if k := words[l.Kind(0)]; k != x.kind {
			t.Errorf("Alloc(%d, %d): the page is of kind %d, want %d", x.n, x.align, k, x.kind)
		}
	}
}

// TestAllocRun asks for runs with pages of all kinds, of purses that have some of each class: they, stacks and bins are not asked.
func TestAllocRun(t *testing.T) {
	p := some()
	texts(5, func(text string) {
		l, words := of(t, text)
		words = kept(words, l.Cache(0, 4), 5, 6)
		words = kept(words, l.Bin(4), 7)
		for n := 17; n < 32*len(text)+40; n += 16 {
			allocs(t, l, words, 0, p, n, aligns[n/16%6])
		}
		for _, align := range aligns[5:] {
			for _, n := range []int{0, 1, 32, 33, 65, 128} {
				allocs(t, l, words, 1, p, n, align)
			}
		}
		if t.Failed() {
			t.Fatalf("with %s", text)
		}
	})
}

// TestAllocRunOf looks at what the chapter's words lead to, one by one: which page a run begins with.
func TestAllocRunOf(t *testing.T) {
	for _, x := range []struct {
		text           string
		n, align, page int
	}{
		{"....", 17, 1, 0}, {"....", 32, 32, 0}, {"....", 33, 1, 0}, {"....", 128, 128, 0},
		{"H...", 32, 1, 1}, {"H...", 0, 64, 2}, {"H...", 96, 1, 1}, {"H...", 97, 1, -1}, {"H...", 64, 64, 2}, {"H...", 65, 64, -1}, {"H...", 1, 128, -1},
		{".H..", 33, 1, 2}, {".H..", 32, 1, 0}, {".H..", 65, 1, -1}, {"x..X", 64, 1, 1}, {"x..X", 64, 64, -1},
		{"H-..____", 64, 1, 2}, {"H-..____", 65, 1, 2}, {"H-..____", 193, 1, -1}, {"H-..____", 1, 128, 4}, {"H-..____", 65, 64, 2},
		// Mapped pages come ahead of others.
		{"____.x..", 32, 1, 4}, {"____.x..", 64, 1, 6}, {"____.x..", 65, 1, 0}, {"____.x..", 129, 1, 0}, {"____.x..", 161, 1, -1}, {"____x...", 1, 128, 0}, {"____.x..", 1, 128, 4},
		{"HHHH....x", 100, 1, 4}, {"HHHH....x", 100, 128, 4}, {"H---_", 32, 1, 4}, {"H---_", 33, 1, -1},
		{"H-H-H-H-..", 64, 64, 8}, {"H-H-H-H-..", 64, 128, 8}, {"H-H-H-..", 1, 128, -1}, {"H-H-H-..", 1, 64, 6},
		{"H", 17, 1, -1}, {"X", 17, 1, -1}, {"_", 32, 128, 0}, {"_", 33, 1, -1},
	} {
		l, words := of(t, x.text)
		want := 0
		if x.page >= 0 {
			want = l.User() + 32*x.page
		}
		if a, _, _ := allocs(t, l, words, 0, purse.Purse{}, x.n, x.align); a != want {
			t.Errorf("with %s: Alloc(%d, %d) is %d, want %d", x.text, x.n, x.align, a, want)
		}
	}
}

// TestAllocGreat asks for more than any arena has: no run is, whatever its words would be by wrapping round.
func TestAllocGreat(t *testing.T) {
	p := some()
	for _, pages := range []int{1, 4, 256} {
		l := two(t, pages)
		for _, n := range []int{32*pages + 1, 32*pages + 32, 8193, 1 << 20, 1<<20 + 1, 1 << 31, 1 << 32, 1<<32 + 1, 1<<58 + 3, 1<<62 + 40, math.MaxInt - 64, math.MaxInt - 31, math.MaxInt - 30, math.MaxInt - 1, math.MaxInt} {
			for _, align := range aligns {
				looks(t, "a great size", l, fresh(l), func(v *view.View) {
					a, m, q, e := block.Alloc(v, l, 0, p, n, align)
					if a != 0 || m != 0 || e != api.ErrMemory {
						t.Errorf("of %d pages Alloc(%d, %d) is %d, %d, %d", pages, n, align, a, m, e)
					}
					same(t, "a great size", q, p)
				})
			}
		}
	}
}

// TestAllocNoCPU asks on CPUs that are none: there is no block of a class, even of a purse that has some; runs are told as on any other CPU.
func TestAllocNoCPU(t *testing.T) {
	l, words := of(t, "x.H..")
	p := some()
	for _, cpu := range noCPU {
		for n := range 17 {
			for _, align := range aligns[:5] {
				blind(t, "no CPU", func(v *view.View) {
					a, m, q, e := block.Alloc(v, l, cpu, p, n, align)
					if a != 0 || m != 0 || e != api.ErrMemory {
						t.Errorf("on CPU %d Alloc(%d, %d) is %d, %d, %d", cpu, n, align, a, m, e)
					}
					same(t, "no CPU", q, p)
				})
			}
		}
		for _, x := range []struct{ n, align, page, words int }{{17, 1, 1, 32}, {33, 1, 3, 64}, {1, 128, 4, 32}} {
			out := does(t, l, words, func(v *view.View) {
				a, m, q, e := block.Alloc(v, l, cpu, p, x.n, x.align)
				if a != l.Addr(x.page) || m != x.words || e != api.OK {
					t.Errorf("on CPU %d Alloc(%d, %d) is %d, %d, %d", cpu, x.n, x.align, a, m, e)
				}
				same(t, "a run on no CPU", q, p)
			})
			stands(t, "a run on no CPU", l, out, laid(l, words, x.page, x.words/32))
		}
	}
}

// TestAllocNothing asks where nothing is left of the class and of pages, whatever other classes, purses and CPUs have: no word changes.
func TestAllocNothing(t *testing.T) {
	for c, size := range sizes {
		l := two(t, 3)
		d := (c + 1) % 5
		list, words := grab(t, l, fresh(l), d, 96/sizes[d])
		words = back(t, l, words, list[len(list)-1])
		words = kept(words, l.Cache(0, d), list[0])
		words = kept(words, l.Bin(d), list[1])
		p := held(d, list[2])
		for _, align := range aligns[:c+1] {
			if a, _, _ := allocs(t, l, words, 0, p, size, align); a != 0 {
				t.Errorf("Alloc(%d, %d) is %d", size, align, a)
			}
		}
		for _, n := range []int{0, 17, 32, 33, 96} {
			if a, _, _ := allocs(t, l, words, 0, p, n, 32); a != 0 {
				t.Errorf("Alloc(%d, 32) is %d", n, a)
			}
		}
		list, words = grab(t, l, fresh(l), c, 96/size)
		words = kept(words, l.Cache(1, c), list[0], list[1])
		if a, _, _ := allocs(t, l, words, 0, p, size, 1); a != 0 {
			t.Errorf("Alloc(%d, 1) is %d", size, a)
		}
	}
}

// P15.2

// TestFree gives back each block's own address, with pages of all kinds.
func TestFree(t *testing.T) {
	texts(6, func(text string) {
		l, words := of(t, text)
		p := held(3, 500)
		for w, o := range owners(l, words) {
			if w == o.addr {
				frees(t, l, words, len(text)%2, p, w)
			}
		}
		if t.Failed() {
			t.Fatalf("with %s", text)
		}
	})
}

// TestFreeOthers gives back all that is no block's own address, with pages of all kinds: further words of blocks, words that no block has, those that are no user words, and such as are none.
func TestFreeOthers(t *testing.T) {
	p := some()
	texts(6, func(text string) {
		l, words := of(t, text)
		all := owners(l, words)
		looks(t, text, l, words, func(v *view.View) {
			everywhere(l, func(a int) {
				if o := all[a]; o.words > 0 && o.addr == a {
					return
				}
				q, ok := block.Free(v, l, 0, p, a)
				if ok {
					t.Errorf("%s: Free(%d) is true", text, a)
				}
				same(t, text, q, p)
			})
		})
		if t.Failed() {
			t.Fatalf("with %s", text)
		}
	})
}

// TestFreeClass gives back blocks of each class to purses that have room, and to such as have none, so that the last ones go to the stack, the bin, and their pages.
func TestFreeClass(t *testing.T) {
	for c := range sizes {
		l := made(t, api.Config{CPUs: 2, Pages: 8, Private: 2, Cache: 1, Bin: 1, Batch: 2})
		list, words := grab(t, l, fresh(l), c, 12)
		var p purse.Purse
		for _, a := range list {
			p, words = frees(t, l, words, 1, p, a)
		}
		if got := p.List(c); !slices.Equal(got, list[10:]) {
			t.Errorf("the purse has %v, want %v", got, list[10:])
		}
		stack, bin := words[l.Cache(1, c)+1], words[l.Bin(c)+1]
		if words[l.Cache(1, c)] != 1 || words[l.Bin(c)] != 1 || stack != list[1] || bin != list[0] {
			t.Errorf("of class %d: %d are on the stack, %d in the bin", c, words[l.Cache(1, c)], words[l.Bin(c)])
		}
		if got, want := owners(l, words), 4*sizes[c]; len(got) != want {
			t.Errorf("of class %d: %d words are taken, want %d", c, len(got), want)
		}
		for _, a := range list[2:10] {
			frees(t, l, words, 1, p, a)
			looks(t, "a block that is free", l, words, func(v *view.View) {
				if _, ok := block.Free(v, l, 1, p, a); ok {
					t.Errorf("of class %d: Free(%d) is true again", c, a)
				}
			})
		}
	}
}

// TestFreeRun gives back runs: just their pages are free by that, and purses, stacks and bins stay. Given back again, nothing is done.
func TestFreeRun(t *testing.T) {
	for _, x := range []struct {
		text string
		page int
		is   string
	}{
		{"H", 0, "."}, {"H-", 0, ".."}, {"H--", 0, "..."}, {"HH", 0, ".H"}, {"HH", 1, "H."}, {"H-H-H-", 2, "H-..H-"}, {"xH-X", 1, "x..X"}, {".H.H", 3, ".H.."},
		{"H----", 0, "....."}, {"..H-----", 2, "........"}, {"H-------H", 0, "........H"}, {"H-------H", 8, "H-------."}, {"HHHHHHHHH", 4, "HHHH.HHHH"},
	} {
		l, words := of(t, x.text)
		_, want := of(t, x.is)
		p := some()
		words, want = kept(words, l.Bin(2), 5), kept(want, l.Bin(2), 5)
		q, out := frees(t, l, words, 0, p, l.User()+32*x.page)
		same(t, x.text, q, p)
		stands(t, x.text, l, out, want)
		for a := l.User() + 32*x.page; a < l.User()+32*x.page+32; a++ {
			looks(t, "a run that is free", l, out, func(v *view.View) {
				if _, ok := block.Free(v, l, 0, p, a); ok {
					t.Errorf("%s: Free(%d) is true", x.is, a)
				}
			})
		}
	}
}

// TestFreeNoCPU gives back on CPUs that are none: a class's block stays taken, and nothing is written, but it was one; a run's pages are free.
func TestFreeNoCPU(t *testing.T) {
	l, words := of(t, "xXH-.H")
	for _, p := range []purse.Purse{{}, held(3, 500, 501), some()} {
		for _, cpu := range noCPU {
			looks(t, "no CPU", l, words, func(v *view.View) {
				for a := l.User(); a < l.User()+64; a++ {
					w := a - l.User()
					q, ok := block.Free(v, l, cpu, p, a)
					if ok != (w == 8 || w == 24 || w == 32 || w == 48) {
						t.Errorf("on CPU %d Free(%d) is %t", cpu, a, ok)
					}
					same(t, "no CPU", q, p)
				}
			})
			q, out := frees(t, l, words, cpu, p, l.Addr(2))
			same(t, "a run on no CPU", q, p)
			if _, want := of(t, "xX...H"); !slices.Equal(out, want) {
				t.Errorf("on CPU %d a run is not free", cpu)
			}
			frees(t, l, words, cpu, p, l.Addr(3))
			frees(t, l, words, cpu, p, l.Addr(4))
		}
	}
}

// P15.3

// TestFind asks of all words with pages of all kinds.
func TestFind(t *testing.T) {
	texts(7, func(text string) {
		l, words := of(t, text)
		if finds(t, l, words); t.Failed() {
			t.Fatalf("with %s", text)
		}
	})
}

// TestFindClass asks of all words of a page of each class, with each block alone, and with all but each one taken.
func TestFindClass(t *testing.T) {
	l := two(t, 3)
	for c, size := range sizes {
		for i := range 32 / size {
			words := laid(l, fresh(l), 1, 1)
			words[l.Kind(1)], words[l.Bits(1)] = c+1, 1<<i
			a := l.Addr(1) + i*size
			looks(t, "one block", l, words, func(v *view.View) {
				for w := l.Addr(0); w < l.Words(); w++ {
					b, n, ok := block.Find(v, l, w)
					if in := w >= a && w < a+size; ok != in || in && (b != a || n != size) || !in && (b != 0 || n != 0) {
						t.Errorf("of class %d with the block %d: Find(%d) is %d, %d, %t", c, i, w, b, n, ok)
					}
				}
			})
			words[l.Bits(1)] = 1<<(32/size) - 1 - 1<<i
			finds(t, l, words)
		}
	}
}

// TestFindRun asks of the first and the last word of runs, and of those beside them.
func TestFindRun(t *testing.T) {
	for _, x := range []struct {
		text        string
		page, count int
	}{{"H", 0, 1}, {".H.", 1, 1}, {"HHH", 1, 1}, {".H-.", 1, 2}, {"H-H-H-", 2, 2}, {"xH---X", 1, 4}, {"..H-----", 2, 6}, {"H" + strings.Repeat("-", 255), 0, 256}} {
		l, words := of(t, x.text)
		a, n := l.User()+32*x.page, 32*x.count
		looks(t, x.text, l, words, func(v *view.View) {
			for _, w := range []int{a, a + 1, a + 31, a + n/2, a + n - 32, a + n - 1} {
				if b, m, ok := block.Find(v, l, w); b != a || m != n || !ok {
					t.Errorf("%s: Find(%d) is %d, %d, %t, want %d, %d", x.text, w, b, m, ok, a, n)
				}
			}
			for _, w := range []int{a - 1, a + n} {
				if b, _, _ := block.Find(v, l, w); b == a {
					t.Errorf("%s: Find(%d) is %d", x.text, w, b)
				}
			}
		})
	}
}

// TestFindKept asks of blocks that are taken and not told: those that a purse, a stack and a bin have are found like others.
func TestFindKept(t *testing.T) {
	l := made(t, api.Config{CPUs: 1, Pages: 2, Private: 1, Cache: 1, Bin: 1, Batch: 1})
	list, words := grab(t, l, fresh(l), 3, 4)
	var p purse.Purse
	for _, a := range list[:3] {
		p, words = frees(t, l, words, 0, p, a)
	}
	if !p.Has(list[2]) || words[l.Cache(0, 3)] != 1 || words[l.Bin(3)] != 1 {
		t.Errorf("%v, %v", p.All(), words)
	}
	looks(t, "kept", l, words, func(v *view.View) {
		for w := range 32 {
			if b, n, ok := block.Find(v, l, l.User()+w); b != l.User()+w/8*8 || n != 8 || !ok {
				t.Errorf("Find of the word %d is %d, %d, %t", w, b, n, ok)
			}
		}
	})
}

// P15.4, P15.5

// heap is two workers at one allocator: its words, their purses, the CPUs that they are on, and the blocks that were told and not given back, each with how many words it has.
type heap struct {
	l      layout.Layout
	words  []int
	purses [2]purse.Purse
	cpus   [2]int
	told   map[int]int
}

// newHeap tells two workers, on the first CPU and on the last one.
func newHeap(l layout.Layout) heap {
	return heap{l: l, words: fresh(l), cpus: [2]int{0, l.Config().CPUs - 1}, told: map[int]int{}}
}

// copied tells the same, apart.
func (h heap) copied() heap {
	told := map[int]int{}
	for a, n := range h.told {
		told[a] = n
	}
	h.told = told
	return h
}

// list tells all blocks that were told and not given back, by rising addresses.
func (h heap) list() []int {
	var list []int
	for a := range h.told {
		list = append(list, a)
	}
	slices.Sort(list)
	return list
}

// takes lets a worker ask for a block, and holds what is told against what was asked for, and against all that was told.
func (h *heap) takes(t *testing.T, i, n, align int) {
	t.Helper()
	_, _, _, words := fit(n, align)
	a, q, out := allocs(t, h.l, h.words, h.cpus[i], h.purses[i], n, align)
	h.purses[i], h.words = q, out
	if a == 0 {
		return
	}
	if words < n || a%align != 0 || a < h.l.User() || a+words > h.l.Words() {
		t.Errorf("of %v: Alloc(%d, %d) is %d, of %d words", h.l.Config(), n, align, a, words)
	}
	for b, m := range h.told {
		if a < b+m && b < a+words {
			t.Errorf("of %v: Alloc(%d, %d) is %d, of %d words, where %d, of %d words, is told", h.l.Config(), n, align, a, words, b, m)
		}
	}
	h.told[a] = words
}

// gives lets a worker give a block back.
func (h *heap) gives(t *testing.T, i, a int) {
	t.Helper()
	h.purses[i], h.words = frees(t, h.l, h.words, h.cpus[i], h.purses[i], a)
	if _, ok := h.told[a]; !ok {
		t.Errorf("of %v: %d was not told", h.l.Config(), a)
	}
	delete(h.told, a)
}

// flushes lets a worker's purse go to the pages.
func (h *heap) flushes(t *testing.T, i int) {
	t.Helper()
	p := h.purses[i]
	h.words = does(t, h.l, h.words, func(v *view.View) { h.purses[i] = front.Flush(v, h.l, p) })
}

// drains lets all stacks and bins go to the pages.
func (h *heap) drains(t *testing.T) {
	t.Helper()
	h.words = does(t, h.l, h.words, func(v *view.View) { front.Drain(v, h.l) })
}

// found holds Find of all words against a plain look, and that of each word of a block that is told against that block.
func (h heap) found(t *testing.T) {
	t.Helper()
	finds(t, h.l, h.words)
	looks(t, "Find of what is told", h.l, h.words, func(v *view.View) {
		for a, n := range h.told {
			for w := a; w < a+n; w++ {
				if b, m, ok := block.Find(v, h.l, w); b != a || m != n || !ok {
					t.Errorf("of %v: Find(%d) is %d, %d, %t, want %d, %d", h.l.Config(), w, b, m, ok, a, n)
				}
			}
		}
	})
}

// empty flushes both purses, and drains: just the blocks that were told and not given back have words then. Given back, and flushed and drained again, they leave no page used.
func (h heap) empty(t *testing.T) {
	t.Helper()
	h = h.copied()
	clean := func() {
		h.flushes(t, 0)
		h.flushes(t, 1)
		h.drains(t)
	}
	clean()
	n := 0
	for _, m := range h.told {
		n += m
	}
	if got := len(owners(h.l, h.words)); got != n {
		t.Errorf("of %v: %d words are taken, want %d", h.l.Config(), got, n)
	}
	for k, a := range h.list() {
		h.gives(t, k%2, a)
	}
	clean()
	for p := range h.l.Config().Pages {
		if k := h.words[h.l.Kind(p)]; k != 0 {
			t.Errorf("of %v: all is given back, and the page %d is of kind %d", h.l.Config(), p, k)
		}
	}
}

// key tells what two workers have as a text, of which there is one each. Words of stacks behind what is kept do not matter.
func (h heap) key() string {
	var b strings.Builder
	add := func(list ...int) {
		for _, x := range list {
			b.WriteString(strconv.Itoa(x) + " ")
		}
		b.WriteString("/")
	}
	add(h.words[h.l.Table(0):h.l.Cache(0, 0)]...)
	for c := range sizes {
		for cpu := range h.l.Config().CPUs {
			base := h.l.Cache(cpu, c)
			add(h.words[base+1 : base+1+h.words[base]]...)
		}
		base := h.l.Bin(c)
		add(h.words[base+1 : base+1+h.words[base]]...)
		for _, p := range h.purses {
			add(p.List(c)...)
		}
	}
	add(h.list()...)
	return b.String()
}

// ask is a size, and an alignment.
type ask struct{ n, align int }

// TestAllSteps goes through all that two workers may come to by asking for blocks, giving back, flushing and draining, as far as there are so many, with few pages.
func TestAllSteps(t *testing.T) {
	for _, x := range []struct {
		config api.Config
		asks   []ask
		most   int
	}{
		{api.Config{CPUs: 1, Pages: 2, Private: 1, Batch: 1}, []ask{{16, 1}, {33, 1}, {1, 64}}, 600},
		{api.Config{CPUs: 2, Pages: 3, Private: 1, Cache: 1, Bin: 1, Batch: 2}, []ask{{9, 8}, {32, 1}, {0, 64}}, 600},
		{api.Config{CPUs: 2, Pages: 5, Private: 2, Cache: 1, Bin: 0, Batch: 2}, []ask{{16, 16}, {40, 64}, {3, 128}}, 500},
		{api.Config{CPUs: 1, Pages: 4, Private: 1, Cache: 0, Bin: 1, Batch: 2}, []ask{{64, 1}, {65, 1}, {17, 1}}, 500},
		{api.Config{CPUs: 1, Pages: 1, Private: 2, Cache: 1, Bin: 1, Batch: 3}, []ask{{8, 1}, {32, 32}}, 500},
	} {
		allSteps(t, newHeap(made(t, x.config)), x.asks, x.most)
	}
}

// allSteps goes on from what two workers have to all that they may come to, up to most of them, the nearest ones first.
func allSteps(t *testing.T, first heap, asks []ask, most int) {
	t.Helper()
	met := map[string]bool{first.key(): true}
	row := []heap{first}
	for i := 0; i < len(row) && i < most && !t.Failed(); i++ {
		h := row[i]
		h.found(t)
		h.empty(t)
		further := func(step func(h *heap)) {
			n := h.copied()
			if step(&n); !met[n.key()] {
				met[n.key()] = true
				row = append(row, n)
			}
		}
		for k := range 2 {
			for _, x := range asks {
				further(func(n *heap) { n.takes(t, k, x.n, x.align) })
			}
			for _, a := range h.list() {
				further(func(n *heap) { n.gives(t, k, a) })
			}
			further(func(n *heap) { n.flushes(t, k) })
		}
		further(func(n *heap) { n.drains(t) })
	}
}

// made64 tells a function that makes numbers below n, the same ones of the same seed.
func made64(seed int) func(n int) int {
	x := uint64(seed)*2862933555777941757 + 3037000493
	return func(n int) int {
		x ^= x << 13
		x ^= x >> 7
		x ^= x << 17
		return int(x >> 20 % uint64(n))
	}
}

// TestRows makes many steps of two workers that go from CPU to CPU, with made configurations, and asks of all words behind each few.
func TestRows(t *testing.T) {
	for seed := range 60 {
		next := made64(seed)
		h := newHeap(made(t, api.Config{CPUs: 1 + next(8), Pages: 1 + next(20), Private: 1 + next(8), Cache: next(9), Bin: next(17), Batch: 1 + next(8)}))
		for step := range 160 {
			h.steps(t, next, step)
			if step%5 == 0 {
				h.found(t)
			}
			if step%40 == 0 {
				h.empty(t)
			}
			if t.Failed() {
				t.Fatalf("behind step %d of the row %d", step, seed)
			}
		}
		h.empty(t)
	}
}

// steps makes one step. In the first half of each eighty more is taken, and more is given back in the second one.
func (h *heap) steps(t *testing.T, next func(n int) int, step int) {
	t.Helper()
	i, take := next(2), 75
	if step%80 >= 40 {
		take = 25
	}
	switch k := next(100); {
	case k < 3:
		h.drains(t)
	case k < 6:
		h.flushes(t, i)
	case k < 14:
		h.cpus[i] = next(h.l.Config().CPUs)
	case k < 17:
		h.purses[i], h.words = frees(t, h.l, h.words, h.cpus[i], h.purses[i], h.nobodys(next))
	case k < 17+take || len(h.told) == 0:
		h.takes(t, i, []int{next(4), next(18), next(70), next(260)}[next(4)], aligns[next(8)])
	default:
		list := h.list()
		h.gives(t, i, list[next(len(list))])
	}
}

// nobodys tells an address at which no block that is taken begins, or 0. (What is kept may not be given back again.)
func (h heap) nobodys(next func(n int) int) int {
	a := next(h.l.Words() + 9)
	if o := owners(h.l, h.words)[a]; o.addr == a {
		return 0
	}
	return a
}

// TestFill asks for as many blocks as there are, of each size and alignment: no more than pages have room for, each apart, and none is left out; given back, just as many are told again.
func TestFill(t *testing.T) {
	for _, x := range []struct{ pages, n, align, want int }{
		{4, 1, 1, 128}, {4, 2, 1, 64}, {4, 3, 1, 32}, {4, 5, 1, 16}, {4, 9, 1, 8}, {4, 0, 16, 8}, {3, 1, 8, 12},
		{4, 17, 1, 4}, {4, 32, 1, 4}, {4, 33, 1, 2}, {5, 64, 1, 2}, {9, 65, 1, 3}, {9, 96, 64, 2}, {9, 288, 128, 1}, {9, 289, 1, 0},
		{9, 1, 32, 9}, {9, 1, 64, 5}, {9, 1, 128, 3}, {8, 33, 128, 2}, {9, 33, 128, 2}, {10, 33, 128, 3}, {256, 128, 128, 64}, {256, 8192, 1, 1},
	} {
		h := newHeap(two(t, x.pages))
		for range 2 {
			for k := 0; ; k++ {
				was := len(h.told)
				if h.takes(t, k%2, x.n, x.align); len(h.told) == was {
					// What the other one has in its purse, and on its stack, is left.
					h.flushes(t, 1-k%2)
					h.drains(t)
					if h.takes(t, k%2, x.n, x.align); len(h.told) == was {
						break
					}
				}
			}
			if len(h.told) != x.want {
				t.Errorf("of %d pages: %d blocks of %d by %d are told, want %d", x.pages, len(h.told), x.n, x.align, x.want)
			}
			h.found(t)
			for k, a := range h.list() {
				h.gives(t, k%2, a)
			}
			h.empty(t)
		}
	}
}

// TestPurses hands the same purse to several calls: it stays as it is, whatever is made of it.
func TestPurses(t *testing.T) {
	l := two(t, 3)
	list, words := grab(t, l, fresh(l), 4, 4)
	p := held(4, list[0], list[1])
	for range 2 {
		allocs(t, l, words, 0, p, 16, 1)
		allocs(t, l, words, 0, p, 32, 1)
		frees(t, l, words, 0, p, list[2])
		frees(t, l, words, 0, p, list[3])
		same(t, "the purse that was handed in", p, held(4, list[0], list[1]))
	}
}

// What no calls lead to

// TestNoLayout asks of the zero layout, which has no CPUs and no pages: nothing is needed, and nothing is done.
func TestNoLayout(t *testing.T) {
	var l layout.Layout
	p := some()
	blind(t, "the zero layout", func(v *view.View) {
		for _, x := range append([]int{0, 1, 2, 3, 128}, beyond...) {
			for _, n := range []int{0, 1, 16, 17, 33, 1 << 20, math.MaxInt} {
				if a, m, q, e := block.Alloc(v, l, x, p, n, 1); a != 0 || m != 0 || e != api.ErrMemory {
					t.Errorf("Alloc(%d, 1) is %d, %d, %d", n, a, m, e)
				} else {
					same(t, "the zero layout", q, p)
				}
			}
			if q, ok := block.Free(v, l, 0, p, x); ok {
				t.Errorf("Free(%d) is true", x)
			} else {
				same(t, "the zero layout", q, p)
			}
			if b, n, ok := block.Find(v, l, x); b != 0 || n != 0 || ok {
				t.Errorf("Find(%d) is %d, %d, %t", x, b, n, ok)
			}
		}
	})
}

// TestEnds has words of pages that may not be: each call ends, and writes no words but ours.
func TestEnds(t *testing.T) {
	odd := append([]int{0, 1, 2, 3, 4, 5, 6, 7, 8, 9, 31, 32, 33}, beyond...)
	for seed := range 600 {
		next := made64(seed)
		l := two(t, 1+next(7))
		words := fresh(l)
		for a := l.Table(0); a < l.Live(l.User()); a++ {
			words[a] = odd[next(len(odd))]
			if next(2) == 0 && a >= l.Kind(0) && a < l.Count(0) {
				words[a] = []int{6, 7, 7}[next(3)]
			}
		}
		does(t, l, words, func(v *view.View) {
			p := some()
			for range 6 {
				everywhere(l, func(a int) { block.Find(v, l, a) })
				_, _, p, _ = block.Alloc(v, l, 0, p, next(100), aligns[next(8)])
				for range 20 {
					p, _ = block.Free(v, l, next(3), p, l.User()+next(8)*32+next(4)*8)
				}
			}
		})
	}
}

// TestNoRun has further pages that are of no run: they are nobody's.
func TestNoRun(t *testing.T) {
	for _, x := range []struct {
		kinds, counts, found []int
	}{
		{[]int{7}, []int{0}, []int{0}},
		{[]int{7, 7}, []int{2, 2}, []int{0, 0}},
		{[]int{0, 7}, []int{2, 0}, []int{0, 0}},
		{[]int{5, 7}, []int{2, 0}, []int{0, 0}},
		{[]int{9, 7}, []int{2, 0}, []int{0, 0}},
		{[]int{6, 7, 7}, []int{2, 0, 0}, []int{64, 64, 0}},
		{[]int{6, 7}, []int{1, 0}, []int{32, 0}},
		{[]int{6, 7}, []int{0, 0}, []int{0, 0}},
		{[]int{6}, []int{-1}, []int{0}},
	} {
		l := two(t, len(x.kinds))
		words := fresh(l)
		for p, k := range x.kinds {
			words[l.Table(p/4)], words[l.Kind(p)], words[l.Count(p)] = 1, k, x.counts[p]
		}
		looks(t, "no run", l, words, func(v *view.View) {
			for p, want := range x.found {
				b, n, ok := block.Find(v, l, l.Addr(p)+p)
				if n != want || ok != (want > 0) || ok && b != l.User() || !ok && b != 0 {
					t.Errorf("of %v, %v: Find in the page %d is %d, %d, %t", x.kinds, x.counts, p, b, n, ok)
				}
				if p == 0 && want > 0 {
					continue
				}
				if _, ok := block.Free(v, l, 0, purse.Purse{}, l.Addr(p)); ok {
					t.Errorf("of %v, %v: Free of the page %d is true", x.kinds, x.counts, p)
				}
			}
		})
	}
}

// dead holds a view that reads 0 of all, and writes nothing, against what is told by it: all pages are free.
func dead(t *testing.T, what string, v *view.View) {
	t.Helper()
	l := two(t, 3)
	for range 2 {
		for _, n := range []int{3, 33} {
			if a, m, q, e := block.Alloc(v, l, 0, purse.Purse{}, n, 1); a != l.User() || m < n || e != api.OK || len(q.All()) > 0 {
				t.Errorf("%s: Alloc(%d, 1) is %d, %d, %d", what, n, a, m, e)
			}
		}
		if a, _, _, e := block.Alloc(v, l, 0, purse.Purse{}, 97, 1); a != 0 || e != api.ErrMemory {
			t.Errorf("%s: Alloc of too much is %d, %d", what, a, e)
		}
		if _, ok := block.Free(v, l, 0, purse.Purse{}, l.User()); ok {
			t.Errorf("%s: Free is true", what)
		}
		if b, n, ok := block.Find(v, l, l.User()); b != 0 || n != 0 || ok {
			t.Errorf("%s: Find is %d, %d, %t", what, b, n, ok)
		}
	}
}

// TestNoView asks by no view, by one whose run ended where it needed a word, and by one whose run is over.
func TestNoView(t *testing.T) {
	dead(t, "nil", nil)
	dead(t, "a view that nothing made", &view.View{})
	l := two(t, 3)
	var kept *view.View
	keep := func(v *view.View) {
		kept = v
		block.Find(v, l, l.User())
	}
	if need, wrote := view.Run(nil, keep); need != l.Kind(0) || len(wrote) != 0 {
		t.Errorf("needs %d, wrote %v", need, wrote)
	}
	dead(t, "one that needed a word", kept)
	if _, _, e := view.Do(fresh(l), keep); e != api.OK {
		t.Errorf("error %d", e)
	}
	dead(t, "one that is done", kept)
}

// The chapter's example.
func TestExample(t *testing.T) {
	l := two(t, 4)
	_, _, e := view.Do(make([]int, l.Words()), func(v *view.View) {
		a, n, p, e := block.Alloc(v, l, 0, purse.Purse{}, 40, 64)
		if a%64 != 0 || a < l.User() || n != 64 || e != api.OK {
			t.Errorf("Alloc(40, 64) is %d, %d, %d", a, n, e)
		}
		b, n, _, e := block.Alloc(v, l, 0, p, 3, 1)
		if b < l.User() || b/64 == a/64 || n != 4 || e != api.OK {
			t.Errorf("Alloc(3, 1) is %d, %d, %d", b, n, e)
		}
	})
	if e != api.OK {
		t.Errorf("error %d", e)
	}
}
