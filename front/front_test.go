package front_test

import (
	"math"
	"slices"
	"strconv"
	"strings"
	"testing"

	"assart/api"
	"assart/front"
	"assart/layout"
	"assart/pages"
	"assart/purse"
	"assart/view"
)

// beyond are numbers that no CPU and no class has; some of them would be one's, if only their lower bits counted, or wrap round to small ones when they are taken several times.
var beyond = []int{math.MinInt, math.MinInt + 1, math.MinInt + 4, math.MinInt32, -1 << 20, -256, -10, -6, -5, -4, -3, -2, -1, 8, 9, 10, 31, 32, 256, 1 << 20, 1 << 31, 1 << 32, 1<<32 + 1, 1 << 62, math.MaxInt - 1, math.MaxInt}

// blocks and sizes are how many blocks of each class a page has, and how many words each has.
var (
	blocks = []int{32, 16, 8, 4, 2}
	sizes  = []int{1, 2, 4, 8, 16}
)

// made tells the layout of a configuration, of which what does not matter here may be left out.
func made(t *testing.T, c api.Config) layout.Layout {
	t.Helper()
	c.Workers, c.Stripes, c.Clock = 2, 3, 9
	l, e := layout.Of(c)
	if e != api.OK {
		t.Fatalf("a layout of %v: error %d", c, e)
	}
	return l
}

// bag is what a purse is to have of each class.
type bag [api.Classes][]int

// purse tells a purse that has it.
func (b bag) purse() purse.Purse {
	var p purse.Purse
	for c, list := range b {
		for _, a := range list {
			p, _ = p.Push(c, a, math.MaxInt)
		}
	}
	return p
}

// with tells a bag of which a class has other blocks. No list is shared with anybody.
func (b bag) with(c int, list []int) bag {
	b[c] = slices.Clone(list)
	return b
}

// all tells all blocks, class by class.
func (b bag) all() []int { return slices.Concat(b[:]...) }

// holds holds a purse against what it is to have.
func (b bag) holds(t *testing.T, what string, p purse.Purse) {
	t.Helper()
	for c, list := range b {
		if got := p.List(c); !slices.Equal(got, list) {
			t.Errorf("%s: the purse has %v of class %d, want %v", what, got, c, list)
		}
	}
	if got := p.All(); !slices.Equal(got, b.all()) {
		t.Errorf("%s: the purse has %v, want %v", what, got, b.all())
	}
}

// plain is an allocator whose stacks and bins are lists. Its words are those of which Grab and Return alone have written some.
type plain struct {
	l      layout.Layout
	words  []int
	stacks []bag
	bins   bag
}

// fresh tells one of which nothing was ever taken. The words that are not those of pages are none that may be read as something else.
func fresh(l layout.Layout) plain {
	m := plain{l: l, words: make([]int, l.Words()), stacks: make([]bag, l.Config().CPUs)}
	for a := range m.words {
		if !paged(l, a) {
			m.words[a] = 70000 + a
		}
	}
	return m
}

// paged tells whether the word at a is one of tables, pages, or lists.
func paged(l layout.Layout, a int) bool { return a >= l.Table(0) && a < l.Cache(0, 0) }

// shelved tells whether the word at a is one of stacks and bins.
func shelved(l layout.Layout, a int) bool { return a >= l.Cache(0, 0) && a < l.Live(l.User()) }

// copied tells the same, apart.
func (m plain) copied() plain {
	m.words, m.stacks = slices.Clone(m.words), slices.Clone(m.stacks)
	return m
}

// pages lets a program change the pages' words.
func (m *plain) pages(prog func(v *view.View)) {
	out, _, e := view.Do(m.words, prog)
	if e != api.OK {
		panic("the pages' words are too few")
	}
	m.words = out
}

// grab takes so many blocks of pages.
func (m *plain) grab(c, n int) []int {
	var list []int
	m.pages(func(v *view.View) {
		list = nil
		for range n {
			if a, ok := pages.Grab(v, m.l, c); ok {
				list = append(list, a)
			}
		}
	})
	return list
}

// back gives blocks to their pages, the last one first.
func (m *plain) back(list []int) {
	m.pages(func(v *view.View) {
		for _, a := range slices.Backward(list) {
			pages.Return(v, m.l, a)
		}
	})
}

// room tells whether a page of a class has a block.
func (m *plain) room(c int) bool {
	ok := false
	m.pages(func(v *view.View) { ok = pages.Room(v, m.l, c) })
	return ok
}

// pop takes the last thing of a list.
func pop(list *[]int) (int, bool) {
	n := len(*list)
	if n == 0 {
		return 0, false
	}
	a := (*list)[n-1]
	*list = slices.Clone((*list)[:n-1])
	return a, true
}

// push puts a thing on a list that has fewer than limit.
func push(list *[]int, a, limit int) bool {
	if len(*list) >= limit {
		return false
	}
	*list = append(slices.Clone(*list), a)
	return true
}

// take is Take.
func (m *plain) take(cpu, c int, b bag) (int, bag, bool) {
	if a, ok := pop(&b[c]); ok {
		return a, b, true
	}
	from := &m.stacks[cpu][c]
	if len(*from) == 0 {
		from = &m.bins[c]
	}
	var got []int
	for len(got) < m.l.Config().Batch && len(got) <= m.l.Config().Private {
		a, ok := pop(from)
		if !ok {
			break
		}
		got = append(got, a)
	}
	if len(got) == 0 {
		got = m.grab(c, 1)
		for len(got) > 0 && len(got) < m.l.Config().Batch && len(got) <= m.l.Config().Private && m.room(c) {
			got = append(got, m.grab(c, 1)...)
		}
	}
	if len(got) == 0 {
		return 0, b, false
	}
	return got[0], b.with(c, got[1:]), true
}

// give is Give.
func (m *plain) give(cpu, c, a int, b bag) bag {
	if len(b[c]) >= m.l.Config().Private {
		for range min(m.l.Config().Batch, len(b[c])) {
			x, _ := pop(&b[c])
			if !push(&m.stacks[cpu][c], x, m.l.Config().Cache) && !push(&m.bins[c], x, m.l.Config().Bin) {
				m.back([]int{x})
			}
		}
	}
	return b.with(c, append(slices.Clone(b[c]), a))
}

// flush is Flush.
func (m *plain) flush(b bag) bag {
	for _, list := range b {
		m.back(list)
	}
	return bag{}
}

// drain is Drain.
func (m *plain) drain() {
	for _, b := range append(m.stacks, m.bins) {
		m.flush(b)
	}
	clear(m.stacks)
	m.bins = bag{}
}

// kept is Kept.
func (m plain) kept() []int {
	var all []int
	for _, b := range m.stacks {
		all = append(all, b.all()...)
	}
	return append(all, m.bins.all()...)
}

// shelves goes through all stacks and bins: where each begins, and what it has.
func (m plain) shelves(f func(base int, list []int)) {
	for c := range blocks {
		for cpu, b := range m.stacks {
			f(m.l.Cache(cpu, c), b[c])
		}
		f(m.l.Bin(c), m.bins[c])
	}
}

// lays tells words that say all of it. Behind what is kept there stands nothing that could be.
func (m plain) lays() []int {
	words := slices.Clone(m.words)
	m.shelves(func(base int, list []int) {
		words[base] = len(list)
		copy(words[base+1:], list)
	})
	return words
}

// holds holds words against it. Those of a stack or a bin behind what is kept are nobody's business.
func (m plain) holds(t *testing.T, what string, words []int) {
	t.Helper()
	if len(words) != m.l.Words() {
		t.Fatalf("%s: %d words", what, len(words))
	}
	m.shelves(func(base int, list []int) {
		if got := words[base : base+1+len(list)]; got[0] != len(list) || !slices.Equal(got[1:], list) {
			t.Errorf("%s, of %v: at %d stands %v, want %v", what, m.l.Config(), base, got, list)
		}
	})
	for a, x := range m.words {
		if !shelved(m.l, a) && words[a] != x {
			t.Errorf("%s, of %v: the word %d is %d, want %d", what, m.l.Config(), a, words[a], x)
		}
	}
}

// does does a program over its words, and tells all words behind it. What is read is to be of pages, stacks and bins.
func (m plain) does(t *testing.T, prog func(v *view.View)) []int {
	t.Helper()
	out, needed, e := view.Do(m.lays(), prog)
	if e != api.OK {
		t.Fatalf("of %v: error %d", m.l.Config(), e)
	}
	for _, x := range needed {
		if !paged(m.l, x.Addr) && !shelved(m.l, x.Addr) {
			t.Errorf("of %v: the word %d was read", m.l.Config(), x.Addr)
		}
	}
	return out
}

// blind runs a program that knows nothing, and holds it against needing and writing nothing.
func blind(t *testing.T, what string, prog func(v *view.View)) {
	t.Helper()
	if need, wrote := view.Run(nil, prog); need != -1 || len(wrote) != 0 {
		t.Errorf("%s: needs %d, wrote %v", what, need, wrote)
	}
}

// takes holds Take, and all words behind it, against the plain allocator, which goes on by it; so does the bag that is told.
func takes(t *testing.T, m *plain, cpu, c int, b bag) (int, bag, bool) {
	t.Helper()
	n := m.copied()
	want, left, ok := n.take(cpu, c, b)
	p := b.purse()
	out := m.does(t, func(v *view.View) {
		a, q, got := front.Take(v, m.l, cpu, p, c)
		if a != want || got != ok {
			t.Errorf("of %v with %v, %v, %v: Take(%d, %d) is %d, %t, want %d, %t", m.l.Config(), b, m.stacks, m.bins, cpu, c, a, got, want, ok)
		}
		left.holds(t, "what Take told", q)
		b.holds(t, "the purse behind Take", p)
	})
	n.holds(t, "Take", out)
	*m = n
	return want, left, ok
}

// gives holds Give likewise.
func gives(t *testing.T, m *plain, cpu, c, a int, b bag) bag {
	t.Helper()
	n := m.copied()
	left := n.give(cpu, c, a, b)
	p := b.purse()
	out := m.does(t, func(v *view.View) {
		left.holds(t, "what Give told", front.Give(v, m.l, cpu, p, c, a))
		b.holds(t, "the purse behind Give", p)
	})
	n.holds(t, "Give", out)
	*m = n
	return left
}

// flushes holds Flush likewise.
func flushes(t *testing.T, m *plain, b bag) bag {
	t.Helper()
	n := m.copied()
	left := n.flush(b)
	p := b.purse()
	out := m.does(t, func(v *view.View) {
		left.holds(t, "what Flush told", front.Flush(v, m.l, p))
		b.holds(t, "the purse behind Flush", p)
	})
	n.holds(t, "Flush", out)
	*m = n
	return left
}

// drains holds Drain likewise.
func drains(t *testing.T, m *plain) {
	t.Helper()
	n := m.copied()
	n.drain()
	n.holds(t, "Drain", m.does(t, func(v *view.View) { front.Drain(v, m.l) }))
	*m = n
}

// looks holds Kept against it. Nothing is written by that.
func looks(t *testing.T, m plain) {
	t.Helper()
	out := m.does(t, func(v *view.View) {
		got := front.Kept(v, m.l)
		if !slices.Equal(got, m.kept()) {
			t.Errorf("of %v: Kept is %v, want %v", m.l.Config(), got, m.kept())
		}
		for i := range got {
			got[i] = -1
		}
		if again := front.Kept(v, m.l); !slices.Equal(again, m.kept()) {
			t.Errorf("of %v: Kept is %v again, want %v", m.l.Config(), again, m.kept())
		}
	})
	if !slices.Equal(out, m.lays()) {
		t.Errorf("of %v: Kept has written", m.l.Config())
	}
}

// filled tells a plain allocator whose stacks and bins have so many blocks of each of these classes, or as many as there is room for.
func filled(l layout.Layout, stack, bin int, classes ...int) plain {
	m := fresh(l)
	for _, c := range classes {
		for cpu := range m.stacks {
			m.stacks[cpu][c] = m.grab(c, min(stack, l.Config().Cache))
		}
		m.bins[c] = m.grab(c, min(bin, l.Config().Bin))
	}
	return m
}

// configs calls f with configurations of two CPUs whose purses, stacks, bins and batches are of many numbers, the least and the greatest ones among them.
func configs(t *testing.T, f func(i int, l layout.Layout)) {
	t.Helper()
	i := 0
	for _, private := range []int{1, 2, 3, 8} {
		for _, cache := range []int{0, 1, 3, 8} {
			for _, bin := range []int{0, 1, 4, 16} {
				for _, batch := range []int{1, 2, 3, 4, 8} {
					f(i, made(t, api.Config{CPUs: 2, Pages: 32, Private: private, Cache: cache, Bin: bin, Batch: batch}))
					i++
				}
			}
		}
	}
}

// numbers tells the whole numbers of a text.
func numbers(text string) []int {
	var list []int
	for _, x := range strings.Fields(text) {
		n, _ := strconv.Atoi(x)
		list = append(list, n)
	}
	return list
}

// P14.1

// refused holds Take and Give of a CPU or a class that is none against doing nothing: no word is needed, none is written.
func refused(t *testing.T, l layout.Layout, cpu, c int, b bag) {
	t.Helper()
	blind(t, "no such CPU or class", func(v *view.View) {
		a, p, ok := front.Take(v, l, cpu, b.purse(), c)
		if a != 0 || ok {
			t.Errorf("of %v: Take(%d, %d) is %d, %t", l.Config(), cpu, c, a, ok)
		}
		b.holds(t, "what Take that was refused told", p)
		for _, a := range []int{l.User(), l.User() + 16, 0, -1} {
			b.holds(t, "what Give that was refused told", front.Give(v, l, cpu, b.purse(), c, a))
		}
	})
}

// TestNone takes and gives of CPUs and classes that are none, with purses that have nothing, some, and all that they may have.
func TestNone(t *testing.T) {
	for _, cpus := range []int{1, 2, 7, 8} {
		for _, cache := range []int{0, 1, 8} {
			l := made(t, api.Config{CPUs: cpus, Pages: 3, Private: 2, Cache: cache, Bin: 1, Batch: 2})
			u := l.User()
			for _, b := range []bag{{}, {{u}, {u + 2}, {u + 4}, {u + 8}, {u + 16}}, {{u, u + 1}, {u + 2, u + 4}, {u + 8, u + 12}, {u + 32, u + 40}, {u + 64, u + 80}}} {
				for _, x := range beyond {
					for c := range blocks {
						refused(t, l, x, c, b)
						refused(t, l, cpus, c, b)
						refused(t, l, cpus+c, c, b)
					}
					for cpu := range cpus {
						refused(t, l, cpu, x, b)
						refused(t, l, cpu, api.Classes, b)
						refused(t, l, cpu, api.Classes+cpu, b)
					}
					for _, y := range beyond {
						refused(t, l, x, y, b)
					}
				}
			}
		}
	}
}

// TestTakePurse takes of a purse that has some of the class: the last one is told, and no word is needed, whatever the others have.
func TestTakePurse(t *testing.T) {
	configs(t, func(i int, l layout.Layout) {
		b := bag{{5}, {6, 7}, {8, 9, 10}, {11, 12, 13, 14}, {15, 16, 17, 18, 19, 20, 21, 22}}
		for c, list := range b {
			blind(t, "a purse that has some", func(v *view.View) {
				p := b.purse()
				for n := len(list) - 1; n >= 0; n-- {
					a, q, ok := front.Take(v, l, i%2, p, c)
					if a != list[n] || !ok {
						t.Errorf("of %v with %v: Take(%d) is %d, %t", l.Config(), list[:n+1], c, a, ok)
					}
					b.with(c, list[:n]).holds(t, "what Take told", q)
					p = q
				}
			})
		}
	})
}

// TestTake takes again and again, with each configuration, where stacks and bins have none, one, some, and as many as they may; then all purses are full of what others leave.
func TestTake(t *testing.T) {
	configs(t, func(i int, l layout.Layout) {
		for _, stack := range []int{0, 1, 8} {
			for _, bin := range []int{0, 3, 16} {
				c, cpu := (i+stack+bin)%5, i%2
				m := filled(l, stack, bin, c, (c+1)%5)
				var b bag
				for range 4 {
					_, b, _ = takes(t, &m, cpu, c, b)
				}
				b = bag{}.with((c+1)%5, b[c])
				for range 3 {
					_, b, _ = takes(t, &m, 1-cpu, c, b)
				}
				if t.Failed() {
					t.Fatalf("with %d, %d", stack, bin)
				}
			}
		}
	})
}

// one is a case of class 3, of which each page has four blocks, that are numbered from 0 on over all pages; they are those of CPU 1 of two. What purse, stack and bin have is told by such numbers, between bars.
type one struct {
	private, cache, bin, batch int
	// pages is how many there are, taken how many blocks were, and open which of these are not any more.
	pages, taken int
	open, was    string
	// number is the block that Take tells (-1, if none), or Give is given.
	number int
	is     string
	// left is which blocks are not taken behind it, of all that were.
	left string
}

// lay tells the plain allocator of a case, and the purse's blocks.
func (x one) lay(t *testing.T) (plain, bag) {
	t.Helper()
	l := made(t, api.Config{CPUs: 2, Pages: x.pages, Private: x.private, Cache: x.cache, Bin: x.bin, Batch: x.batch})
	m := fresh(l)
	m.grab(3, x.taken)
	for _, i := range numbers(x.open) {
		m.back([]int{x.addr(l, i)})
	}
	b, stack, bin := x.parts(l, x.was)
	m.stacks[1][3], m.bins[3] = stack, bin
	return m, bag{}.with(3, b)
}

// addr tells a block's address.
func (x one) addr(l layout.Layout, i int) int { return l.User() + 8*i }

// parts tells the addresses that are told by numbers between bars.
func (x one) parts(l layout.Layout, text string) (purse, stack, bin []int) {
	var lists [3][]int
	for k, part := range strings.Split(text, "|") {
		for _, i := range numbers(part) {
			lists[k] = append(lists[k], x.addr(l, i))
		}
	}
	return lists[0], lists[1], lists[2]
}

// stands holds words, and a purse, against what a case says of them.
func (x one) stands(t *testing.T, l layout.Layout, p purse.Purse, words []int) {
	t.Helper()
	want, stack, bin := x.parts(l, x.is)
	if got := p.List(3); !slices.Equal(got, want) {
		t.Errorf("%v: the purse has %v, want %v", x, got, want)
	}
	for k, list := range [][]int{stack, bin} {
		base := []int{l.Cache(1, 3), l.Bin(3)}[k]
		if got := words[base+1 : base+1+len(list)]; words[base] != len(list) || !slices.Equal(got, list) {
			t.Errorf("%v: at %d stand %d, %v, want %v", x, base, words[base], got, list)
		}
	}
	left := numbers(x.left)
	_, _, e := view.Do(words, func(v *view.View) {
		for i := range 4 * x.pages {
			if c, ok := pages.Taken(v, l, x.addr(l, i)); ok == slices.Contains(left, i) || ok && c != 3 {
				t.Errorf("%v: the block %d is taken, %t, of class %d", x, i, ok, c)
			}
		}
	})
	if e != api.OK {
		t.Errorf("%v: error %d", x, e)
	}
}

// TestTakeOf looks at what the chapter's words lead to, one by one.
func TestTakeOf(t *testing.T) {
	for _, x := range []one{
		// The purse has some: nothing else is asked.
		{2, 2, 2, 3, 2, 8, "", "0 1|2 3|4 5", 1, "0|2 3|4 5", ""},
		{2, 2, 2, 3, 2, 8, "", "7|2 3|4 5", 7, "|2 3|4 5", ""},
		{8, 2, 2, 1, 2, 8, "", "7 6 5 4||", 4, "7 6 5||", ""},
		// The stack has some.
		{8, 8, 8, 8, 2, 8, "", "|3|4", 3, "||4", ""},
		{8, 8, 8, 8, 2, 8, "", "|1 2 3|", 3, "2 1||", ""},
		{8, 8, 8, 8, 2, 8, "", "|0 1 2 3 4 5 6 7|", 7, "6 5 4 3 2 1 0||", ""},
		{2, 8, 8, 3, 2, 8, "", "|0 1 2 3|4 5", 3, "2 1|0|4 5", ""},
		{2, 8, 8, 2, 2, 8, "", "|0 1 2 3|4 5", 3, "2|0 1|4 5", ""},
		{2, 8, 8, 1, 2, 8, "", "|0 1 2 3|4 5", 3, "|0 1 2|4 5", ""},
		{2, 8, 8, 8, 2, 8, "", "|0 1 2 3|4 5", 3, "2 1|0|4 5", ""}, // one and Private
		{1, 8, 8, 8, 2, 8, "", "|0 1 2 3|4 5", 3, "2|0 1|4 5", ""},
		{1, 1, 0, 2, 2, 8, "", "|5|", 5, "||", ""},
		// The stack has fewer than are asked for: it alone is popped, and the bin keeps its own.
		{2, 1, 1, 2, 2, 8, "", "|1|0", 1, "||0", ""},
		{8, 8, 8, 4, 2, 8, "", "|0 1|4 5 6", 1, "0||4 5 6", ""},
		{8, 8, 8, 8, 2, 8, "", "|0 1|4 5 6", 1, "0||4 5 6", ""},
		{2, 8, 8, 8, 2, 8, "", "|0 1|4 5 6", 1, "0||4 5 6", ""},
		{8, 8, 8, 3, 2, 8, "", "|0|4 5 6", 0, "||4 5 6", ""},
		{8, 8, 8, 8, 2, 8, "", "|7 0 1 2 3|4 5 6", 3, "2 1 0 7||4 5 6", ""},
		// The bin has fewer than are asked for, and the stack has none: no page is asked.
		{8, 8, 8, 4, 3, 6, "2", "||4 5", 5, "4||", "2 6 7 8 9 10 11"},
		// The stack has just as many as are asked for.
		{8, 8, 8, 3, 2, 8, "", "|0 1 2|4 5 6", 2, "1 0||4 5 6", ""},
		{2, 8, 8, 8, 2, 8, "", "|0 1 2|4 5 6", 2, "1 0||4 5 6", ""},
		// The stack has none.
		{8, 8, 8, 8, 2, 8, "", "||4", 4, "||", ""},
		{2, 2, 8, 3, 2, 8, "", "||4 7 6 5", 5, "6 7||4", ""},
		{2, 0, 8, 8, 2, 8, "", "||4 7 6 5", 5, "6 7||4", ""},
		{8, 0, 8, 1, 2, 8, "", "||4 7 6 5", 5, "||4 7 6", ""},
		{1, 2, 8, 8, 2, 8, "", "||4 7 6 5", 5, "6||4 7", ""},
		// What is kept is told, and no page is asked for more, however many have room.
		{8, 8, 8, 8, 3, 6, "2", "|5|", 5, "||", "2 6 7 8 9 10 11"},
		{8, 8, 8, 8, 3, 6, "2", "||5", 5, "||", "2 6 7 8 9 10 11"},
		// Both have none.
		{2, 8, 8, 3, 1, 0, "", "||", 0, "1 2||", "3"},
		{8, 8, 8, 3, 1, 0, "", "||", 0, "1 2||", "3"},
		{8, 8, 8, 1, 1, 0, "", "||", 0, "||", "1 2 3"},
		{1, 8, 8, 8, 1, 0, "", "||", 0, "1||", "2 3"},
		{3, 8, 8, 8, 2, 0, "", "||", 0, "1 2 3||", "4 5 6 7"},
		{8, 8, 8, 8, 3, 0, "", "||", 0, "1 2 3||", "4 5 6 7 8 9 10 11"}, // a page is taken anew for the first one alone
		{8, 0, 0, 4, 3, 1, "", "||", 1, "2 3||", "4 5 6 7 8 9 10 11"},
		{8, 0, 0, 2, 3, 1, "", "||", 1, "2||", "3 4 5 6 7 8 9 10 11"},
		{8, 0, 0, 8, 3, 3, "", "||", 3, "||", "4 5 6 7 8 9 10 11"},
		{8, 0, 0, 8, 3, 4, "", "||", 4, "5 6 7||", "8 9 10 11"},
		{8, 0, 0, 8, 3, 8, "1 6", "||", 6, "1||", "8 9 10 11"}, // one page behind the other
		{8, 0, 0, 8, 3, 8, "6 1", "||", 1, "6||", "8 9 10 11"},
		{8, 0, 0, 8, 2, 8, "1 5 6 7", "||", 1, "5 6 7||", ""},
		{8, 0, 0, 3, 2, 8, "1 5 6 7", "||", 1, "5 6||", "7"},
		{1, 0, 0, 8, 2, 8, "5 6 7", "||", 5, "6||", "7"},
		{8, 0, 0, 8, 2, 8, "7", "||", 7, "||", ""},
		// There is none.
		{8, 8, 8, 8, 2, 8, "", "||", -1, "||", ""},
		{1, 0, 0, 1, 1, 4, "", "||", -1, "||", ""},
	} {
		m, b := x.lay(t)
		var p purse.Purse
		out := m.does(t, func(v *view.View) {
			a, q, ok := front.Take(v, m.l, 1, b.purse(), 3)
			want := 0
			if x.number >= 0 {
				want = x.addr(m.l, x.number)
			}
			if a != want || ok != (x.number >= 0) {
				t.Errorf("%v: Take is %d, %t, want %d", x, a, ok, want)
			}
			p = q
		})
		if x.number < 0 && !slices.Equal(out, m.lays()) {
			t.Errorf("%v: Take that is refused has written", x)
		}
		x.stands(t, m.l, p, out)
		takes(t, &m, 1, 3, b)
	}
}

// TestTakeNothing takes where all pages are taken by others, and neither stack nor bin has any of the class: nothing is done, whatever other classes and other CPUs keep.
func TestTakeNothing(t *testing.T) {
	for c := range blocks {
		for other := range blocks {
			l := made(t, api.Config{CPUs: 2, Pages: 5, Private: 2, Cache: 2, Bin: 2, Batch: 3})
			m := fresh(l)
			all := m.grab(other, 5*blocks[other])
			if other != c {
				m.back(all[:1])
			}
			d := (other + 1) % 5
			m.stacks[0][other], m.stacks[1][d], m.bins[d] = all[1:3], all[3:5], all[5:7]
			if d == c {
				m.stacks[1][d], m.bins[d] = nil, nil
			}
			b := bag{}.with((c+2)%5, []int{all[7], all[8]})
			if a, _, ok := takes(t, &m, 1, c, b); a != 0 || ok {
				t.Errorf("Take(%d) with pages of class %d is %d, %t", c, other, a, ok)
			}
			out := m.does(t, func(v *view.View) { front.Take(v, l, 1, b.purse(), c) })
			if !slices.Equal(out, m.lays()) {
				t.Errorf("Take(%d) that is refused has written", c)
			}
		}
	}
}

// TestTakeAll takes all that there is of each class, and then twice more, into one purse: all blocks of all pages are told, each once.
func TestTakeAll(t *testing.T) {
	for c, n := range blocks {
		for private := 1; private <= 8; private++ {
			for _, batch := range []int{1, 2, 5, 8} {
				l := made(t, api.Config{CPUs: 1, Pages: 3, Private: private, Batch: batch})
				_, _, e := view.Do(fresh(l).lays(), func(v *view.View) {
					var p purse.Purse
					var got []int
					for range 3 * n {
						a, q, ok := front.Take(v, l, 0, p, c)
						if !ok || q.Len(c) > private || q.Len(c) >= batch && p.Len(c) == 0 {
							t.Errorf("of %v: Take(%d) is %t, with %d in the purse", l.Config(), c, ok, q.Len(c))
						}
						got, p = append(got, a), q
					}
					slices.Sort(got)
					for i, a := range got {
						if a != l.User()+i*sizes[c] {
							t.Errorf("of %v: Take(%d), all together, is %v", l.Config(), c, got)
							break
						}
					}
					for range 2 {
						if a, q, ok := front.Take(v, l, 0, p, c); a != 0 || ok || len(q.All()) > 0 {
							t.Errorf("of %v: Take(%d) of none is %d, %t", l.Config(), c, a, ok)
						}
					}
				})
				if e != api.OK {
					t.Errorf("error %d", e)
				}
			}
		}
	}
}

// P14.2

// TestGiveRoom gives to a purse that has fewer than Private of the class, whatever it has of others: no word is needed.
func TestGiveRoom(t *testing.T) {
	configs(t, func(i int, l layout.Layout) {
		private := l.Config().Private
		var full bag
		for c := range full {
			for k := range private {
				full[c] = append(full[c], l.User()+100*c+k)
			}
		}
		for c := range blocks {
			blind(t, "a purse that has room", func(v *view.View) {
				b := full.with(c, nil)
				p := b.purse()
				for k := range private {
					b = b.with(c, append(slices.Clone(b[c]), 9+k))
					p = front.Give(v, l, i%2, p, c, 9+k)
					b.holds(t, "what Give told", p)
				}
			})
		}
	})
}

// TestGive gives again and again, with each configuration, to purses that have as many as they may, where stacks and bins have none, some, and as many as they may.
func TestGive(t *testing.T) {
	configs(t, func(i int, l layout.Layout) {
		for _, stack := range []int{0, 1, 8} {
			for _, bin := range []int{0, 2, 16} {
				c, cpu := (i+stack+bin)%5, i%2
				m := filled(l, stack, bin, c, (c+1)%5)
				b := bag{}.with(c, m.grab(c, l.Config().Private))
				b = b.with((c+1)%5, m.grab((c+1)%5, l.Config().Private))
				for _, a := range m.grab(c, 6) {
					b = gives(t, &m, cpu, c, a, b)
				}
				for _, a := range m.grab(c, 3) {
					b = gives(t, &m, 1-cpu, c, a, b)
				}
				if looks(t, m); t.Failed() {
					t.Fatalf("with %d, %d", stack, bin)
				}
			}
		}
	})
}

// TestGiveOf looks at what the chapter's words lead to, one by one.
func TestGiveOf(t *testing.T) {
	for _, x := range []one{
		// The purse has fewer than Private.
		{2, 2, 2, 3, 2, 8, "", "||", 5, "5||", ""},
		{2, 2, 2, 3, 2, 8, "", "0|1|2", 5, "0 5|1|2", ""},
		{8, 2, 2, 1, 2, 8, "", "0 1 2 3 4 6 7||", 5, "0 1 2 3 4 6 7 5||", ""},
		// It has Private, and the stack has room.
		{1, 2, 2, 1, 2, 8, "", "0||", 5, "5|0|", ""},
		{1, 8, 2, 8, 2, 8, "", "0|1 2|3", 5, "5|1 2 0|3", ""},
		{3, 8, 2, 1, 2, 8, "", "0 1 2||", 5, "0 1 5|2|", ""},
		{3, 8, 2, 2, 2, 8, "", "0 1 2||", 5, "0 5|2 1|", ""},
		{3, 8, 2, 3, 2, 8, "", "0 1 2||", 5, "5|2 1 0|", ""},
		{3, 8, 2, 8, 2, 8, "", "0 1 2||7", 5, "5|2 1 0|7", ""}, // there are no more
		{7, 8, 2, 4, 2, 8, "", "0 1 2 3 4 6 7||", 5, "0 1 2 5|7 6 4 3|", ""},
		{3, 8, 2, 2, 2, 8, "", "2 0 1|4|7", 5, "2 5|4 1 0|7", ""},
		// The stack is full, or is by that.
		{3, 1, 4, 3, 2, 8, "", "0 1 2||", 5, "5|2|1 0", ""},
		{3, 2, 4, 3, 2, 8, "", "0 1 2|6|7", 5, "5|6 2|7 1 0", ""},
		{3, 2, 4, 2, 2, 8, "", "0 1 2|6 4|7", 5, "0 5|6 4|7 2 1", ""},
		{3, 0, 4, 2, 2, 8, "", "0 1 2||", 5, "0 5||2 1", ""},
		{1, 0, 1, 8, 2, 8, "", "0||", 5, "5||0", ""},
		// The bin is full, or is by that.
		{3, 1, 1, 3, 2, 8, "", "0 1 2||", 5, "5|2|1", "0"},
		{3, 1, 2, 3, 2, 8, "", "0 1 2|6|7", 5, "5|6|7 2", "0 1"},
		{3, 1, 1, 2, 2, 8, "", "0 1 2|6|7", 5, "0 5|6|7", "1 2"},
		{2, 2, 1, 1, 2, 8, "", "0 1|6 2|7", 5, "0 5|6 2|7", "1"},
		{2, 0, 0, 8, 2, 8, "", "0 1||", 5, "5||", "0 1"},
		{1, 0, 0, 1, 2, 8, "", "0||", 5, "5||", "0"},
		{2, 2, 0, 8, 2, 8, "", "0 1|6|", 5, "5|6 1|", "0"},
		{8, 2, 2, 8, 4, 13, "", "0 1 2 3 4 5 6 7|8|9", 12, "12|8 7|9 6", "0 1 2 3 4 5 13 14 15"},
		{4, 0, 0, 8, 2, 8, "", "4 5 6 7||", 1, "1||", "4 5 6 7"}, // a page is free by that
	} {
		m, b := x.lay(t)
		var p purse.Purse
		out := m.does(t, func(v *view.View) { p = front.Give(v, m.l, 1, b.purse(), 3, x.addr(m.l, x.number)) })
		x.stands(t, m.l, p, out)
		gives(t, &m, 1, 3, x.addr(m.l, x.number), b)
	}
}

// TestGiveHome gives where neither stack nor bin has room, in purses whose blocks are of several pages: they go to their pages one by one, the last one first, so that the pages' lists are as by Return of each.
func TestGiveHome(t *testing.T) {
	for _, order := range [][]int{{0, 4, 8}, {8, 4, 0}, {4, 0, 8}, {1, 0, 4}, {4, 5, 0}, {0, 1, 2}} {
		l := made(t, api.Config{CPUs: 1, Pages: 3, Private: 3, Batch: 3})
		m := fresh(l)
		all := m.grab(3, 12)
		b := bag{}.with(3, []int{all[order[0]], all[order[1]], all[order[2]]})
		want := m.copied()
		want.pages(func(v *view.View) {
			for _, i := range []int{2, 1, 0} {
				if !pages.Return(v, l, all[order[i]]) {
					t.Errorf("Return of the block %d", order[i])
				}
			}
		})
		var p purse.Purse
		out := m.does(t, func(v *view.View) { p = front.Give(v, l, 0, b.purse(), 3, all[11]) })
		want.holds(t, "Give", out)
		bag{}.with(3, all[11:]).holds(t, "Give", p)
	}
}

// TestGiveTake gives blocks and takes them again, on one CPU, and on the other one: what is in the bin is had by both.
func TestGiveTake(t *testing.T) {
	l := made(t, api.Config{CPUs: 2, Pages: 4, Private: 1, Cache: 1, Bin: 2, Batch: 1})
	m := fresh(l)
	all := m.grab(4, 6)
	var b bag
	for _, a := range all[:4] {
		b = gives(t, &m, 0, 4, a, b)
	}
	if want := []int{all[0], all[1], all[2]}; !slices.Equal(m.kept(), want) {
		t.Errorf("behind Give Kept is %v, want %v", m.kept(), want)
	}
	looks(t, m)
	var other bag
	for i, want := range []int{all[2], all[1], l.User() + 96} {
		a, left, ok := takes(t, &m, 1, 4, other)
		if a != want || !ok || len(left.all()) > 0 {
			t.Errorf("the %d-th Take is %d, %t, want %d", i, a, ok, want)
		}
		other = left
	}
	for i, want := range []int{all[3], all[0], l.User() + 112, 0} {
		a, left, ok := takes(t, &m, 0, 4, b)
		if a != want || ok != (i < 3) {
			t.Errorf("the %d-th Take of the first one is %d, %t, want %d", i, a, ok, want)
		}
		b = left
	}
}

// P14.3

// TestFlush flushes purses that have none, some, and as many as they may of each class; stacks and bins stay.
func TestFlush(t *testing.T) {
	for _, n := range [][]int{{0, 0, 0, 0, 0}, {1, 0, 0, 0, 0}, {0, 0, 0, 0, 1}, {0, 3, 0, 2, 0}, {1, 1, 1, 1, 1}, {4, 8, 3, 7, 5}, {8, 8, 8, 8, 8}} {
		l := made(t, api.Config{CPUs: 2, Pages: 40, Private: 8, Cache: 3, Bin: 2, Batch: 2})
		m := filled(l, 2, 2, 0, 1, 2, 3, 4)
		var b bag
		for c := range blocks {
			b = b.with(c, m.grab(c, n[c]))
			m.grab(c, c%3)
		}
		looks(t, m)
		b = flushes(t, &m, b)
		looks(t, m)
		flushes(t, &m, b)
	}
}

// TestFlushOrder flushes a purse whose blocks are of several pages, in several orders: class by class, the last one of a class first, as the pages' lists say, and as do the pages that are free first.
func TestFlushOrder(t *testing.T) {
	for _, order := range [][]int{{0, 4, 8}, {8, 4, 0}, {4, 0, 8}, {8, 0, 4}, {1, 0, 4}, {4, 5, 0}, {0, 1, 2}, {0, 1, 2, 3}, {3, 4, 5, 6, 7}, {5, 4, 3, 2, 1, 0, 8}} {
		l := made(t, api.Config{CPUs: 1, Pages: 8, Private: 8, Cache: 1, Bin: 1, Batch: 1})
		m := fresh(l)
		three, four := m.grab(3, 12), m.grab(4, 8)
		var b bag
		for _, i := range order {
			b[3] = append(b[3], three[i])
		}
		b[4] = []int{four[5], four[0], four[2]}
		want := m.copied()
		want.pages(func(v *view.View) {
			for _, a := range slices.Concat(backward(b[3]), backward(b[4])) {
				if !pages.Return(v, l, a) {
					t.Errorf("Return(%d)", a)
				}
			}
		})
		out := m.does(t, func(v *view.View) {
			if p := front.Flush(v, l, b.purse()); len(p.All()) > 0 {
				t.Errorf("Flush tells %v", p.All())
			}
		})
		want.holds(t, "Flush", out)
	}
}

// asked tells the pages whose Kind word a program needs, in that order: Return of a block asks of what kind its page is.
func asked(t *testing.T, m plain, prog func(v *view.View)) []int {
	t.Helper()
	_, needed, e := view.Do(m.lays(), prog)
	if e != api.OK {
		t.Errorf("error %d", e)
	}
	var list []int
	for _, x := range needed {
		if p := x.Addr - m.l.Kind(0); p >= 0 && p < m.l.Config().Pages {
			list = append(list, p)
		}
	}
	return list
}

// apart tells blocks of all classes, as many of each, no two of which are of one page, and tells their pages too.
func apart(m *plain, n int) (lists bag, of map[int]int) {
	of = map[int]int{}
	for c := range blocks {
		all := m.grab(c, n*blocks[c])
		for i := range n {
			a := all[i*blocks[c]]
			lists[c] = append(lists[c], a)
			of[a], _, _ = m.l.Place(a)
		}
	}
	return lists, of
}

// TestInOrder flushes, and drains, blocks of pages apart: the order in which the pages are asked of is that in which the blocks go. (Blocks of several classes leave the same words in any order.)
func TestInOrder(t *testing.T) {
	l := made(t, api.Config{CPUs: 2, Pages: 40, Private: 8, Cache: 2, Bin: 4, Batch: 1})
	m := fresh(l)
	lists, of := apart(&m, 8)
	var want []int
	for c := range blocks {
		for _, a := range backward(lists[c]) {
			want = append(want, of[a])
		}
	}
	if got := asked(t, m, func(v *view.View) { front.Flush(v, l, lists.purse()) }); !slices.Equal(got, want) {
		t.Errorf("Flush asks of the pages %v, want %v", got, want)
	}
	want = nil
	for k, cut := range [][2]int{{0, 2}, {2, 4}, {4, 8}} {
		var b bag
		for c := range blocks {
			b[c] = lists[c][cut[0]:cut[1]]
			for _, a := range backward(b[c]) {
				want = append(want, of[a])
			}
		}
		if k < 2 {
			m.stacks[k] = b
		} else {
			m.bins = b
		}
	}
	if got := asked(t, m, func(v *view.View) { front.Drain(v, l) }); !slices.Equal(got, want) {
		t.Errorf("Drain asks of the pages %v, want %v", got, want)
	}
}

// backward tells a list from its end on.
func backward(list []int) []int {
	list = slices.Clone(list)
	slices.Reverse(list)
	return list
}

// TestFlushNone flushes a purse that has none: no word is needed.
func TestFlushNone(t *testing.T) {
	for _, l := range []layout.Layout{{}, made(t, api.Config{CPUs: 8, Pages: 256, Private: 8, Cache: 8, Bin: 16, Batch: 8})} {
		blind(t, "an empty purse", func(v *view.View) {
			var p purse.Purse
			if got := front.Flush(v, l, p).All(); len(got) > 0 {
				t.Errorf("Flush of none tells %v", got)
			}
			q, _ := p.Push(2, 5, 1)
			q, _, _ = q.Pop(2)
			if got := front.Flush(v, l, q).All(); len(got) > 0 {
				t.Errorf("Flush of none any more tells %v", got)
			}
		})
	}
}

// TestDrain drains stacks and bins that have none, one, some, and as many as they may, with each configuration; and asks Kept ahead of that, and behind.
func TestDrain(t *testing.T) {
	configs(t, func(i int, l layout.Layout) {
		if i%3 > 0 {
			return
		}
		for _, n := range []int{0, 1, 2, 16} {
			m := filled(l, n, (n+i)%17, 0, 1, 2, 3, 4)
			m.grab(i%5, 3)
			looks(t, m)
			drains(t, &m)
			if len(m.kept()) > 0 {
				t.Errorf("%v are kept", m.kept())
			}
			looks(t, m)
			drains(t, &m)
		}
	})
}

// TestDrainOrder drains all CPUs' stacks, and bins, whose blocks are of the same pages: CPU by CPU, then the bins, class by class, the last one first, as the pages' lists say.
func TestDrainOrder(t *testing.T) {
	for seed := range 60 {
		next := made64(seed)
		cpus := 1 + next(8)
		l := made(t, api.Config{CPUs: cpus, Pages: 12, Private: 1, Cache: 3, Bin: 3, Batch: 1})
		m := fresh(l)
		three, four := m.grab(3, 24), m.grab(4, 12)
		var want []int
		for cpu := range cpus + 1 {
			b := &m.bins
			if cpu < cpus {
				b = &m.stacks[cpu]
			}
			for c, list := range []*[]int{&three, &four} {
				for range next(3) {
					if len(*list) > 0 {
						i := next(len(*list))
						b[3+c] = append(b[3+c], (*list)[i])
						*list = slices.Delete(*list, i, i+1)
					}
				}
				want = append(want, backward(b[3+c])...)
			}
		}
		n := m.copied()
		n.pages(func(v *view.View) {
			for _, a := range want {
				if !pages.Return(v, l, a) {
					t.Errorf("Return(%d)", a)
				}
			}
		})
		n.stacks, n.bins = make([]bag, cpus), bag{}
		n.holds(t, "Drain", m.does(t, func(v *view.View) { front.Drain(v, l) }))
	}
}

// TestKept keeps one number in each stack and bin, and then two: they are told CPU by CPU, and then those of the bins, class by class, in the order in which they came.
func TestKept(t *testing.T) {
	for cpus := 1; cpus <= 8; cpus++ {
		l := made(t, api.Config{CPUs: cpus, Pages: 1, Private: 1, Cache: 2, Bin: 4, Batch: 1})
		for n := range 3 {
			words := fresh(l).lays()
			var want []int
			lay := func(base int) {
				words[base] = n
				for i := range n {
					words[base+1+i] = 900 - len(want)
					want = append(want, 900-len(want))
				}
			}
			for cpu := range cpus {
				for c := range 5 {
					lay(l.Cache(cpu, c))
				}
			}
			for c := range 5 {
				lay(l.Bin(c))
			}
			out, _, e := view.Do(words, func(v *view.View) {
				if got := front.Kept(v, l); !slices.Equal(got, want) {
					t.Errorf("of %d CPUs Kept is %v, want %v", cpus, got, want)
				}
			})
			if e != api.OK || !slices.Equal(out, words) {
				t.Errorf("of %d CPUs: error %d, or Kept has written", cpus, e)
			}
		}
	}
}

// P14.4, P14.5

// made64 tells a function that makes numbers below n, the same ones of the same seed.
func made64(seed int) func(n int) int {
	x := uint64(seed)*2862933555777941757 + 3037000493
	return func(n int) int {
		x ^= x << 13
		x ^= x >> 7
		x ^= x << 17
		return int(x >> 20 % uint64(n))
	}
}

// two is two workers at one allocator: its words, their purses, the CPUs that they are on, and the blocks that were told and not given back, with their classes.
type two struct {
	l      layout.Layout
	words  []int
	purses [2]purse.Purse
	cpus   [2]int
	told   map[int]int
}

// newTwo tells two workers, on the first CPU and on the last one.
func newTwo(l layout.Layout) two {
	return two{l: l, words: fresh(l).lays(), cpus: [2]int{0, l.Config().CPUs - 1}, told: map[int]int{}}
}

// copied tells the same, apart.
func (w two) copied() two {
	w.words = slices.Clone(w.words)
	told := map[int]int{}
	for a, c := range w.told {
		told[a] = c
	}
	w.told = told
	return w
}

// does does a program over the words.
func (w *two) does(t *testing.T, prog func(v *view.View)) {
	t.Helper()
	out, _, e := view.Do(w.words, prog)
	if e != api.OK {
		t.Fatalf("of %v: error %d", w.l.Config(), e)
	}
	w.words = out
}

// takes lets a worker take a block. Of what is none of the class's, or is told already, something is said; and of none where a page is free, or any of its class is anywhere where it is looked for.
func (w *two) takes(t *testing.T, i, c int) {
	t.Helper()
	var a int
	var ok bool
	p := w.purses[i]
	free := w.free()
	w.does(t, func(v *view.View) { a, w.purses[i], ok = front.Take(v, w.l, w.cpus[i], p, c) })
	if !ok {
		if a != 0 || free > 0 || w.purses[i].Len(c) > 0 || w.words[w.l.Cache(w.cpus[i], c)]+w.words[w.l.Bin(c)] > 0 {
			t.Errorf("of %v: Take(%d, %d) is %d, %t, where %d pages are free", w.l.Config(), w.cpus[i], c, a, ok, free)
		}
		return
	}
	if _, twice := w.told[a]; twice {
		t.Errorf("of %v: Take(%d, %d) is %d, which was told already", w.l.Config(), w.cpus[i], c, a)
	}
	w.told[a] = c
	w.fits(t)
}

// free tells how many pages are free.
func (w *two) free() int {
	n := 0
	for p := range w.l.Config().Pages {
		if w.words[w.l.Kind(p)] == 0 {
			n++
		}
	}
	return n
}

// gives lets a worker give a block back.
func (w *two) gives(t *testing.T, i, a int) {
	t.Helper()
	c := w.told[a]
	p := w.purses[i]
	w.does(t, func(v *view.View) { w.purses[i] = front.Give(v, w.l, w.cpus[i], p, c, a) })
	delete(w.told, a)
	w.fits(t)
}

// fits holds purses, stacks and bins against what they may have at most.
func (w *two) fits(t *testing.T) {
	t.Helper()
	f := w.l.Config()
	for c := range blocks {
		for _, p := range w.purses {
			if n := p.Len(c); n > f.Private {
				t.Errorf("of %v: a purse has %d of class %d", f, n, c)
			}
		}
		for cpu := range f.CPUs {
			if n := w.words[w.l.Cache(cpu, c)]; n < 0 || n > f.Cache {
				t.Errorf("of %v: a stack has %d of class %d", f, n, c)
			}
		}
		if n := w.words[w.l.Bin(c)]; n < 0 || n > f.Bin {
			t.Errorf("of %v: a bin has %d of class %d", f, n, c)
		}
	}
}

// flushes lets a worker flush.
func (w *two) flushes(t *testing.T, i int) {
	t.Helper()
	p := w.purses[i]
	w.does(t, func(v *view.View) { w.purses[i] = front.Flush(v, w.l, p) })
	if all := w.purses[i].All(); len(all) > 0 {
		t.Errorf("of %v: behind Flush the purse has %v", w.l.Config(), all)
	}
}

// drains drains.
func (w *two) drains(t *testing.T) {
	t.Helper()
	w.does(t, func(v *view.View) { front.Drain(v, w.l) })
	for _, x := range w.kept() {
		t.Errorf("of %v: behind Drain %d is kept", w.l.Config(), x.a)
	}
}

// block is a block, and its class.
type block struct{ a, c int }

// kept tells all that stacks and bins have, as their words say.
func (w two) kept() []block {
	var all []block
	for c := range blocks {
		bases := []int{w.l.Bin(c)}
		for cpu := range w.l.Config().CPUs {
			bases = append(bases, w.l.Cache(cpu, c))
		}
		for _, base := range bases {
			for i := range w.words[base] {
				all = append(all, block{w.words[base+1+i], c})
			}
		}
	}
	return all
}

// taken tells all blocks that are taken, as the Kind and Bits words say.
func (w two) taken() map[int]int {
	taken := map[int]int{}
	for p := range w.l.Config().Pages {
		if c := w.words[w.l.Kind(p)] - 1; c >= 0 {
			for i := range blocks[c] {
				if w.words[w.l.Bits(p)]>>i&1 == 1 {
					taken[w.l.Addr(p)+i*sizes[c]] = c
				}
			}
		}
	}
	return taken
}

// once holds all blocks that are taken against those that are told, in purses, in stacks, and in bins: each is so once.
func (w two) once(t *testing.T, what string) {
	t.Helper()
	all := w.kept()
	for _, p := range w.purses {
		for c := range blocks {
			for _, a := range p.List(c) {
				all = append(all, block{a, c})
			}
		}
	}
	for a, c := range w.told {
		all = append(all, block{a, c})
	}
	taken := w.taken()
	for _, x := range all {
		if c, ok := taken[x.a]; !ok || c != x.c {
			t.Errorf("%s, of %v: %d of class %d is told, or kept; twice, or it is not taken", what, w.l.Config(), x.a, x.c)
		}
		delete(taken, x.a)
	}
	for a, c := range taken {
		t.Errorf("%s, of %v: %d of class %d is taken, and neither told nor kept", what, w.l.Config(), a, c)
	}
	words, _, _ := view.Do(w.words, func(v *view.View) {
		if n := len(front.Kept(v, w.l)); n != len(w.kept()) {
			t.Errorf("%s, of %v: Kept has %d blocks, want %d", what, w.l.Config(), n, len(w.kept()))
		}
	})
	if !slices.Equal(words, w.words) {
		t.Errorf("%s: Kept has written", what)
	}
}

// empty flushes all purses, and drains: just the blocks that were told and not given back are taken then. Given to their pages, they leave no page used.
func (w two) empty(t *testing.T) {
	t.Helper()
	w = w.copied()
	w.flushes(t, 0)
	w.flushes(t, 1)
	w.drains(t)
	taken := w.taken()
	if len(taken) != len(w.told) {
		t.Errorf("of %v: %v are taken, want %v", w.l.Config(), taken, w.told)
	}
	for a, c := range w.told {
		if k, ok := taken[a]; !ok || k != c {
			t.Errorf("of %v: %d of class %d was told, and is taken: %t", w.l.Config(), a, c, ok)
		}
	}
	w.does(t, func(v *view.View) {
		for a := range w.told {
			pages.Return(v, w.l, a)
		}
	})
	first := fresh(w.l).lays()
	for a, x := range w.words {
		if paged(w.l, a) && a >= w.l.Kind(0) && x != first[a] {
			t.Errorf("of %v: all is given back, and the word %d is %d", w.l.Config(), a, x)
		}
	}
}

// key tells what two workers have as a text, of which there is one each. Words of stacks behind what is kept do not matter.
func (w two) key() string {
	var b strings.Builder
	add := func(x int) { b.WriteString(strconv.Itoa(x) + " ") }
	for a, x := range w.words {
		if paged(w.l, a) {
			add(x)
		}
	}
	for cpu := range w.l.Config().CPUs + 1 {
		for c := range blocks {
			base := w.l.Bin(c)
			if cpu < w.l.Config().CPUs {
				base = w.l.Cache(cpu, c)
			}
			for i := range w.words[base] + 1 {
				add(w.words[base+i])
			}
		}
	}
	for _, p := range w.purses {
		for c := range blocks {
			b.WriteString("/")
			for _, a := range p.List(c) {
				add(a)
			}
		}
	}
	return b.String()
}

// TestAllSteps goes through all that two workers may come to by steps of Take, Give, Flush and Drain, as far as there are so many, with few blocks.
func TestAllSteps(t *testing.T) {
	for _, x := range []struct {
		config  api.Config
		classes []int
		most    int
	}{
		{api.Config{CPUs: 1, Pages: 1, Private: 1, Batch: 1}, []int{4, 3}, 2000},
		{api.Config{CPUs: 1, Pages: 1, Private: 1, Cache: 1, Bin: 1, Batch: 2}, []int{3}, 2000},
		{api.Config{CPUs: 2, Pages: 2, Private: 1, Cache: 1, Bin: 1, Batch: 2}, []int{4}, 2000},
		{api.Config{CPUs: 2, Pages: 1, Private: 2, Cache: 1, Bin: 0, Batch: 3}, []int{3}, 2000},
		{api.Config{CPUs: 2, Pages: 2, Private: 2, Cache: 0, Bin: 2, Batch: 2}, []int{4}, 2000},
		{api.Config{CPUs: 2, Pages: 2, Private: 1, Cache: 1, Bin: 1, Batch: 8}, []int{4, 3}, 1500},
	} {
		allSteps(t, newTwo(made(t, x.config)), x.classes, x.most)
	}
}

// allSteps goes on from what two workers have to all that they may come to, up to most of them, the nearest ones first.
func allSteps(t *testing.T, first two, classes []int, most int) {
	t.Helper()
	met := map[string]bool{first.key(): true}
	row := []two{first}
	for i := 0; i < len(row) && i < most && !t.Failed(); i++ {
		w := row[i]
		w.once(t, "all steps")
		w.empty(t)
		further := func(step func(n *two)) {
			n := w.copied()
			if step(&n); !met[n.key()] {
				met[n.key()] = true
				row = append(row, n)
			}
		}
		for k := range 2 {
			for _, c := range classes {
				further(func(n *two) { n.takes(t, k, c) })
			}
			for a := range w.l.Words() {
				if _, ok := w.told[a]; ok {
					further(func(n *two) { n.gives(t, k, a) })
				}
			}
			further(func(n *two) { n.flushes(t, k) })
		}
		further(func(n *two) { n.drains(t) })
	}
}

// TestRows makes many steps of two workers that go from CPU to CPU, with made configurations, and holds all blocks against each other behind each.
func TestRows(t *testing.T) {
	for seed := range 80 {
		next := made64(seed)
		w := newTwo(made(t, api.Config{CPUs: 1 + next(8), Pages: 1 + next(12), Private: 1 + next(8), Cache: next(9), Bin: next(17), Batch: 1 + next(8)}))
		classes := []int{next(5), next(5), 3, 4}
		for step := range 150 {
			w.steps(t, next, classes, step)
			if w.once(t, "a row of steps"); t.Failed() {
				t.Fatalf("behind step %d of the row %d", step, seed)
			}
			if step%15 == 0 {
				w.empty(t)
			}
		}
		w.empty(t)
	}
}

// steps makes one step. In the first half of each hundred more is taken, and more is given back in the second one.
func (w *two) steps(t *testing.T, next func(n int) int, classes []int, step int) {
	t.Helper()
	i := next(2)
	take := 70
	if step%100 >= 50 {
		take = 25
	}
	switch k := next(100); {
	case k < 3:
		w.drains(t)
	case k < 6:
		w.flushes(t, i)
	case k < 15:
		w.cpus[i] = next(w.l.Config().CPUs)
	case k < 15+take || len(w.told) == 0:
		w.takes(t, i, classes[next(len(classes))])
	default:
		var all []int
		for a := range w.told {
			all = append(all, a)
		}
		slices.Sort(all)
		w.gives(t, i, all[next(len(all))])
	}
}

// TestEmpty takes as much as there is, by two workers, gives all of it back to the other one each, flushes, and drains: no page is used.
func TestEmpty(t *testing.T) {
	configs(t, func(i int, l layout.Layout) {
		if i%3 > 0 {
			return
		}
		w := newTwo(l)
		c := i % 5
		var by [2][]int
		for k := range 40 {
			was := w.copied().told
			w.takes(t, k%2, c)
			for a := range w.told {
				if _, ok := was[a]; !ok {
					by[k%2] = append(by[k%2], a)
				}
			}
		}
		w.empty(t)
		for k := range 2 {
			for _, a := range by[k] {
				w.gives(t, 1-k, a)
			}
		}
		w.once(t, "all given back")
		w.empty(t)
	})
}

// What no calls lead to

// TestNoLayout asks of the zero layout, which has no CPUs, stacks, or bins: nothing is needed, and nothing is done.
func TestNoLayout(t *testing.T) {
	var l layout.Layout
	b := bag{{1}, nil, {5, 6}}
	for _, x := range append([]int{0, 1, 2, 3, 4, 5}, beyond...) {
		refused(t, l, x, 0, b)
		refused(t, l, 0, x, b)
		refused(t, l, x, x, b)
	}
	blind(t, "the zero layout", func(v *view.View) {
		front.Drain(v, l)
		if got := front.Kept(v, l); len(got) > 0 {
			t.Errorf("Kept is %v", got)
		}
		bag{}.holds(t, "Flush", front.Flush(v, l, b.purse()))
	})
}

// TestEnds has stacks and bins whose counts may not be, and things that are no blocks: each call ends, writes no words but those of pages, stacks and bins, and what is no block's goes to no page.
func TestEnds(t *testing.T) {
	l := made(t, api.Config{CPUs: 2, Pages: 2, Private: 2, Cache: 2, Bin: 3, Batch: 4})
	odd := append([]int{0, 1, 2, 3, 4, l.User(), l.User() + 8, l.Words()}, beyond...)
	for _, n := range odd {
		for _, x := range odd {
			words := fresh(l).lays()
			for a := range words {
				if shelved(l, a) {
					words[a] = x
				}
			}
			for c := range 5 {
				words[l.Cache(0, c)], words[l.Cache(1, c)], words[l.Bin(c)] = n, n, n
			}
			out, _, e := view.Do(words, func(v *view.View) {
				var p purse.Purse
				front.Kept(v, l)
				for c := range 5 {
					for k := range 4 {
						_, p, _ = front.Take(v, l, k%2, p, c)
						p = front.Give(v, l, k%2, p, c, x)
					}
				}
				front.Flush(v, l, p)
				front.Drain(v, l)
				if got := front.Kept(v, l); len(got) > 0 {
					t.Errorf("behind Drain %v are kept", got)
				}
			})
			if e != api.OK {
				t.Fatalf("error %d", e)
			}
			for a := range out {
				if !paged(l, a) && !shelved(l, a) && out[a] != words[a] {
					t.Errorf("the word %d is %d", a, out[a])
				}
			}
		}
	}
}

// dead holds a view that reads 0 of all, and writes nothing, against what is told by it: nothing is kept, and all pages are free.
func dead(t *testing.T, what string, v *view.View) {
	t.Helper()
	l := made(t, api.Config{CPUs: 1, Pages: 2, Private: 1, Cache: 1, Bin: 1, Batch: 2})
	for range 2 {
		if a, p, ok := front.Take(v, l, 0, purse.Purse{}, 3); a != l.User() || !ok || len(p.All()) > 0 {
			t.Errorf("%s: Take is %d, %t, with %v", what, a, ok, p.All())
		}
		if a, _, ok := front.Take(v, l, 1, purse.Purse{}, 3); a != 0 || ok {
			t.Errorf("%s: Take on no CPU is %d, %t", what, a, ok)
		}
		p := front.Give(v, l, 0, bag{}.with(3, []int{8}).purse(), 3, 9)
		bag{}.with(3, []int{9}).holds(t, what, p)
		bag{}.holds(t, what, front.Flush(v, l, p))
		front.Drain(v, l)
		if got := front.Kept(v, l); len(got) > 0 {
			t.Errorf("%s: Kept is %v", what, got)
		}
	}
}

// TestNoView asks by no view, by one whose run ended where it needed a word, and by one whose run is over.
func TestNoView(t *testing.T) {
	dead(t, "nil", nil)
	dead(t, "a view that nothing made", &view.View{})
	l := made(t, api.Config{CPUs: 1, Pages: 2, Private: 1, Cache: 1, Bin: 1, Batch: 2})
	var kept *view.View
	keep := func(v *view.View) {
		kept = v
		front.Take(v, l, 0, purse.Purse{}, 1)
	}
	if need, wrote := view.Run(nil, keep); need != l.Cache(0, 1) || len(wrote) != 0 {
		t.Errorf("needs %d, wrote %v", need, wrote)
	}
	dead(t, "one that needed a word", kept)
	if _, _, e := view.Do(fresh(l).lays(), keep); e != api.OK {
		t.Errorf("error %d", e)
	}
	dead(t, "one that is done", kept)
}

// The chapter's example.
func TestExample(t *testing.T) {
	l := made(t, api.Config{CPUs: 1, Pages: 4, Private: 2, Batch: 3})
	_, _, e := view.Do(make([]int, l.Words()), func(v *view.View) {
		a, p, ok := front.Take(v, l, 0, purse.Purse{}, 0)
		if a != l.Addr(0) || !ok {
			t.Errorf("Take is %d, %t", a, ok)
		}
		bag{}.with(0, []int{a + 1, a + 2}).holds(t, "the example", p)
	})
	if e != api.OK {
		t.Errorf("error %d", e)
	}
}
