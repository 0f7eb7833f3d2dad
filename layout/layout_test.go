package layout_test

import (
	"fmt"
	"math"
	"testing"

	"assart/api"
	"assart/layout"
)

// small is the configuration of the chapter's example.
var small = api.Config{Workers: 1, CPUs: 1, Pages: 1, Stripes: 1, Tries: 0, Wait: 0, Clock: 9, Private: 1, Cache: 0, Bin: 0, Batch: 1}

// middle has nothing at an end of what may be.
var middle = api.Config{Workers: 3, CPUs: 2, Pages: 10, Stripes: 7, Tries: 4, Wait: 5, Clock: 1000, Private: 3, Cache: 2, Bin: 5, Batch: 4}

// most has all at the greatest that may be.
var most = api.Config{Workers: 64, CPUs: 8, Pages: 256, Stripes: 64, Tries: 16, Wait: 64, Clock: 1 << 40, Private: 8, Cache: 8, Bin: 16, Batch: 8}

// field is one field of a configuration, and the ends of what it may be.
type field struct {
	name        string
	least, most int
	at          func(c *api.Config) *int
}

var fields = []field{
	{"Workers", 1, 64, func(c *api.Config) *int { return &c.Workers }},
	{"CPUs", 1, 8, func(c *api.Config) *int { return &c.CPUs }},
	{"Pages", 1, 256, func(c *api.Config) *int { return &c.Pages }},
	{"Stripes", 1, 64, func(c *api.Config) *int { return &c.Stripes }},
	{"Tries", 0, 16, func(c *api.Config) *int { return &c.Tries }},
	{"Wait", 0, 64, func(c *api.Config) *int { return &c.Wait }},
	{"Clock", 1, 1 << 40, func(c *api.Config) *int { return &c.Clock }},
	{"Private", 1, 8, func(c *api.Config) *int { return &c.Private }},
	{"Cache", 0, 8, func(c *api.Config) *int { return &c.Cache }},
	{"Bin", 0, 16, func(c *api.Config) *int { return &c.Bin }},
	{"Batch", 1, 8, func(c *api.Config) *int { return &c.Batch }},
}

// blocks is how many blocks of each class a page has.
var blocks = []int{32, 16, 8, 4, 2}

// beyond are numbers that no chunk, page, class, list, CPU or word has.
var beyond = []int{math.MinInt, math.MinInt + 1, math.MinInt32, -1 << 20, -128, -32, -5, -2, -1, 1 << 20, 1 << 31, 1 << 58, 1 << 59, 1 << 61, 1 << 62, math.MaxInt - 1, math.MaxInt}

// with tells a configuration of which one field is x.
func with(c api.Config, f field, x int) api.Config {
	*f.at(&c) = x
	return c
}

// made tells a configuration's layout.
func made(t *testing.T, c api.Config) layout.Layout {
	t.Helper()
	l, e := layout.Of(c)
	if e != api.OK {
		t.Fatalf("Of(%+v): error %d", c, e)
	}
	return l
}

// named is a word, and the name by which it is told.
type named struct {
	name string
	got  int
}

// walk tells the words that have names, but for the arena's first three, in the order in which the chapter says that they stand, up to the last one of Live; Cache and Bin words behind the first one are told from the first one on.
func walk(l layout.Layout, c api.Config) []named {
	var out []named
	tell := func(got int, parts ...any) { out = append(out, named{fmt.Sprint(parts...), got}) }
	for k := range c.Stripes {
		// The lock k is that of the first word that k is left of.
		tell(l.Lock(k), "lock ", k)
	}
	for k := range (c.Pages + 3) / 4 {
		tell(l.Table(k), "Table ", k)
	}
	ofPages := []struct {
		name string
		word func(int) int
	}{{"Kind ", l.Kind}, {"Count ", l.Count}, {"Bits ", l.Bits}, {"Next ", l.Next}, {"Prev ", l.Prev}}
	for _, x := range ofPages {
		for p := range c.Pages {
			tell(x.word(p), x.name, p)
		}
	}
	for k, n := range blocks {
		for f := 1; f <= n; f++ {
			tell(l.Head(k, f), "Head ", k, " ", f)
		}
	}
	for cpu := range c.CPUs {
		for k := range blocks {
			for i := range c.Cache + 1 {
				tell(l.Cache(cpu, k)+i, "Cache ", cpu, " ", k, " and ", i)
			}
		}
	}
	for k := range blocks {
		for i := range c.Bin + 1 {
			tell(l.Bin(k)+i, "Bin ", k, " and ", i)
		}
	}
	for i := range 32 * c.Pages {
		tell(l.Live(l.User()+i), "Live of user word ", i)
	}
	return out
}

// several calls f with configurations of many kinds: all numbers of pages, and of all else that moves a word both ends and something between.
func several(f func(c api.Config)) {
	for _, c := range []api.Config{small, middle, most} {
		f(c)
	}
	for pages := 1; pages <= 256; pages++ {
		c := middle
		c.Pages = pages
		f(c)
	}
	for _, pages := range []int{1, 3, 4, 5, 64} {
		for _, cpus := range []int{1, 2, 8} {
			for _, stripes := range []int{1, 5, 64} {
				for _, cache := range []int{0, 1, 8} {
					for _, bin := range []int{0, 3, 16} {
						c := middle
						c.Pages, c.CPUs, c.Stripes, c.Cache, c.Bin = pages, cpus, stripes, cache, bin
						f(c)
					}
				}
			}
		}
	}
}

// P2.1

func TestCheckOK(t *testing.T) {
	for _, c := range []api.Config{small, middle, most} {
		if e := layout.Check(c); e != api.OK {
			t.Errorf("Check(%+v): %d", c, e)
		}
		if _, e := layout.Of(c); e != api.OK {
			t.Errorf("Of(%+v): %d", c, e)
		}
	}
}

func TestCheckEachField(t *testing.T) {
	for _, base := range []api.Config{small, middle, most} {
		for _, f := range fields {
			for _, x := range []int{f.least, f.least + 1, (f.least + f.most) / 2, f.most - 1, f.most} {
				c := with(base, f, x)
				if e := layout.Check(c); e != api.OK {
					t.Errorf("Check, %s %d: error %d", f.name, x, e)
				}
				l, e := layout.Of(c)
				if e != api.OK || l.Config() != c || l.Words() == 0 {
					t.Errorf("Of, %s %d: error %d, %+v, %d words", f.name, x, e, l.Config(), l.Words())
				}
			}
			for _, x := range []int{math.MinInt, -1 << 40, -2, -1, f.least - 1, f.most + 1, f.most + 2, 2*f.most + 1, 1 << 41, math.MaxInt} {
				if x >= f.least && x <= f.most {
					continue
				}
				c := with(base, f, x)
				if e := layout.Check(c); e != api.ErrArg {
					t.Errorf("Check, %s %d: error %d", f.name, x, e)
				}
				if l, e := layout.Of(c); e != api.ErrArg || l != (layout.Layout{}) {
					t.Errorf("Of, %s %d: error %d, %+v", f.name, x, e, l)
				}
			}
		}
	}
}

func TestCheckSeveralFields(t *testing.T) {
	if e := layout.Check(api.Config{}); e != api.ErrArg {
		t.Errorf("Check of nothing: %d", e)
	}
	for i, f := range fields {
		for _, g := range fields[i+1:] {
			for _, x := range []int{f.least - 1, f.most + 1} {
				for _, y := range []int{g.least - 1, g.most + 1} {
					c := with(with(middle, f, x), g, y)
					if e := layout.Check(c); e != api.ErrArg {
						t.Errorf("Check, %s %d and %s %d: %d", f.name, x, g.name, y, e)
					}
				}
			}
			c := with(with(middle, f, f.least), g, g.most)
			if e := layout.Check(c); e != api.OK {
				t.Errorf("Check, %s at its least and %s at its most: %d", f.name, g.name, e)
			}
		}
	}
}

// P2.2

func TestExample(t *testing.T) {
	l := made(t, small)
	for _, x := range []struct {
		name      string
		got, want int
	}{
		{"Clock", layout.Clock, 1}, {"Flag", layout.Flag, 2}, {"Locks", layout.Locks, 3},
		{"Lock(0)", l.Lock(0), 3}, {"Lock(128)", l.Lock(128), 3}, {"Lock(159)", l.Lock(159), 3},
		{"Chunks", l.Chunks(), 1}, {"Table(0)", l.Table(0), 4},
		{"Kind(0)", l.Kind(0), 5}, {"Count(0)", l.Count(0), 6}, {"Bits(0)", l.Bits(0), 7}, {"Next(0)", l.Next(0), 8}, {"Prev(0)", l.Prev(0), 9},
		{"Head(0, 1)", l.Head(0, 1), 10}, {"Head(0, 32)", l.Head(0, 32), 41}, {"Head(1, 1)", l.Head(1, 1), 42}, {"Head(4, 2)", l.Head(4, 2), 71},
		{"Cache(0, 0)", l.Cache(0, 0), 72}, {"Cache(0, 4)", l.Cache(0, 4), 76},
		{"Bin(0)", l.Bin(0), 77}, {"Bin(4)", l.Bin(4), 81},
		{"Live(128)", l.Live(128), 82}, {"Live(159)", l.Live(159), 113},
		{"User", l.User(), 128}, {"Addr(0)", l.Addr(0), 128}, {"Words", l.Words(), 160},
	} {
		if x.got != x.want {
			t.Errorf("%s: %d, want %d", x.name, x.got, x.want)
		}
	}
}

func TestMiddle(t *testing.T) {
	// 7 locks from 3, 3 chunks from 10, 10 pages five times from 13, 62 lists from 63, 2 CPUs' 5 times 3 words from 125, 5 times 6 words from 155, 320 words from 185 to 504; 512 is the next multiple of 128.
	l := made(t, middle)
	for _, x := range []struct {
		name      string
		got, want int
	}{
		{"Lock(0)", l.Lock(0), 3}, {"Lock(6)", l.Lock(6), 9}, {"Lock(7)", l.Lock(7), 3}, {"Lock(831)", l.Lock(831), 8},
		{"Chunks", l.Chunks(), 3}, {"Table(0)", l.Table(0), 10}, {"Table(2)", l.Table(2), 12},
		{"Kind(0)", l.Kind(0), 13}, {"Kind(9)", l.Kind(9), 22}, {"Count(0)", l.Count(0), 23}, {"Bits(0)", l.Bits(0), 33}, {"Next(0)", l.Next(0), 43}, {"Prev(9)", l.Prev(9), 62},
		{"Head(0, 1)", l.Head(0, 1), 63}, {"Head(2, 8)", l.Head(2, 8), 118}, {"Head(4, 2)", l.Head(4, 2), 124},
		{"Cache(0, 0)", l.Cache(0, 0), 125}, {"Cache(0, 1)", l.Cache(0, 1), 128}, {"Cache(1, 0)", l.Cache(1, 0), 140}, {"Cache(1, 4)", l.Cache(1, 4), 152},
		{"Bin(0)", l.Bin(0), 155}, {"Bin(4)", l.Bin(4), 179},
		{"Live(512)", l.Live(512), 185}, {"Live(831)", l.Live(831), 504},
		{"User", l.User(), 512}, {"Addr(9)", l.Addr(9), 800}, {"Words", l.Words(), 832},
	} {
		if x.got != x.want {
			t.Errorf("%s: %d, want %d", x.name, x.got, x.want)
		}
	}
}

func TestOrder(t *testing.T) {
	several(func(c api.Config) {
		l := made(t, c)
		next := 3
		for _, w := range walk(l, c) {
			if w.got != next {
				t.Fatalf("%+v: %s stands at %d, want %d", c, w.name, w.got, next)
			}
			next++
		}
		user := next
		for user%128 != 0 {
			user++
		}
		if l.User() != user || l.Words() != user+32*c.Pages {
			t.Fatalf("%+v: user words from %d to %d, want %d to %d", c, l.User(), l.Words(), user, user+32*c.Pages)
		}
		for p := range c.Pages {
			if l.Addr(p) != user+32*p {
				t.Fatalf("%+v: Addr(%d): %d, want %d", c, p, l.Addr(p), user+32*p)
			}
		}
	})
}

// TestNoGap holds to the words "or from there, if it is one": Live may end at a multiple of 128, and there is no word between then.
func TestNoGap(t *testing.T) {
	found := 0
	several(func(c api.Config) {
		l := made(t, c)
		if last := l.Live(l.Words() - 1); (last+1)%128 == 0 {
			found++
			if l.User() != last+1 {
				t.Errorf("%+v: Live ends at %d, user words begin at %d", c, last, l.User())
			}
		}
	})
	if found == 0 {
		t.Error("no layout without a gap was looked at")
	}
}

func TestConfig(t *testing.T) {
	several(func(c api.Config) {
		if got := made(t, c).Config(); got != c {
			t.Errorf("Config: %+v, want %+v", got, c)
		}
	})
}

// TestNotMoved holds that what is not a length of anything in the arena moves nothing there.
func TestNotMoved(t *testing.T) {
	old := walk(made(t, middle), middle)
	for _, f := range fields {
		switch f.name {
		case "Workers", "Tries", "Wait", "Clock", "Private", "Batch":
			for _, x := range []int{f.least, f.most} {
				c := with(middle, f, x)
				l := made(t, c)
				for i, w := range walk(l, c) {
					if w != old[i] {
						t.Errorf("%s %d: %s stands at %d, was at %d", f.name, x, w.name, w.got, old[i].got)
					}
				}
				if l.User() != 512 || l.Words() != 832 {
					t.Errorf("%s %d: user words from %d to %d", f.name, x, l.User(), l.Words())
				}
			}
		}
	}
}

func TestChunks(t *testing.T) {
	for pages := 1; pages <= 256; pages++ {
		c := small
		c.Pages = pages
		l := made(t, c)
		n := 0
		for l.Table(n) != 0 {
			n++
		}
		if l.Chunks() != (pages+3)/4 || n != l.Chunks() {
			t.Errorf("%d pages: %d chunks, of %d a word is told", pages, l.Chunks(), n)
		}
		if l.Kind(0) != l.Table(n-1)+1 {
			t.Errorf("%d pages: Kind follows at %d on the last Table at %d", pages, l.Kind(0), l.Table(n-1))
		}
	}
}

func TestLock(t *testing.T) {
	for stripes := 1; stripes <= 64; stripes++ {
		c := middle
		c.Stripes = stripes
		l := made(t, c)
		for a := range l.Words() {
			if got := l.Lock(a); got != 3+a%stripes {
				t.Fatalf("%d stripes: Lock(%d): %d", stripes, a, got)
			}
		}
		for _, a := range append([]int{l.Words(), l.Words() + 1}, beyond...) {
			if got := l.Lock(a); got != 0 {
				t.Errorf("%d stripes: Lock(%d): %d, want 0", stripes, a, got)
			}
		}
	}
}

func TestNoneOfOne(t *testing.T) {
	several(func(c api.Config) {
		l := made(t, c)
		chunks := (c.Pages + 3) / 4
		for _, x := range []struct {
			name string
			word func(int) int
			n    int
		}{
			{"Table", l.Table, chunks}, {"Kind", l.Kind, c.Pages}, {"Count", l.Count, c.Pages}, {"Bits", l.Bits, c.Pages},
			{"Next", l.Next, c.Pages}, {"Prev", l.Prev, c.Pages}, {"Addr", l.Addr, c.Pages}, {"Bin", l.Bin, 5},
		} {
			for _, i := range []int{0, x.n - 1} {
				if x.word(i) == 0 {
					t.Errorf("%+v: %s(%d) is 0", c, x.name, i)
				}
			}
			for _, i := range append([]int{x.n, x.n + 1, 2 * x.n, 32 * x.n}, beyond...) {
				if got := x.word(i); got != 0 {
					t.Errorf("%+v: %s(%d): %d, want 0", c, x.name, i, got)
				}
			}
		}
	})
}

func TestNoneOfTwo(t *testing.T) {
	several(func(c api.Config) {
		l := made(t, c)
		for k, n := range blocks {
			for _, f := range append([]int{0, n + 1, n + 2, 33, 62, 63}, beyond...) {
				if f == 0 || f > n || f < 0 {
					if got := l.Head(k, f); got != 0 {
						t.Errorf("%+v: Head(%d, %d): %d, want 0", c, k, f, got)
					}
				}
			}
		}
		for _, k := range append([]int{5, 6, 63, 64, 65}, beyond...) {
			for _, i := range append([]int{0, 1, 2, 32}, beyond...) {
				if got := l.Head(k, i); got != 0 {
					t.Errorf("%+v: Head(%d, %d): %d, want 0", c, k, i, got)
				}
				if got := l.Cache(i, k); got != 0 {
					t.Errorf("%+v: Cache(%d, %d): %d, want 0", c, i, k, got)
				}
			}
		}
		for _, cpu := range append([]int{c.CPUs, c.CPUs + 1, 8, 9}, beyond...) {
			if cpu >= 0 && cpu < c.CPUs {
				continue
			}
			for k := range blocks {
				if got := l.Cache(cpu, k); got != 0 {
					t.Errorf("%+v: Cache(%d, %d): %d, want 0", c, cpu, k, got)
				}
			}
		}
	})
}

func TestNoUserWord(t *testing.T) {
	several(func(c api.Config) {
		l := made(t, c)
		none := append([]int{l.Words(), l.Words() + 1, l.Words() + 31, l.Words() + 32}, beyond...)
		for a := range l.User() {
			none = append(none, a)
		}
		for _, a := range none {
			if got := l.Live(a); got != 0 {
				t.Errorf("%+v: Live(%d): %d, want 0", c, a, got)
			}
			if p, i, ok := l.Place(a); p != 0 || i != 0 || ok {
				t.Errorf("%+v: Place(%d): %d, %d, %v", c, a, p, i, ok)
			}
		}
	})
}

func TestZeroLayout(t *testing.T) {
	var l layout.Layout
	if l.Config() != (api.Config{}) || l.Words() != 0 || l.Chunks() != 0 || l.User() != 0 {
		t.Errorf("the zero Layout: %+v, %d words, %d chunks, user words from %d", l.Config(), l.Words(), l.Chunks(), l.User())
	}
	near := append([]int{0, 1, 2, 3, 4, 5, 31, 32, 63, 64, 127, 128, 159, 160}, beyond...)
	ofOne := []func(int) int{l.Lock, l.Table, l.Kind, l.Count, l.Bits, l.Next, l.Prev, l.Bin, l.Live, l.Addr}
	for _, i := range near {
		for k, f := range ofOne {
			if got := f(i); got != 0 {
				t.Errorf("the zero Layout, call %d of one: of %d %d is told", k, i, got)
			}
		}
		for _, j := range near {
			if got := l.Head(i, j); got != 0 {
				t.Errorf("the zero Layout: Head(%d, %d): %d", i, j, got)
			}
			if got := l.Cache(i, j); got != 0 {
				t.Errorf("the zero Layout: Cache(%d, %d): %d", i, j, got)
			}
		}
		if p, w, ok := l.Place(i); p != 0 || w != 0 || ok {
			t.Errorf("the zero Layout: Place(%d): %d, %d, %v", i, p, w, ok)
		}
	}
}

// P2.3

func TestApart(t *testing.T) {
	several(func(c api.Config) {
		l := made(t, c)
		names := make([]string, l.Words())
		names[0], names[layout.Clock], names[layout.Flag] = "nobody's", "clock", "flag"
		all := walk(l, c)
		for p := range c.Pages {
			for i := range 32 {
				all = append(all, named{fmt.Sprint("page ", p, " word ", i), l.Addr(p) + i})
			}
		}
		for _, w := range all {
			if w.got < 0 || w.got >= l.Words() {
				t.Fatalf("%+v: %s stands at %d of %d words", c, w.name, w.got, l.Words())
			}
			if names[w.got] != "" {
				t.Fatalf("%+v: %s and %s both stand at %d", c, names[w.got], w.name, w.got)
			}
			names[w.got] = w.name
		}
	})
}

// P2.4

func TestAligned(t *testing.T) {
	several(func(c api.Config) {
		l := made(t, c)
		for p := range c.Pages {
			if a := l.Addr(p); a%32 != 0 || p%4 == 0 && a%128 != 0 {
				t.Fatalf("%+v: page %d begins at %d", c, p, a)
			}
		}
	})
}

func TestPlaceLeadsBack(t *testing.T) {
	several(func(c api.Config) {
		l := made(t, c)
		a := l.User()
		for page := range c.Pages {
			for word := range 32 {
				p, i, ok := l.Place(a)
				if p != page || i != word || !ok || l.Addr(p)+i != a {
					t.Fatalf("%+v: Place(%d): %d, %d, %v, want %d, %d", c, a, p, i, ok, page, word)
				}
				a++
			}
		}
		if a != l.Words() {
			t.Fatalf("%+v: places are told up to %d, there are %d words", c, a, l.Words())
		}
	})
}

// What a layout answers hangs on its configuration alone, and a layout that is handed on is the same one.
func TestSameAgain(t *testing.T) {
	several(func(c api.Config) {
		l, m := made(t, c), made(t, c)
		handed := func(l layout.Layout) layout.Layout { return l }(l)
		if l != m || handed != l {
			t.Errorf("%+v: two layouts of it are unlike", c)
		}
	})
}
