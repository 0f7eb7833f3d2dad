package tally_test

import (
	"math"
	"math/big"
	"slices"
	"strings"
	"testing"

	"assart/api"
	"assart/block"
	"assart/chunk"
	"assart/extent"
	"assart/front"
	"assart/layout"
	"assart/live"
	"assart/pages"
	"assart/purse"
	"assart/tally"
	"assart/view"
)

// most is how many words may be asked for.
const most = 1 << 20

// beyond are numbers that no page has; some of them wrap round to small ones when something is added, or when they are multiplied.
var beyond = []int{math.MinInt, math.MinInt + 1, math.MinInt32, -most, -257, -128, -33, -32, -4, -3, -2, -1, 257, 1 << 20, 1 << 31, 1 << 32, 1<<32 + 1, 1 << 58, 1 << 59, 1 << 62, math.MaxInt - 128, math.MaxInt - 1, math.MaxInt}

// says are Live words, by how many words were asked for by them; -1, if by that no block is live.
var says = map[int]int{
	0: -1, -1: -1, -2: -1, math.MinInt: -1, math.MinInt + 1: -1, -most: -1, most + 2: -1, most + 3: -1, 1 << 32: -1, 1<<32 + 1: -1, math.MaxInt: -1,
	1: 0, 2: 1, 3: 2, 4: 3, 33: 32, most: most - 1, most + 1: most,
}

// sizes are how many words each class's blocks have.
var sizes = []int{1, 2, 4, 8, 16}

// made tells the layout of a configuration, of which what does not matter here may be left out.
func made(t *testing.T, c api.Config) layout.Layout {
	t.Helper()
	c.Workers, c.Stripes, c.Clock = 2, 3, 9
	l, e := layout.Of(c)
	if e != api.OK {
		t.Fatalf("a layout of %v: error %d", c, e)
	}
	return l
}

// two tells the layout of so many pages, and two CPUs, with room for some blocks everywhere.
func two(t *testing.T, pages int) layout.Layout {
	t.Helper()
	return made(t, api.Config{CPUs: 2, Pages: pages, Private: 2, Cache: 2, Bin: 2, Batch: 2})
}

// ours tells whether the word at a is one of those that say how much there is: of tables, Kind, Count, Bits and Live.
func ours(l layout.Layout, a int) bool {
	first := l.Live(l.User())
	return a >= l.Table(0) && a < l.Next(0) || a >= first && a < first+32*l.Config().Pages
}

// fresh tells the words of a layout of which nothing was ever taken. Those that are not this layer's business are none that may be read as something else.
func fresh(l layout.Layout) []int {
	words := make([]int, l.Words())
	for a := range words {
		if !ours(l, a) {
			words[a] = 70000 + a
		}
	}
	return words
}

// looks does a program that needs those words alone, and writes nothing.
func looks(t *testing.T, what string, l layout.Layout, words []int, prog func(v *view.View)) {
	t.Helper()
	var pairs []api.Pair
	for a, x := range words {
		if ours(l, a) {
			pairs = append(pairs, api.Pair{Addr: a, Val: x})
		}
	}
	if need, wrote := view.Run(pairs, prog); need != -1 || len(wrote) != 0 {
		t.Errorf("%s, of %v: needs %d, wrote %v", what, l.Config(), need, wrote)
	}
}

// blind does a program that knows nothing, and holds it against needing and writing nothing.
func blind(t *testing.T, what string, prog func(v *view.View)) {
	t.Helper()
	if need, wrote := view.Run(nil, prog); need != -1 || len(wrote) != 0 {
		t.Errorf("%s: needs %d, wrote %v", what, need, wrote)
	}
}

// with tells the words with one of them being x.
func with(words []int, a, x int) []int {
	words = slices.Clone(words)
	words[a] = x
	return words
}

// has is what a page has, by a plain look at its words.
func has(l layout.Layout, words []int, p int) api.Stats {
	if p < 0 || p >= l.Config().Pages {
		return api.Stats{}
	}
	var s api.Stats
	if words[l.Table(0)+p/4] == 1 {
		s.Mapped = 1
	}
	k := words[l.Kind(0)+p]
	if k != 0 {
		s.Used = 1
	}
	taken := func(i, n int) {
		said := words[l.Live(l.User())+32*p+i]
		if said < 1 || said > most+1 {
			s.Kept += n
			return
		}
		s.Blocks++
		s.Asked += said - 1
		s.Words += n
	}
	if k == 6 {
		taken(0, 32*words[l.Count(0)+p])
	}
	if k >= 1 && k <= 5 {
		n := sizes[k-1]
		for i := 0; i < 32; i += n {
			if uint32(words[l.Bits(0)+p])>>(i/n)&1 == 1 {
				taken(i, n)
			} else {
				s.Open += n
			}
		}
	}
	return s
}

// both are each number of two together.
func both(a, b api.Stats) api.Stats {
	a.Blocks += b.Blocks
	a.Asked += b.Asked
	a.Words += b.Words
	a.Kept += b.Kept
	a.Open += b.Open
	a.Mapped += b.Mapped
	a.Used += b.Used
	return a
}

// counted holds Page of all pages, and of such as are none, and Count against plain looks: other words are not needed, and none is written.
func counted(t *testing.T, what string, l layout.Layout, words []int) {
	t.Helper()
	looks(t, what, l, words, func(v *view.View) {
		var all api.Stats
		for p := -3; p < l.Config().Pages+5; p++ {
			want := has(l, words, p)
			all = both(all, want)
			if s := tally.Page(v, l, p); s != want {
				t.Errorf("%s, of %v: Page(%d) is %v, want %v", what, l.Config(), p, s, want)
			}
		}
		if s := tally.Count(v, l); s != all {
			t.Errorf("%s, of %v: Count is %v, want %v", what, l.Config(), s, all)
		}
	})
}

// told tells the words of pages that a text tells of, a letter each: . of a page that is free, H of a run's first page, - of a further one, 0 to 4 of one with blocks of that class, of which each second one is taken, and A to E likewise, with all taken. All are mapped.
func told(t *testing.T, text string) (layout.Layout, []int) {
	t.Helper()
	l := two(t, len(text))
	words := fresh(l)
	for p := range len(text) {
		words[l.Table(p/4)] = 1
		class, full := int(text[p]-'0'), int(text[p]-'A')
		switch {
		case text[p] == 'H':
			words[l.Kind(p)] = 6
			words[l.Count(p)] = 1 + len(text[p+1:]) - len(strings.TrimLeft(text[p+1:], "-"))
		case text[p] == '-':
			words[l.Kind(p)] = 7
		case class >= 0 && class < 5:
			blocks := 32 / sizes[class]
			words[l.Kind(p)], words[l.Count(p)], words[l.Bits(p)] = class+1, blocks/2, 0xAAAAAAAA&(1<<blocks-1)
		case full >= 0 && full < 5:
			words[l.Kind(p)], words[l.Bits(p)] = full+1, 1<<(32/sizes[full])-1
		}
	}
	return l, words
}

// texts are pages of all kinds.
var texts = []string{".", "0", "1", "2", "3", "4", "A", "B", "C", "D", "E", "H", "H-", "HH", "H--.", "4H---", "H-H-H", "AB.H-0", "E4.HH-DC", "H-------3", ".....", "01234ABCDEH--..HH-", ".H-.....H----A.0"}

// made64 tells a function that makes numbers below n, the same ones of the same seed.
func made64(seed int) func(n int) int {
	x := uint64(seed)*2862933555777941757 + 3037000493
	return func(n int) int {
		x ^= x << 13
		x ^= x >> 7
		x ^= x << 17
		return int(x >> 20 % uint64(n))
	}
}

// P17.1

// TestPageOf holds Page against numbers written out: of each kind of page, with nothing live, and with the first block live of which that is asked.
func TestPageOf(t *testing.T) {
	kept := func(n, open int) api.Stats { return api.Stats{Kept: n, Open: open, Mapped: 1, Used: 1} }
	have := func(asked, n, kept, open int) api.Stats {
		return api.Stats{Blocks: 1, Asked: asked, Words: n, Kept: kept, Open: open, Mapped: 1, Used: 1}
	}
	for _, c := range []struct {
		text       string
		p, at, ask int
		none, one  api.Stats
	}{
		{".", 0, 0, 1, api.Stats{Mapped: 1}, api.Stats{Mapped: 1}},
		{"0", 0, 1, 1, kept(16, 16), have(1, 1, 15, 16)},
		{"1", 0, 2, 0, kept(16, 16), have(0, 2, 14, 16)},
		{"2", 0, 4, 3, kept(16, 16), have(3, 4, 12, 16)},
		{"3", 0, 8, 5, kept(16, 16), have(5, 8, 8, 16)},
		{"4", 0, 16, 16, kept(16, 16), have(16, 16, 0, 16)},
		{"A", 0, 0, 0, kept(32, 0), have(0, 1, 31, 0)},
		{"B", 0, 0, 2, kept(32, 0), have(2, 2, 30, 0)},
		{"C", 0, 28, 1, kept(32, 0), have(1, 4, 28, 0)},
		{"D", 0, 24, 7, kept(32, 0), have(7, 8, 24, 0)},
		{"E", 0, 16, 9, kept(32, 0), have(9, 16, 16, 0)},
		{"H", 0, 0, 17, kept(32, 0), have(17, 32, 0, 0)},
		{"H-", 0, 0, 0, kept(64, 0), have(0, 64, 0, 0)},
		{"H-", 1, 0, 40, api.Stats{Mapped: 1, Used: 1}, api.Stats{Mapped: 1, Used: 1}},
		{".H--", 1, 0, 96, kept(96, 0), have(96, 96, 0, 0)},
		{".H--", 3, 0, 1, api.Stats{Mapped: 1, Used: 1}, api.Stats{Mapped: 1, Used: 1}},
		{"H---H-", 4, 0, 64, kept(64, 0), have(64, 64, 0, 0)},
	} {
		l, words := told(t, c.text)
		look := func(words []int, want api.Stats) {
			looks(t, c.text, l, words, func(v *view.View) {
				if s := tally.Page(v, l, c.p); s != want {
					t.Errorf("%s: Page(%d) is %v, want %v", c.text, c.p, s, want)
				}
			})
		}
		look(words, c.none)
		look(with(words, l.Live(l.Addr(c.p)+c.at), 1+c.ask), c.one)
	}
}

// TestPages holds Page, and Count, against plain looks at pages of all kinds, of whose words some are live: none, each one, every so manieth.
func TestPages(t *testing.T) {
	for _, text := range texts {
		l, words := told(t, text)
		counted(t, text+", none live", l, words)
		for _, step := range []int{1, 2, 3, 4, 5, 16, 32, 33} {
			some := slices.Clone(words)
			for i := 0; i < 32*len(text); i += step {
				some[l.Live(l.User()+i)] = 1 + i
			}
			counted(t, text, l, some)
		}
	}
}

// TestPageOneLive has one word live alone: of a block that is taken, if it is its first one; of no other block.
func TestPageOneLive(t *testing.T) {
	for _, text := range []string{".", "0", "1", "2", "3", "4", "A", "E", "2H-", "H-.B"} {
		l, words := told(t, text)
		for a := l.User(); a < l.Words(); a++ {
			counted(t, text, l, with(words, l.Live(a), 4))
		}
	}
}

// TestPageBits has all words of bits that classes with few blocks may have, and each bit alone, and all but it, of all classes: bits behind a page's blocks are none of theirs.
func TestPageBits(t *testing.T) {
	for c, n := range sizes {
		l, words := told(t, "A")
		words[l.Kind(0)] = c + 1
		for i := 0; i < 32; i += 3 {
			words[l.Live(l.User()+i)] = 2 + i
		}
		look := func(bits int) { counted(t, "bits", l, with(words, l.Bits(0), bits)) }
		for bits := range 1 << min(8, 32/n+1) {
			look(bits)
		}
		for i := range 64 {
			look(1 << i)
			look(^(1 << i))
		}
		for _, bits := range []int{-1, math.MinInt, math.MaxInt, math.MaxUint32, math.MaxUint32 + 1, -1 << (32 / n), 1<<(32/n) - 1} {
			look(bits)
		}
	}
}

// TestPageSays has a block's Live word be all that it may be, and may not be: what does not say how many words were asked for does not let it be live.
func TestPageSays(t *testing.T) {
	for text, n := range map[string]int{"A": 1, "B": 2, "C": 4, "D": 8, "E": 16, "H": 32, "H--": 96} {
		l, words := told(t, text)
		all := max(32, n)
		for said, asked := range says {
			want := api.Stats{Blocks: 1, Asked: asked, Words: n, Kept: all - n, Mapped: 1, Used: 1}
			if asked < 0 {
				want = api.Stats{Kept: all, Mapped: 1, Used: 1}
			}
			looks(t, text, l, with(words, l.Live(l.User()), said), func(v *view.View) {
				if s := tally.Page(v, l, 0); s != want {
					t.Errorf("%s: Page by the word %d is %v, want %v", text, said, s, want)
				}
			})
		}
	}
}

// TestPageRun has runs of all lengths: all is told of the first page, and of the further ones that they are used.
func TestPageRun(t *testing.T) {
	for n := 1; n <= 256; n += 1 + n/9 {
		l, words := told(t, "H"+strings.Repeat("-", n-1))
		for _, said := range []int{0, 1, 32*n + 1} {
			words = with(words, l.Live(l.User()), said)
			want := api.Stats{Kept: 32 * n, Mapped: 1, Used: 1}
			if said > 0 {
				want = api.Stats{Blocks: 1, Asked: said - 1, Words: 32 * n, Mapped: 1, Used: 1}
			}
			looks(t, "a run", l, words, func(v *view.View) {
				for p := range n {
					if s := tally.Page(v, l, p); s != want {
						t.Errorf("of %d pages: Page(%d) is %v, want %v", n, p, s, want)
					}
					want = api.Stats{Mapped: 1, Used: 1}
				}
			})
		}
	}
}

// TestPageRunCount has the Count word of a run's first page say another number than there are further ones: just what it says is told, and of other pages it is not asked.
func TestPageRunCount(t *testing.T) {
	l, words := told(t, "4H--.")
	for _, n := range []int{0, 1, 2, 4, 5, 256, most, 1 << 40} {
		counted(t, "a count", l, with(words, l.Count(1), n))
		counted(t, "a count", l, with(with(words, l.Count(1), n), l.Live(l.Addr(1)), 70))
		for _, p := range []int{0, 2, 3, 4} {
			counted(t, "another page's count", l, with(words, l.Count(p), n))
		}
	}
}

// TestPageMapped has each chunk be mapped alone, and all but it: a page is, if its chunk is, whatever it has.
func TestPageMapped(t *testing.T) {
	for _, text := range texts {
		l, words := told(t, text)
		for k := range l.Chunks() {
			for _, x := range []int{0, 1} {
				some := slices.Clone(words)
				for other := range l.Chunks() {
					some[l.Table(other)] = 1 - x
				}
				some[l.Table(k)] = x
				counted(t, text, l, some)
			}
		}
	}
}

// TestPageTable has Table words that are none: a chunk is mapped by 1 alone.
func TestPageTable(t *testing.T) {
	l, words := told(t, "2.H-E")
	for _, x := range append([]int{2, 3, 4, 33}, beyond...) {
		counted(t, "a table's word", l, with(words, l.Table(0), x))
		counted(t, "a table's word", l, with(words, l.Table(1), x))
	}
}

// TestPageKinds has Kind words that are none: such a page is not free, and has nothing.
func TestPageKinds(t *testing.T) {
	for _, kind := range append([]int{8, 9, 64, -6}, beyond...) {
		l, words := told(t, "AE")
		words[l.Kind(1)], words[l.Count(1)] = kind, 3
		for a := range 64 {
			words[l.Live(l.User()+a)] = 1
		}
		counted(t, "a kind that is none", l, words)
		looks(t, "a kind that is none", l, words, func(v *view.View) {
			if s, want := tally.Page(v, l, 1), (api.Stats{Mapped: 1, Used: 1}); s != want {
				t.Errorf("Page of the kind %d is %v, want %v", kind, s, want)
			}
		})
	}
}

// TestPageNone asks of pages that are none, those that the last chunk leaves out too: no word is needed, and all is 0.
func TestPageNone(t *testing.T) {
	for _, pages := range []int{1, 2, 3, 4, 5, 255, 256} {
		l := two(t, pages)
		none := slices.Clone(beyond)
		for i := range 9 {
			none = append(none, pages+i, -1-i)
		}
		for _, p := range none {
			if p >= 0 && p < pages {
				continue
			}
			blind(t, "no page", func(v *view.View) {
				if s := tally.Page(v, l, p); s != (api.Stats{}) {
					t.Errorf("of %d pages: Page(%d) is %v", pages, p, s)
				}
			})
		}
	}
}

// TestPageFree asks of a free page whose Count, Bits and Live words say something: they are nobody's.
func TestPageFree(t *testing.T) {
	l, words := told(t, "..")
	words[l.Count(1)], words[l.Bits(1)] = 2, 7
	for a := range 32 {
		words[l.Live(l.Addr(1)+a)] = 4
	}
	counted(t, "a free page", l, words)
	counted(t, "a free page that is not mapped", l, with(words, l.Table(0), 0))
}

// TestSum holds Sum against each number by itself, of numbers that are unlike, below 0, and the greatest that there are.
func TestSum(t *testing.T) {
	of := func(f func(i int) int) api.Stats {
		return api.Stats{Blocks: f(0), Asked: f(1), Words: f(2), Kept: f(3), Open: f(4), Mapped: f(5), Used: f(6)}
	}
	several := []api.Stats{
		{}, of(func(i int) int { return 1 << i }), of(func(i int) int { return 1000 * (i + 1) }), of(func(i int) int { return -3 - i }),
		of(func(i int) int { return math.MaxInt / 2 }), of(func(i int) int { return math.MinInt / 2 }), of(func(i int) int { return 1 << 45 }),
	}
	for i := range 7 {
		several = append(several, of(func(j int) int {
			if i == j {
				return 70
			}
			return 0
		}))
	}
	for _, a := range several {
		for _, b := range several {
			if s := tally.Sum(a, b); s != both(a, b) {
				t.Errorf("Sum(%v, %v) is %v, want %v", a, b, s, both(a, b))
			}
		}
	}
	one := api.Stats{Blocks: 1, Asked: 2, Words: 3, Kept: 4, Open: 5, Mapped: 6, Used: 7}
	two := api.Stats{Blocks: 10, Asked: 20, Words: 30, Kept: 40, Open: 50, Mapped: 60, Used: 70}
	if s, want := tally.Sum(one, two), (api.Stats{Blocks: 11, Asked: 22, Words: 33, Kept: 44, Open: 55, Mapped: 66, Used: 77}); s != want {
		t.Errorf("Sum is %v, want %v", s, want)
	}
}

// P17.2

// TestCount holds Count against numbers written out, and Count of the most and the fewest pages against plain looks.
func TestCount(t *testing.T) {
	l, words := told(t, "E4.HH-DC2")
	words = with(with(with(words, l.Live(l.Addr(0)+16), 10), l.Live(l.Addr(4)), 41), l.Live(l.Addr(8)+4), 1)
	words = with(words, l.Table(1), 0)
	want := api.Stats{Blocks: 3, Asked: 9 + 40 + 0, Words: 16 + 64 + 4, Kept: 16 + 16 + 32 + 32 + 32 + 12, Open: 16 + 16, Mapped: 5, Used: 8}
	looks(t, "written out", l, words, func(v *view.View) {
		if s := tally.Count(v, l); s != want {
			t.Errorf("Count is %v, want %v", s, want)
		}
	})
	for _, text := range []string{"A", "H", strings.Repeat("A", 256), strings.Repeat("01234H-.", 32), strings.Repeat(".", 256), strings.Repeat("H", 256)} {
		l, words := told(t, text)
		for i := 0; i < 32*len(text); i += 5 {
			words[l.Live(l.User()+i)] = 1 + (i*37)%(most+1)
		}
		counted(t, "many", l, words)
	}
}

// right tells whether numbers may be, reckoned without an end to them.
func right(s api.Stats) bool {
	for _, x := range []int{s.Blocks, s.Asked, s.Words, s.Kept, s.Open, s.Mapped, s.Used} {
		if x < 0 {
			return false
		}
	}
	if s.Words > 1<<45 || s.Kept > 1<<45 || s.Used > 1<<40 || s.Asked > s.Words || s.Blocks > s.Words || s.Used > s.Mapped {
		return false
	}
	all := new(big.Int)
	for _, x := range []int{s.Words, s.Kept, s.Open} {
		all.Add(all, big.NewInt(int64(x)))
	}
	return all.Cmp(new(big.Int).Mul(big.NewInt(32), big.NewInt(int64(s.Used)))) == 0
}

// TestRightOf holds Right against what the chapter's words lead to, one by one: numbers that may be, and with one of them a little more or less.
func TestRightOf(t *testing.T) {
	for _, c := range []struct {
		what string
		s    api.Stats
		want bool
	}{
		{"nothing", api.Stats{}, true},
		{"the example", api.Stats{Blocks: 1, Asked: 3, Words: 4, Open: 28, Mapped: 4, Used: 1}, true},
		{"all of them", api.Stats{Blocks: 2, Asked: 3, Words: 4, Kept: 8, Open: 20, Mapped: 1, Used: 1}, true},
		{"Blocks as Words", api.Stats{Blocks: 32, Asked: 0, Words: 32, Mapped: 1, Used: 1}, true},
		{"Blocks above Words", api.Stats{Blocks: 33, Asked: 0, Words: 32, Mapped: 1, Used: 1}, false},
		{"Asked as Words", api.Stats{Blocks: 1, Asked: 32, Words: 32, Mapped: 1, Used: 1}, true},
		{"Asked above Words", api.Stats{Blocks: 1, Asked: 33, Words: 32, Mapped: 1, Used: 1}, false},
		{"Words without Blocks", api.Stats{Words: 32, Mapped: 1, Used: 1}, true},
		{"Mapped alone", api.Stats{Mapped: 4}, true},
		{"Mapped beyond all", api.Stats{Mapped: math.MaxInt}, true},
		{"Used above Mapped", api.Stats{Kept: 64, Mapped: 1, Used: 2}, false},
		{"Used as Mapped", api.Stats{Kept: 64, Mapped: 2, Used: 2}, true},
		{"a word too few", api.Stats{Kept: 31, Mapped: 1, Used: 1}, false},
		{"a word too many", api.Stats{Kept: 33, Mapped: 1, Used: 1}, false},
		{"words of none", api.Stats{Open: 32, Mapped: 1}, false},
		{"none of words", api.Stats{Mapped: 1, Used: 1}, false},
		{"Blocks below 0", api.Stats{Blocks: -1}, false},
		{"Asked below 0", api.Stats{Asked: -1}, false},
		{"Words below 0", api.Stats{Blocks: -1, Asked: -1, Words: -1, Open: 1}, false},
		{"Kept below 0", api.Stats{Kept: -1, Open: 1}, false},
		{"Open below 0", api.Stats{Kept: 1, Open: -1}, false},
		{"Used below 0", api.Stats{Used: -1}, false},
		{"Mapped below 0", api.Stats{Mapped: -1}, false},
		{"Mapped and Used below 0", api.Stats{Open: -32, Mapped: -1, Used: -1}, false},
		{"the most Words", api.Stats{Words: 1 << 45, Mapped: 1 << 40, Used: 1 << 40}, true},
		{"the most Kept", api.Stats{Kept: 1 << 45, Mapped: 1 << 40, Used: 1 << 40}, true},
		{"the most Open", api.Stats{Open: 1 << 45, Mapped: 1 << 40, Used: 1 << 40}, true},
		{"the most of all", api.Stats{Blocks: 1 << 45, Asked: 1 << 45, Words: 1 << 45, Mapped: math.MaxInt, Used: 1 << 40}, true},
		{"Words above the most", api.Stats{Words: 1<<45 + 32, Mapped: 1<<40 + 1, Used: 1<<40 + 1}, false},
		{"Used above the most", api.Stats{Open: 1<<45 + 32, Mapped: 1<<40 + 1, Used: 1<<40 + 1}, false},
		{"pages whose words wrap round to none", api.Stats{Mapped: 1 << 59, Used: 1 << 59}, false},
		{"pages whose words wrap round to one's", api.Stats{Open: 32, Mapped: 1<<59 + 1, Used: 1<<59 + 1}, false},
		{"Words and Kept that wrap round", api.Stats{Words: math.MaxInt, Kept: math.MaxInt, Open: 2}, false},
		{"Words and Open that wrap round", api.Stats{Words: math.MaxInt, Kept: 2, Open: math.MaxInt}, false},
		{"Kept and Open that wrap round", api.Stats{Words: 34, Kept: math.MaxInt, Open: math.MaxInt, Mapped: 1, Used: 1}, false},
		{"Open beyond all", api.Stats{Open: math.MaxInt, Mapped: 1 << 40, Used: 1 << 40}, false},
	} {
		if ok := tally.Right(c.s); ok != c.want {
			t.Errorf("%s: Right(%v) is %t", c.what, c.s, ok)
		}
	}
}

// all7 calls f with all Stats of these numbers.
func all7(numbers []int, f func(s api.Stats)) {
	count := len(numbers)
	total := 1
	for range 7 {
		total *= count
	}
	for i := range total {
		var x [7]int
		for j := range x {
			x[j] = numbers[i%count]
			i /= count
		}
		f(api.Stats{Blocks: x[0], Asked: x[1], Words: x[2], Kept: x[3], Open: x[4], Mapped: x[5], Used: x[6]})
	}
}

// TestRight goes through all Stats of few small numbers, and of the greatest ones that there are.
func TestRight(t *testing.T) {
	for _, numbers := range [][]int{
		{-1, 0, 1, 2, 16, 32, 64}, {-32, 0, 1, 30, 31, 33},
		{math.MinInt, 0, 1 << 40, 1<<40 + 1, 1 << 45, 1<<45 + 32}, {math.MaxInt, 0, 2, 34, 1 << 58, 1 << 59}, {1<<40 - 1, 1 << 40, 1<<45 - 32, 1 << 45, 32, 0},
	} {
		all7(numbers, func(s api.Stats) {
			if ok := tally.Right(s); ok != right(s) {
				t.Fatalf("Right(%v) is %t", s, ok)
			}
		})
	}
}

// P17.3

// heap is an arena's words, what two workers keep, and which blocks clients have, with how many words were asked for in them, and how many they have.
type heap struct {
	l      layout.Layout
	words  []int
	purses [2]purse.Purse
	list   []one
}

// one is a block that a client has.
type one struct{ addr, asked, words int }

// newHeap tells one of which nothing was ever taken.
func newHeap(l layout.Layout) *heap { return &heap{l: l, words: make([]int, l.Words())} }

// does does a program over the heap's words.
func (h *heap) does(t *testing.T, prog func(v *view.View)) {
	t.Helper()
	words, _, e := view.Do(h.words, prog)
	if e != api.OK {
		t.Fatalf("of %v: error %d", h.l.Config(), e)
	}
	h.words = words
}

// takes has a worker take a block on a CPU, which is live then.
func (h *heap) takes(t *testing.T, worker, cpu, n, align int) bool {
	t.Helper()
	var p purse.Purse
	var b one
	ok := false
	h.does(t, func(v *view.View) {
		a, words, q, e := block.Alloc(v, h.l, cpu, h.purses[worker], n, align)
		p, b, ok = q, one{a, n, words}, e == api.OK
		if ok && !live.Mark(v, h.l, a, n) {
			t.Errorf("of %v: Mark(%d, %d) is false", h.l.Config(), a, n)
		}
	})
	h.purses[worker] = p
	if ok {
		h.list = append(h.list, b)
	}
	return ok
}

// gives has a worker give the block i back on a CPU, which is not live then.
func (h *heap) gives(t *testing.T, worker, cpu, i int) {
	t.Helper()
	a := h.list[i].addr
	var p purse.Purse
	h.does(t, func(v *view.View) {
		if !live.Clear(v, h.l, a) {
			t.Errorf("of %v: Clear(%d) is false", h.l.Config(), a)
		}
		q, ok := block.Free(v, h.l, cpu, h.purses[worker], a)
		if p = q; !ok {
			t.Errorf("of %v: Free(%d) is false", h.l.Config(), a)
		}
	})
	h.purses[worker] = p
	h.list = slices.Delete(h.list, i, i+1)
}

// flushes has a worker's purse go to the pages.
func (h *heap) flushes(t *testing.T, worker int) {
	t.Helper()
	var p purse.Purse
	h.does(t, func(v *view.View) { p = front.Flush(v, h.l, h.purses[worker]) })
	h.purses[worker] = p
}

// drains has stacks and bins go to the pages.
func (h *heap) drains(t *testing.T) {
	t.Helper()
	h.does(t, func(v *view.View) { front.Drain(v, h.l) })
}

// trims lets chunks without used pages be not mapped.
func (h *heap) trims(t *testing.T) {
	t.Helper()
	h.does(t, func(v *view.View) { extent.Trim(v, h.l) })
}

// kept tells how many words purses, stacks and bins have.
func (h *heap) kept(v *view.View) int {
	n := 0
	list := front.Kept(v, h.l)
	for _, p := range h.purses {
		list = append(list, p.All()...)
	}
	for _, a := range list {
		if c, ok := pages.Taken(v, h.l, a); ok {
			n += sizes[c]
		}
	}
	return n
}

// right holds Count against what the heap is known to have, and against what the layers below tell.
func (h *heap) right(t *testing.T) {
	t.Helper()
	h.does(t, func(v *view.View) {
		want := api.Stats{Blocks: len(h.list), Kept: h.kept(v), Mapped: chunk.Count(v, h.l), Used: extent.Used(v, h.l)}
		for _, b := range h.list {
			want.Asked += b.asked
			want.Words += b.words
		}
		for c, n := range sizes {
			want.Open += n * pages.Free(v, h.l, c)
		}
		s := tally.Count(v, h.l)
		if s != want || !tally.Right(s) {
			t.Errorf("of %v: Count is %v, Right %t, want %v", h.l.Config(), s, tally.Right(s), want)
		}
		all := live.All(v, h.l)
		asked := 0
		for _, x := range all {
			asked += x.Val
		}
		if s.Blocks != len(all) || s.Asked != asked {
			t.Errorf("of %v: Count is %v, of the live blocks %v", h.l.Config(), s, all)
		}
	})
	counted(t, "a heap", h.l, h.words)
}

// empty gives back all that clients have, and then all that is kept: what is counted ends at 0.
func (h *heap) empty(t *testing.T) {
	t.Helper()
	for len(h.list) > 0 {
		h.gives(t, len(h.list)%2, 0, len(h.list)/2)
	}
	h.right(t)
	h.flushes(t, 0)
	h.flushes(t, 1)
	h.drains(t)
	h.right(t)
	h.does(t, func(v *view.View) {
		if s, want := tally.Count(v, h.l), (api.Stats{Mapped: chunk.Count(v, h.l)}); s != want {
			t.Errorf("of %v: emptied, Count is %v, want %v", h.l.Config(), s, want)
		}
	})
	h.trims(t)
	h.does(t, func(v *view.View) {
		if s := tally.Count(v, h.l); s != (api.Stats{}) || !tally.Right(s) {
			t.Errorf("of %v: trimmed, Count is %v", h.l.Config(), s)
		}
	})
}

// step does one of what a heap's workers may do.
func (h *heap) step(t *testing.T, next func(n int) int) {
	t.Helper()
	worker, cpu := next(2), next(h.l.Config().CPUs)
	switch k := next(20); {
	case k < 9:
		n, align := next(20), 1<<next(4)
		if next(5) == 0 {
			n, align = 17+next(90), 1<<next(8)
		}
		h.takes(t, worker, cpu, n, align)
	case k < 17:
		if len(h.list) > 0 {
			h.gives(t, worker, cpu, next(len(h.list)))
		}
	case k == 17:
		h.flushes(t, worker)
	case k == 18:
		h.drains(t)
	default:
		h.trims(t)
	}
}

// TestRows takes and gives back by made rows of steps, with made configurations: behind each few steps all is counted.
func TestRows(t *testing.T) {
	for seed := range 25 {
		next := made64(seed)
		h := newHeap(made(t, api.Config{CPUs: 1 + next(2), Pages: 1 + next(12), Private: 1 + next(8), Cache: next(4), Bin: next(4), Batch: 1 + next(4)}))
		h.right(t)
		for range 25 {
			for range 1 + next(4) {
				h.step(t, next)
			}
			h.right(t)
			if t.Failed() {
				t.Fatalf("of the row %d", seed)
			}
		}
		h.empty(t)
	}
}

// TestFill takes blocks of one size until there are no more: then they have all words of all pages that are used, and of classes' blocks that is all pages.
func TestFill(t *testing.T) {
	for _, n := range []int{0, 1, 2, 3, 5, 9, 16, 17, 32, 33, 64, 97} {
		l := made(t, api.Config{CPUs: 1, Pages: 5, Private: 3, Cache: 1, Bin: 1, Batch: 3})
		h := newHeap(l)
		for h.takes(t, 0, 0, n, 1) {
			if n > 2 {
				h.right(t)
			}
		}
		h.right(t)
		h.does(t, func(v *view.View) {
			s := tally.Count(v, l)
			used := 5
			if n > 32 {
				used = 5 / ((n + 31) / 32) * ((n + 31) / 32)
			}
			if s.Open != 0 || s.Kept != 0 || s.Used != used || s.Words != 32*used || s.Mapped != used {
				t.Errorf("filled by blocks of %d words: Count is %v", n, s)
			}
		})
		h.empty(t)
	}
}

// TestSteps goes through all rows of a few steps on two pages: behind each one all is counted.
func TestSteps(t *testing.T) {
	l := made(t, api.Config{CPUs: 1, Pages: 2, Private: 1, Cache: 1, Bin: 1, Batch: 2})
	does := []func(h *heap){
		func(h *heap) { h.takes(t, 0, 0, 16, 1) },
		func(h *heap) { h.takes(t, 1, 0, 5, 1) },
		func(h *heap) { h.takes(t, 0, 0, 20, 1) },
		func(h *heap) { h.takes(t, 1, 0, 33, 1) },
		func(h *heap) {
			if len(h.list) > 0 {
				h.gives(t, 0, 0, 0)
			}
		},
		func(h *heap) { h.flushes(t, 0); h.flushes(t, 1) },
		func(h *heap) { h.drains(t); h.trims(t) },
	}
	var on func(h *heap, depth int)
	on = func(h *heap, depth int) {
		h.right(t)
		if depth == 0 || t.Failed() {
			return
		}
		for _, do := range does {
			next := &heap{l: l, words: h.words, purses: h.purses, list: slices.Clone(h.list)}
			do(next)
			on(next, depth-1)
		}
	}
	on(newHeap(l), 4)
}

// Arguments that are none.

// TestNoLayout asks of the zero layout: nothing is needed or written, and all is 0.
func TestNoLayout(t *testing.T) {
	for _, p := range append([]int{0, 1, 2, 3, 4}, beyond...) {
		blind(t, "no layout", func(v *view.View) {
			if s := tally.Page(v, layout.Layout{}, p); s != (api.Stats{}) {
				t.Errorf("Page(%d) is %v", p, s)
			}
			if s := tally.Count(v, layout.Layout{}); s != (api.Stats{}) {
				t.Errorf("Count is %v", s)
			}
		})
	}
}

// TestEnds has words that may not be, and are as great as there are: each call ends.
func TestEnds(t *testing.T) {
	for seed := range 300 {
		next := made64(seed)
		l := two(t, 1+next(6))
		words := fresh(l)
		for a := range words {
			switch {
			case !ours(l, a):
			case a >= l.Kind(0) && a < l.Count(0):
				words[a] = next(10) - 1
			case next(3) == 0:
				words[a] = beyond[next(len(beyond))]
			default:
				words[a] = next(60) - 5
			}
		}
		counted(t, "words that may not be", l, words)
		looks(t, "words that may not be", l, words, func(v *view.View) { tally.Right(tally.Count(v, l)) })
	}
}

// dead holds a view that reads 0 of all against what is told by it: no page is mapped or used.
func dead(t *testing.T, what string, v *view.View) {
	t.Helper()
	l := two(t, 5)
	for p := -1; p < 8; p++ {
		if s := tally.Page(v, l, p); s != (api.Stats{}) {
			t.Errorf("%s: Page(%d) is %v", what, p, s)
		}
	}
	if s := tally.Count(v, l); s != (api.Stats{}) {
		t.Errorf("%s: Count is %v", what, s)
	}
}

// TestNoView asks by no view, by one whose run ended where it needed a word, and by one whose run is over.
func TestNoView(t *testing.T) {
	dead(t, "nil", nil)
	dead(t, "a view that nothing made", &view.View{})
	l, words := told(t, "3H-.A")
	var kept *view.View
	keep := func(v *view.View) {
		kept = v
		tally.Count(v, l)
	}
	if need, wrote := view.Run(nil, keep); need == -1 || !ours(l, need) || len(wrote) != 0 {
		t.Errorf("needs %d, wrote %v", need, wrote)
	}
	dead(t, "one that needed a word", kept)
	if _, _, e := view.Do(words, keep); e != api.OK {
		t.Errorf("error %d", e)
	}
	dead(t, "one that is done", kept)
}

// The chapter's example.
func TestExample(t *testing.T) {
	l := made(t, api.Config{CPUs: 1, Pages: 4, Private: 1, Batch: 1})
	h := newHeap(l)
	h.takes(t, 0, 0, 3, 1)
	h.does(t, func(v *view.View) {
		s, want := tally.Count(v, l), api.Stats{Blocks: 1, Asked: 3, Words: 4, Kept: 0, Open: 28, Mapped: 4, Used: 1}
		if s != want || !tally.Right(s) {
			t.Errorf("Count is %v, Right %t, want %v", s, tally.Right(s), want)
		}
	})
}
