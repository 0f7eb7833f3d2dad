package live_test

import (
	"math"
	"slices"
	"strings"
	"testing"

	"assart/api"
	"assart/block"
	"assart/layout"
	"assart/live"
	"assart/purse"
	"assart/view"
)

// most is how many words may be asked for.
const most = 1 << 20

// beyond are numbers that no word has as its address; some of them wrap round to small ones when something is added.
var beyond = []int{math.MinInt, math.MinInt + 1, math.MinInt + 128, math.MinInt32, -most, -257, -128, -33, -32, -2, -1, most, 1 << 31, 1 << 32, 1<<32 + 1, 1 << 58, 1 << 62, math.MaxInt - 128, math.MaxInt - 1, math.MaxInt}

// asked are numbers of words that may be asked for, and wrong those that may not.
var (
	asked = []int{0, 1, 2, 3, 16, 17, 32, 33, 8192, most - 1, most}
	wrong = []int{-1, -2, -most, math.MinInt32, math.MinInt, math.MinInt + 1, most + 1, most + 2, 1 << 32, 1<<32 + 1, math.MaxInt - 1, math.MaxInt}
)

// says are Live words, by whether some number of words was asked for by them.
var says = map[int]bool{
	0: false, -1: false, -2: false, math.MinInt: false, math.MinInt + 1: false, -most: false, most + 2: false, most + 3: false, 1 << 32: false, 1<<32 + 1: false, math.MaxInt - 1: false, math.MaxInt: false,
	1: true, 2: true, 3: true, 4: true, 33: true, most - 1: true, most: true, most + 1: true,
}

// sizes are how many words each class's blocks have.
var sizes = []int{1, 2, 4, 8, 16}

// made tells the layout of a configuration, of which what does not matter here may be left out.
func made(t *testing.T, c api.Config) layout.Layout {
	t.Helper()
	c.Workers, c.Stripes, c.Clock = 2, 3, 9
	l, e := layout.Of(c)
	if e != api.OK {
		t.Fatalf("a layout of %v: error %d", c, e)
	}
	return l
}

// two tells the layout of so many pages, and two CPUs, with room for some blocks everywhere.
func two(t *testing.T, pages int) layout.Layout {
	t.Helper()
	return made(t, api.Config{CPUs: 2, Pages: pages, Private: 2, Cache: 2, Bin: 2, Batch: 2})
}

// isLive tells whether the word at a is a Live word.
func isLive(l layout.Layout, a int) bool {
	first := l.Live(l.User())
	return a >= first && a < first+32*l.Config().Pages
}

// isPage tells whether the word at a is one of tables, pages, lists, stacks, or bins.
func isPage(l layout.Layout, a int) bool { return a >= l.Table(0) && a < l.Live(l.User()) }

// fresh tells the words of a layout of which nothing was ever taken. Those that are not this layer's business are none that may be read as something else.
func fresh(l layout.Layout) []int {
	words := make([]int, l.Words())
	for a := range words {
		if !isPage(l, a) && !isLive(l, a) {
			words[a] = 70000 + a
		}
	}
	return words
}

// of are those words as pairs that one of these functions tells of, so that a program that needs another word ends there.
func of(l layout.Layout, words []int, which ...func(l layout.Layout, a int) bool) []api.Pair {
	var pairs []api.Pair
	for a, x := range words {
		for _, is := range which {
			if is(l, a) {
				pairs = append(pairs, api.Pair{Addr: a, Val: x})
			}
		}
	}
	return pairs
}

// marks does a program that needs and writes no words but Live words, and tells all words behind it.
func marks(t *testing.T, what string, l layout.Layout, words []int, prog func(v *view.View)) []int {
	t.Helper()
	need, wrote := view.Run(of(l, words, isLive), prog)
	if need != -1 {
		t.Errorf("%s, of %v: needs %d", what, l.Config(), need)
	}
	out := slices.Clone(words)
	for _, x := range wrote {
		if !isLive(l, x.Addr) {
			t.Errorf("%s, of %v: the word %d was written", what, l.Config(), x.Addr)
			continue
		}
		out[x.Addr] = x.Val
	}
	return out
}

// looks does a program that needs pages' and Live words alone, and writes nothing.
func looks(t *testing.T, what string, l layout.Layout, words []int, prog func(v *view.View)) {
	t.Helper()
	if need, wrote := view.Run(of(l, words, isPage, isLive), prog); need != -1 || len(wrote) != 0 {
		t.Errorf("%s, of %v: needs %d, wrote %v", what, l.Config(), need, wrote)
	}
}

// blind does a program that knows nothing, and holds it against needing and writing nothing.
func blind(t *testing.T, what string, prog func(v *view.View)) {
	t.Helper()
	if need, wrote := view.Run(nil, prog); need != -1 || len(wrote) != 0 {
		t.Errorf("%s: needs %d, wrote %v", what, need, wrote)
	}
}

// stands holds words against others.
func stands(t *testing.T, what string, l layout.Layout, words, want []int) {
	t.Helper()
	if len(words) != len(want) {
		t.Fatalf("%s, of %v: %d words", what, l.Config(), len(words))
	}
	for a := range want {
		if words[a] != want[a] {
			t.Errorf("%s, of %v: the word %d is %d, want %d", what, l.Config(), a, words[a], want[a])
		}
	}
}

// with tells the words with one of them being x.
func with(words []int, a, x int) []int {
	words = slices.Clone(words)
	words[a] = x
	return words
}

// user calls f with each user word.
func user(l layout.Layout, f func(a int)) {
	for a := l.User(); a < l.User()+32*l.Config().Pages; a++ {
		f(a)
	}
}

// nobodys calls f with numbers that are no user word's address.
func nobodys(l layout.Layout, f func(a int)) {
	end := l.User() + 32*l.Config().Pages
	for a := range l.User() {
		f(a)
	}
	for i := range 40 {
		f(end + i)
	}
	for _, a := range beyond {
		f(a)
		if a < 0 || a > 32*l.Config().Pages {
			f(a + l.User())
		}
	}
}

// size is what Size is to tell.
func size(l layout.Layout, words []int, a int) (int, bool) {
	if a < l.User() || a >= l.User()+32*l.Config().Pages {
		return 0, false
	}
	if x := words[l.Live(l.User())+a-l.User()]; x >= 1 && x <= most+1 {
		return x - 1, true
	}
	return 0, false
}

// sized holds Size of all words, and of such as are none, and All against that: neither needs or writes other words.
func sized(t *testing.T, what string, l layout.Layout, words []int) {
	t.Helper()
	var want []api.Pair
	check := func(v *view.View, a int) {
		n, ok := size(l, words, a)
		if m, is := live.Size(v, l, a); m != n || is != ok {
			t.Errorf("%s, of %v: Size(%d) is %d, %t, want %d, %t", what, l.Config(), a, m, is, n, ok)
		}
		if ok {
			want = append(want, api.Pair{Addr: a, Val: n})
		}
	}
	out := marks(t, what, l, words, func(v *view.View) {
		want = nil
		user(l, func(a int) { check(v, a) })
		nobodys(l, func(a int) { check(v, a) })
		if all := live.All(v, l); !slices.Equal(all, want) {
			t.Errorf("%s, of %v: All is %v, want %v", what, l.Config(), all, want)
		}
	})
	stands(t, what, l, out, words)
}

// owners tells of each user word what block has it (its address, and how many words it has), as Kind and Bits words say.
func owners(l layout.Layout, words []int) map[int]api.Pair {
	all := map[int]api.Pair{}
	add := func(a, n int) {
		for i := range n {
			all[a+i] = api.Pair{Addr: a, Val: n}
		}
	}
	for p := range l.Config().Pages {
		switch k := words[l.Kind(p)]; {
		case k == 6:
			add(l.Addr(p), 32*words[l.Count(p)])
		case k >= 1 && k <= 5:
			for i := range 32 / sizes[k-1] {
				if words[l.Bits(p)]>>i&1 == 1 {
					add(l.Addr(p)+i*sizes[k-1], sizes[k-1])
				}
			}
		}
	}
	return all
}

// met holds At of all words, and of such as are none, against a plain look: nothing is written by that.
func met(t *testing.T, what string, l layout.Layout, words []int) {
	t.Helper()
	all := owners(l, words)
	check := func(v *view.View, a int) {
		want := all[a]
		_, ok := size(l, words, want.Addr)
		if !ok {
			want = api.Pair{}
		}
		b, n, is := live.At(v, l, a)
		if b != want.Addr || n != want.Val || is != ok {
			t.Errorf("%s, of %v: At(%d) is %d, %d, %t, want %d, %d, %t", what, l.Config(), a, b, n, is, want.Addr, want.Val, ok)
		}
	}
	looks(t, what, l, words, func(v *view.View) {
		user(l, func(a int) { check(v, a) })
		nobodys(l, func(a int) { check(v, a) })
	})
}

// pages tells the words of pages that a text tells of, a letter each: . of a page that is free, H of a run's first page, - of a further one, 0 to 4 of one with blocks of that class, of which each second one is taken, and A to E likewise, with all taken.
func pages(t *testing.T, text string) (layout.Layout, []int) {
	t.Helper()
	l := two(t, len(text))
	words := fresh(l)
	for p := range len(text) {
		words[l.Table(p/4)] = 1
		class, full := int(text[p]-'0'), int(text[p]-'A')
		switch {
		case text[p] == 'H':
			words[l.Kind(p)] = 6
			words[l.Count(p)] = 1 + len(text[p+1:]) - len(strings.TrimLeft(text[p+1:], "-"))
		case text[p] == '-':
			words[l.Kind(p)] = 7
		case class >= 0 && class < 5:
			blocks := 32 / sizes[class]
			words[l.Kind(p)], words[l.Count(p)], words[l.Bits(p)] = class+1, blocks/2, 0xAAAAAAAA&(1<<blocks-1)
		case full >= 0 && full < 5:
			words[l.Kind(p)], words[l.Bits(p)] = full+1, 1<<(32/sizes[full])-1
		}
	}
	return l, words
}

// made64 tells a function that makes numbers below n, the same ones of the same seed.
func made64(seed int) func(n int) int {
	x := uint64(seed)*2862933555777941757 + 3037000493
	return func(n int) int {
		x ^= x << 13
		x ^= x >> 7
		x ^= x << 17
		return int(x >> 20 % uint64(n))
	}
}

// P16.1

// TestMark lets a block be live at each user word, whatever its word said: that says one more than how many words were asked for, and nothing else is read or written.
func TestMark(t *testing.T) {
	for _, pages := range []int{1, 2, 4, 5} {
		l := two(t, pages)
		user(l, func(a int) {
			for _, n := range asked {
				need, wrote := view.Run(nil, func(v *view.View) {
					if !live.Mark(v, l, a, n) {
						t.Errorf("of %v: Mark(%d, %d) is false", l.Config(), a, n)
					}
				})
				if want := []api.Pair{{Addr: l.Live(l.User()) + a - l.User(), Val: n + 1}}; need != -1 || !slices.Equal(wrote, want) {
					t.Errorf("of %v: Mark(%d, %d) needs %d, wrote %v", l.Config(), a, n, need, wrote)
				}
			}
		})
	}
}

// TestMarkAgain marks blocks whose words say something: the last number stands.
func TestMarkAgain(t *testing.T) {
	l := two(t, 2)
	for said := range says {
		for _, n := range asked {
			a := l.User() + n%64
			words := with(fresh(l), l.Live(a), said)
			out := marks(t, "marked again", l, words, func(v *view.View) {
				if !live.Mark(v, l, a, 7) || !live.Mark(v, l, a, n) {
					t.Errorf("Mark(%d, %d) of the word %d is false", a, n, said)
				}
				if m, ok := live.Size(v, l, a); m != n || !ok {
					t.Errorf("Size is %d, %t, want %d", m, ok, n)
				}
			})
			stands(t, "marked again", l, out, with(words, l.Live(a), n+1))
		}
	}
}

// TestMarkWrong marks with numbers of words that nobody may ask for, and at what is no user word: nothing is needed or written.
func TestMarkWrong(t *testing.T) {
	l := two(t, 3)
	refused := func(a, n int) {
		blind(t, "refused", func(v *view.View) {
			if live.Mark(v, l, a, n) {
				t.Errorf("Mark(%d, %d) is true", a, n)
			}
		})
	}
	user(l, func(a int) {
		for _, n := range wrong {
			refused(a, n)
		}
	})
	nobodys(l, func(a int) {
		for _, n := range append(asked[:len(asked):len(asked)], wrong...) {
			refused(a, n)
		}
	})
}

// TestMarkWrongLive marks a block that is live already with a number that may not be: it stays as it was.
func TestMarkWrongLive(t *testing.T) {
	l := two(t, 1)
	for _, n := range wrong {
		words := with(fresh(l), l.Live(l.User()+5), 4)
		out := marks(t, "wrong", l, words, func(v *view.View) {
			if live.Mark(v, l, l.User()+5, n) {
				t.Errorf("Mark of %d is true", n)
			}
			if m, ok := live.Size(v, l, l.User()+5); m != 3 || !ok {
				t.Errorf("behind Mark of %d: Size is %d, %t", n, m, ok)
			}
		})
		stands(t, "wrong", l, out, words)
	}
}

// TestClear clears each user word, live or not, of all that its word may say: a word that says no number of words stays.
func TestClear(t *testing.T) {
	l := two(t, 3)
	for said, was := range says {
		user(l, func(a int) {
			words := with(fresh(l), l.Live(a), said)
			want := words
			if was {
				want = with(words, l.Live(a), 0)
			}
			out := marks(t, "cleared", l, words, func(v *view.View) {
				if ok := live.Clear(v, l, a); ok != was {
					t.Errorf("Clear(%d) of the word %d is %t", a, said, ok)
				}
				if live.Clear(v, l, a) {
					t.Errorf("Clear(%d) of the word %d is true once more", a, said)
				}
				if n, ok := live.Size(v, l, a); n != 0 || ok {
					t.Errorf("Size(%d) behind Clear is %d, %t", a, n, ok)
				}
			})
			stands(t, "cleared", l, out, want)
		})
	}
}

// TestNobodys asks for what is no user word: no word is needed or written.
func TestNobodys(t *testing.T) {
	for _, pages := range []int{1, 4, 5, 256} {
		l := two(t, pages)
		nobodys(l, func(a int) {
			blind(t, "nobody's", func(v *view.View) {
				if live.Clear(v, l, a) {
					t.Errorf("of %v: Clear(%d) is true", l.Config(), a)
				}
				if n, ok := live.Size(v, l, a); n != 0 || ok {
					t.Errorf("of %v: Size(%d) is %d, %t", l.Config(), a, n, ok)
				}
				if b, n, ok := live.At(v, l, a); b != 0 || n != 0 || ok {
					t.Errorf("of %v: At(%d) is %d, %d, %t", l.Config(), a, b, n, ok)
				}
			})
		})
	}
}

// TestSize holds Size, and All, against what each word may say, at each user word.
func TestSize(t *testing.T) {
	for _, pages := range []int{1, 2, 5} {
		l := two(t, pages)
		sized(t, "nothing live", l, fresh(l))
		for said := range says {
			for i := 0; i < 32*pages; i += 1 + i%5 {
				sized(t, "one word", l, with(fresh(l), l.Live(l.User()+i), said))
			}
			sized(t, "the last word", l, with(fresh(l), l.Live(l.Words()-1), said))
		}
	}
}

// P16.2

// TestAt holds At against a plain look at pages of all kinds, of whose words some are live: each one, every third one, first words alone, none.
func TestAt(t *testing.T) {
	for _, text := range []string{".", "0", "1", "2", "3", "4", "A", "B", "C", "D", "E", "H", "H-", "HH", "H--.", "4H---", "H-H-H", "AB.H-0", "E4.HH-DC", "H-------3"} {
		l, words := pages(t, text)
		met(t, text+", none live", l, words)
		for _, step := range []int{1, 2, 3, 4, 16, 32, 33} {
			some := slices.Clone(words)
			for i := 0; i < 32*len(text); i += step {
				some[l.Live(l.User()+i)] = 1 + i
			}
			met(t, text, l, some)
			sized(t, text, l, some)
		}
	}
}

// TestAtOne has one word live alone: all words of the block whose first word that is have it, and no others.
func TestAtOne(t *testing.T) {
	for _, text := range []string{"0", "3", "E", "2H-", "H-.B"} {
		l, words := pages(t, text)
		user(l, func(a int) { met(t, text, l, with(words, l.Live(a), 3)) })
	}
}

// TestAtSays has a block's Live word be all that it may be, and may not be: how many words the block has does not hang on it.
func TestAtSays(t *testing.T) {
	for _, text := range []string{"C", "H-"} {
		l, words := pages(t, text)
		for said, ok := range says {
			met(t, text, l, with(words, l.Live(l.User()), said))
			looks(t, text, l, with(words, l.Live(l.User()), said), func(v *view.View) {
				if _, n, is := live.At(v, l, l.User()+3); is != ok || is && n != map[string]int{"C": 4, "H-": 64}[text] {
					t.Errorf("%s: At by the word %d is %d, %t", text, said, n, is)
				}
			})
		}
	}
}

// TestAtKinds has Kind words that are none: no block has their pages' words.
func TestAtKinds(t *testing.T) {
	for _, kind := range append([]int{8, 9, 64, -6}, beyond...) {
		l, words := pages(t, "A")
		words[l.Kind(0)] = kind
		for a := range 32 {
			words[l.Live(l.User()+a)] = 1
		}
		met(t, "a kind that is none", l, words)
	}
}

// TestAll has all words live in the most and the fewest pages that there may be, and every seventh one: they are told by rising addresses.
func TestAll(t *testing.T) {
	for _, pages := range []int{1, 3, 256} {
		l := two(t, pages)
		for _, step := range []int{1, 7, 100} {
			words := fresh(l)
			for i := 0; i < 32*pages; i += step {
				words[l.Live(l.User()+i)] = 1 + (i*37)%(most+1)
			}
			sized(t, "many", l, words)
		}
	}
}

// TestAllApart changes what All told: what it tells next hangs on the words alone.
func TestAllApart(t *testing.T) {
	l := two(t, 1)
	words := with(with(fresh(l), l.Live(l.User()), 4), l.Live(l.User()+8), 1)
	want := []api.Pair{{Addr: l.User(), Val: 3}, {Addr: l.User() + 8, Val: 0}}
	looks(t, "apart", l, words, func(v *view.View) {
		for range 2 {
			all := live.All(v, l)
			if !slices.Equal(all, want) {
				t.Errorf("All is %v, want %v", all, want)
			}
			for i := range all {
				all[i] = api.Pair{Addr: 9, Val: 9}
			}
		}
	})
}

// P16.3

// TestEachByItself marks and clears one word among many: all others stay as they are.
func TestEachByItself(t *testing.T) {
	l := two(t, 2)
	words := fresh(l)
	user(l, func(a int) { words[l.Live(a)] = a % 7 })
	user(l, func(a int) {
		out := marks(t, "marked", l, words, func(v *view.View) { live.Mark(v, l, a, 40) })
		stands(t, "marked", l, out, with(words, l.Live(a), 41))
		out = marks(t, "cleared", l, words, func(v *view.View) { live.Clear(v, l, a) })
		stands(t, "cleared", l, out, with(words, l.Live(a), 0))
	})
}

// TestRows marks and clears by made rows of steps, in one program and in one for each step, held against a list of what is live.
func TestRows(t *testing.T) {
	for seed := range 40 {
		next := made64(seed)
		l := two(t, 1+next(6))
		words := fresh(l)
		is := map[int]int{}
		for range 30 {
			first := is
			words = marks(t, "a row", l, words, func(v *view.View) {
				is = steps(t, v, l, first, next, 1+next(9))
			})
			for a := range 32 * l.Config().Pages {
				n, ok := is[l.User()+a]
				if m, got := size(l, words, l.User()+a); m != n || got != ok {
					t.Fatalf("of %v: the word of %d says %d, %t, want %d, %t", l.Config(), l.User()+a, m, got, n, ok)
				}
			}
		}
		sized(t, "behind a row", l, words)
	}
}

// steps marks and clears some words, held against which ones are live, and tells those behind it.
func steps(t *testing.T, v *view.View, l layout.Layout, is map[int]int, next func(n int) int, count int) map[int]int {
	out := map[int]int{}
	for a, n := range is {
		out[a] = n
	}
	for range count {
		a, n := l.User()-3+next(32*l.Config().Pages+6), next(40)-2
		old, was := out[a]
		there := a >= l.User() && a < l.Words()
		if m, ok := live.Size(v, l, a); m != old || ok != was {
			t.Errorf("of %v: Size(%d) is %d, %t, want %d, %t", l.Config(), a, m, ok, old, was)
		}
		if next(3) == 0 {
			if live.Clear(v, l, a) != was {
				t.Errorf("of %v: Clear(%d) is %t", l.Config(), a, !was)
			}
			delete(out, a)
			continue
		}
		if ok := there && n >= 0; live.Mark(v, l, a, n) != ok {
			t.Errorf("of %v: Mark(%d, %d) is %t", l.Config(), a, n, !ok)
		} else if ok {
			out[a] = n
		}
	}
	return out
}

// TestBlocks takes blocks, has them live, and gives them back, by made rows: At and All tell those that are live, and kept ones are not.
func TestBlocks(t *testing.T) {
	for seed := range 25 {
		next := made64(seed)
		l := made(t, api.Config{CPUs: 1, Pages: 1 + next(9), Private: 1 + next(8), Cache: next(4), Bin: next(4), Batch: 1 + next(4)})
		words := fresh(l)
		var p purse.Purse
		var list []int
		for range 30 {
			words, p, list = turn(t, l, words, p, list, next)
			met(t, "blocks", l, words)
			sized(t, "blocks", l, words)
			if t.Failed() {
				t.Fatalf("of the row %d", seed)
			}
		}
	}
}

// turn takes a block that is live then, or gives one back that is, and tells the words, the purse, and all live blocks behind it.
func turn(t *testing.T, l layout.Layout, words []int, p purse.Purse, list []int, next func(n int) int) ([]int, purse.Purse, []int) {
	t.Helper()
	n, back := next(20), next(5) < 2 && len(list) > 0
	if next(6) == 0 {
		n = 20 + next(80)
	}
	i := next(len(list) + 1)
	var q purse.Purse
	var behind []int
	words, _, e := view.Do(words, func(v *view.View) {
		q, behind = p, slices.Clone(list)
		if back {
			i = i % len(list)
			a := list[i]
			if !live.Clear(v, l, a) || live.Clear(v, l, a) {
				t.Errorf("of %v: Clear(%d)", l.Config(), a)
			}
			q, _ = block.Free(v, l, 0, p, a)
			behind = slices.Delete(behind, i, i+1)
			return
		}
		a, m, r, e := block.Alloc(v, l, 0, p, n, 1)
		if e != api.OK {
			return
		}
		if _, _, ok := live.At(v, l, a+m-1); ok {
			t.Errorf("of %v: the new block at %d is live", l.Config(), a)
		}
		if !live.Mark(v, l, a, n) {
			t.Errorf("of %v: Mark(%d, %d) is false", l.Config(), a, n)
		}
		if b, k, ok := live.At(v, l, a+m-1); b != a || k != m || !ok {
			t.Errorf("of %v: At of the block at %d is %d, %d, %t", l.Config(), a, b, k, ok)
		}
		q, behind = r, append(behind, a)
	})
	if e != api.OK {
		t.Errorf("of %v: error %d", l.Config(), e)
	}
	return words, q, behind
}

// Arguments that are none.

// TestNoLayout asks of the zero layout: nothing is needed or written.
func TestNoLayout(t *testing.T) {
	for _, a := range append([]int{0, 1, 2, 3, 128, 160}, beyond...) {
		blind(t, "no layout", func(v *view.View) {
			var l layout.Layout
			if live.Mark(v, l, a, 3) || live.Clear(v, l, a) {
				t.Errorf("Mark or Clear(%d) is true", a)
			}
			if n, ok := live.Size(v, l, a); n != 0 || ok {
				t.Errorf("Size(%d) is %d, %t", a, n, ok)
			}
			if b, n, ok := live.At(v, l, a); b != 0 || n != 0 || ok {
				t.Errorf("At(%d) is %d, %d, %t", a, b, n, ok)
			}
			if all := live.All(v, l); len(all) != 0 {
				t.Errorf("All is %v", all)
			}
		})
	}
}

// dead holds a view that reads 0 of all, and writes nothing, against what is told by it: nothing is live.
func dead(t *testing.T, what string, v *view.View) {
	t.Helper()
	l := two(t, 3)
	for range 2 {
		user(l, func(a int) {
			if !live.Mark(v, l, a, 3) || live.Mark(v, l, a, -1) || live.Clear(v, l, a) {
				t.Errorf("%s: Mark or Clear of %d", what, a)
			}
			if n, ok := live.Size(v, l, a); n != 0 || ok {
				t.Errorf("%s: Size(%d) is %d, %t", what, a, n, ok)
			}
			if b, n, ok := live.At(v, l, a); b != 0 || n != 0 || ok {
				t.Errorf("%s: At(%d) is %d, %d, %t", what, a, b, n, ok)
			}
		})
		if all := live.All(v, l); len(all) != 0 {
			t.Errorf("%s: All is %v", what, all)
		}
	}
}

// TestNoView asks by no view, by one whose run ended where it needed a word, and by one whose run is over.
func TestNoView(t *testing.T) {
	dead(t, "nil", nil)
	dead(t, "a view that nothing made", &view.View{})
	l := two(t, 3)
	var kept *view.View
	keep := func(v *view.View) {
		kept = v
		live.Size(v, l, l.User()+7)
	}
	if need, wrote := view.Run(nil, keep); need != l.Live(l.User()+7) || len(wrote) != 0 {
		t.Errorf("needs %d, wrote %v", need, wrote)
	}
	dead(t, "one that needed a word", kept)
	if _, _, e := view.Do(fresh(l), keep); e != api.OK {
		t.Errorf("error %d", e)
	}
	dead(t, "one that is done", kept)
}

// The chapter's example.
func TestExample(t *testing.T) {
	l := two(t, 1)
	a := l.User() + 4
	_, _, e := view.Do(make([]int, l.Words()), func(v *view.View) {
		if !live.Mark(v, l, a, 0) {
			t.Error("Mark is false")
		}
		if n, ok := live.Size(v, l, a); n != 0 || !ok {
			t.Errorf("Size is %d, %t", n, ok)
		}
		if !live.Clear(v, l, a) {
			t.Error("Clear is false")
		}
		if live.Clear(v, l, a) {
			t.Error("Clear is true once more")
		}
	})
	if e != api.OK {
		t.Errorf("error %d", e)
	}
}
