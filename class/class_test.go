package class_test

import (
	"math"
	"testing"

	"assart/api"
	"assart/class"
)

// words is how many words a block of each class has, blocks how many of them a page has.
var words = []int{1, 2, 4, 8, 16}
var blocks = []int{32, 16, 8, 4, 2}

// alignments are all that may be.
var alignments = []int{1, 2, 4, 8, 16, 32, 64, 128}

// far are numbers that are no class, and that no alignment is.
var far = []int{math.MinInt, math.MinInt + 1, math.MinInt + 31, math.MinInt32, -1 << 20, -128, -64, -33, -32, -31, -16, -5, -4, -2, -1, 255, 256, 257, 512, 1 << 20, math.MaxInt32, 1 << 31, 1 << 32, 1 << 61, 1 << 62, math.MaxInt - 1, math.MaxInt}

// great are sizes beyond those that are gone through one by one, up to the greatest of all.
var great = []int{api.MaxWords - 1, api.MaxWords, api.MaxWords + 1, math.MaxInt32 - 1, math.MaxInt32, math.MaxInt32 + 1, 1 << 40, 1<<62 - 1, 1 << 62, 1<<62 + 1, math.MaxInt - 63, math.MaxInt - 33, math.MaxInt - 32, math.MaxInt - 31, math.MaxInt - 30, math.MaxInt - 29, math.MaxInt - 1, math.MaxInt}

// may tells whether a block may be asked for at a multiple of align.
func may(align int) bool {
	for _, x := range alignments {
		if x == align {
			return true
		}
	}
	return false
}

// pagesOf counts pages up to where n words have room.
func pagesOf(n int) int {
	pages := 0
	for room := 0; room < n; room += 32 {
		pages++
	}
	return pages
}

// fit is an answer of Fit.
type fit struct {
	class, pages, step int
	e                  api.Errno
}

// asked tells Fit's answer.
func asked(n, align int) fit {
	c, pages, step, e := class.Fit(n, align)
	return fit{c, pages, step, e}
}

// wanted tells what Fit has to answer, of sizes that are not too great to be counted up to.
func wanted(n, align int) fit {
	if n < 0 || !may(align) {
		return fit{0, 0, 0, api.ErrArg}
	}
	for c, size := range words {
		if n <= size && align <= size {
			return fit{c, 0, 0, api.OK}
		}
	}
	w := fit{-1, pagesOf(n), 1, api.OK}
	if n == 0 {
		w.pages = 1
	}
	if align == 64 {
		w.step = 2
	}
	if align == 128 {
		w.step = 4
	}
	return w
}

// P3.1

func TestOf(t *testing.T) {
	want := map[int]int{-1: 0, 0: 0, 1: 0, 2: 1, 3: 2, 4: 2, 5: 3, 6: 3, 7: 3, 8: 3, 9: 4, 10: 4, 11: 4, 12: 4, 13: 4, 14: 4, 15: 4, 16: 4, 17: -1, 18: -1, 31: -1, 32: -1, 33: -1, 64: -1, 128: -1}
	for n, c := range want {
		if got := class.Of(n); got != c {
			t.Errorf("Of(%d): %d, want %d", n, got, c)
		}
	}
}

func TestOfFar(t *testing.T) {
	for n := -300; n < 1; n++ {
		if got := class.Of(n); got != 0 {
			t.Errorf("Of(%d): %d, want 0", n, got)
		}
	}
	for n := 17; n <= 300; n++ {
		if got := class.Of(n); got != -1 {
			t.Errorf("Of(%d): %d, want -1", n, got)
		}
	}
	for _, n := range append(far, great...) {
		want := 0
		if n > 0 {
			want = -1
		}
		if got := class.Of(n); got != want {
			t.Errorf("Of(%d): %d, want %d", n, got, want)
		}
	}
}

func TestSizeAndSlots(t *testing.T) {
	if len(words) != api.Classes {
		t.Fatalf("%d classes, want %d", api.Classes, len(words))
	}
	for c := range words {
		if got := class.Size(c); got != words[c] {
			t.Errorf("Size(%d): %d, want %d", c, got, words[c])
		}
		if got := class.Slots(c); got != blocks[c] {
			t.Errorf("Slots(%d): %d, want %d", c, got, blocks[c])
		}
	}
}

func TestSizeAndSlotsOfNoClass(t *testing.T) {
	for _, c := range append([]int{-1, 5, 6, 7, 8, 9, 16, 32, 64, 128}, far...) {
		if got := class.Size(c); got != 0 {
			t.Errorf("Size(%d): %d, want 0", c, got)
		}
		if got := class.Slots(c); got != 0 {
			t.Errorf("Slots(%d): %d, want 0", c, got)
		}
	}
}

func TestPages(t *testing.T) {
	for _, x := range [][2]int{{0, 0}, {1, 1}, {2, 1}, {16, 1}, {17, 1}, {31, 1}, {32, 1}, {33, 2}, {63, 2}, {64, 2}, {65, 3}, {96, 3}, {97, 4}, {128, 4}, {129, 5}, {8191, 256}, {8192, 256}, {8193, 257}} {
		if got := class.Pages(x[0]); got != x[1] {
			t.Errorf("Pages(%d): %d, want %d", x[0], got, x[1])
		}
	}
	for n := -300; n <= 2000; n++ {
		if got := class.Pages(n); got != pagesOf(n) {
			t.Errorf("Pages(%d): %d, want %d", n, got, pagesOf(n))
		}
	}
}

func TestPagesFar(t *testing.T) {
	for _, n := range far {
		if n < 1 {
			if got := class.Pages(n); got != 0 {
				t.Errorf("Pages(%d): %d, want 0", n, got)
			}
		}
	}
	for _, x := range [][2]int{
		{1 << 20, 1 << 15}, {1<<20 + 1, 1<<15 + 1},
		{math.MaxInt32, 1 << 26}, {math.MaxInt32 + 1, 1 << 26}, {math.MaxInt32 + 2, 1<<26 + 1},
		{1<<62 - 1, 1 << 57}, {1 << 62, 1 << 57}, {1<<62 + 1, 1<<57 + 1},
		{math.MaxInt - 63, 1<<58 - 2}, {math.MaxInt - 62, 1<<58 - 1}, {math.MaxInt - 32, 1<<58 - 1}, {math.MaxInt - 31, 1<<58 - 1}, {math.MaxInt - 30, 1 << 58}, {math.MaxInt - 1, 1 << 58}, {math.MaxInt, 1 << 58},
	} {
		if got := class.Pages(x[0]); got != x[1] {
			t.Errorf("Pages(%d): %d, want %d", x[0], got, x[1])
		}
	}
}

// P3.2

func TestFit(t *testing.T) {
	for _, x := range []struct {
		n, align int
		want     fit
	}{
		{0, 1, fit{0, 0, 0, api.OK}}, {1, 1, fit{0, 0, 0, api.OK}}, {0, 2, fit{1, 0, 0, api.OK}}, {1, 2, fit{1, 0, 0, api.OK}}, {2, 1, fit{1, 0, 0, api.OK}},
		{3, 1, fit{2, 0, 0, api.OK}}, {4, 4, fit{2, 0, 0, api.OK}}, {5, 4, fit{3, 0, 0, api.OK}}, {8, 1, fit{3, 0, 0, api.OK}}, {9, 8, fit{4, 0, 0, api.OK}},
		{0, 16, fit{4, 0, 0, api.OK}}, {1, 16, fit{4, 0, 0, api.OK}}, {16, 1, fit{4, 0, 0, api.OK}}, {16, 16, fit{4, 0, 0, api.OK}},
		{17, 1, fit{-1, 1, 1, api.OK}}, {17, 16, fit{-1, 1, 1, api.OK}}, {16, 32, fit{-1, 1, 1, api.OK}}, {1, 32, fit{-1, 1, 1, api.OK}}, {0, 32, fit{-1, 1, 1, api.OK}},
		{0, 64, fit{-1, 1, 2, api.OK}}, {0, 128, fit{-1, 1, 4, api.OK}}, {1, 64, fit{-1, 1, 2, api.OK}}, {1, 128, fit{-1, 1, 4, api.OK}}, {16, 128, fit{-1, 1, 4, api.OK}},
		{32, 1, fit{-1, 1, 1, api.OK}}, {32, 32, fit{-1, 1, 1, api.OK}}, {32, 64, fit{-1, 1, 2, api.OK}}, {33, 1, fit{-1, 2, 1, api.OK}}, {33, 32, fit{-1, 2, 1, api.OK}}, {33, 128, fit{-1, 2, 4, api.OK}},
		{64, 64, fit{-1, 2, 2, api.OK}}, {65, 64, fit{-1, 3, 2, api.OK}}, {128, 128, fit{-1, 4, 4, api.OK}}, {129, 128, fit{-1, 5, 4, api.OK}}, {8192, 1, fit{-1, 256, 1, api.OK}}, {8193, 1, fit{-1, 257, 1, api.OK}},
		{math.MaxInt, 1, fit{-1, 1 << 58, 1, api.OK}}, {math.MaxInt, 128, fit{-1, 1 << 58, 4, api.OK}}, {math.MaxInt - 31, 16, fit{-1, 1<<58 - 1, 1, api.OK}}, {math.MaxInt - 30, 64, fit{-1, 1 << 58, 2, api.OK}},
	} {
		if got := asked(x.n, x.align); got != x.want {
			t.Errorf("Fit(%d, %d): %+v, want %+v", x.n, x.align, got, x.want)
		}
	}
}

func TestFitOfAllNear(t *testing.T) {
	for n := -40; n <= 300; n++ {
		for align := -140; align <= 300; align++ {
			if got, want := asked(n, align), wanted(n, align); got != want {
				t.Fatalf("Fit(%d, %d): %+v, want %+v", n, align, got, want)
			}
		}
	}
}

func TestFitRefused(t *testing.T) {
	none := fit{0, 0, 0, api.ErrArg}
	for _, align := range append([]int{0, 3, 5, 6, 7, 9, 15, 17, 31, 33, 63, 65, 96, 127, 129}, far...) {
		for _, n := range append([]int{0, 1, 3, 16, 17, 32, 33, 64, 300}, append(great, far...)...) {
			if got := asked(n, align); got != none {
				t.Errorf("Fit(%d, %d): %+v", n, align, got)
			}
		}
	}
	for _, align := range alignments {
		for _, n := range far {
			if n < 0 {
				if got := asked(n, align); got != none {
					t.Errorf("Fit(%d, %d): %+v", n, align, got)
				}
			}
		}
	}
}

func TestFitOfGreatSizes(t *testing.T) {
	for i, align := range alignments {
		step := []int{1, 1, 1, 1, 1, 1, 2, 4}[i]
		for _, n := range great {
			pages := n / 32
			if n%32 > 0 {
				pages++
			}
			if got, want := asked(n, align), (fit{-1, pages, step, api.OK}); got != want {
				t.Errorf("Fit(%d, %d): %+v, want %+v", n, align, got, want)
			}
		}
	}
}

// P3.3

func TestRounded(t *testing.T) {
	for _, x := range [][3]int{
		{0, 1, 1}, {1, 1, 1}, {2, 1, 2}, {3, 1, 4}, {4, 1, 4}, {5, 1, 8}, {8, 1, 8}, {9, 1, 16}, {16, 1, 16}, {17, 1, 32}, {31, 1, 32}, {32, 1, 32}, {33, 1, 64}, {34, 1, 64}, {64, 1, 64}, {65, 1, 96}, {8192, 1, 8192}, {8193, 1, 8224},
		{0, 2, 2}, {0, 8, 8}, {3, 8, 8}, {0, 16, 16}, {16, 16, 16}, {0, 32, 32}, {16, 32, 32}, {0, 64, 32}, {0, 128, 32}, {1, 128, 32}, {32, 128, 32}, {33, 32, 64}, {40, 64, 64}, {100, 128, 128}, {129, 128, 160},
		{math.MaxInt32, 1, 1 << 31}, {1<<62 + 1, 1, 1<<62 + 32}, {math.MaxInt - 63, 1, math.MaxInt - 63}, {math.MaxInt - 62, 4, math.MaxInt - 31}, {math.MaxInt - 31, 128, math.MaxInt - 31},
	} {
		if got, e := class.Rounded(x[0], x[1]); got != x[2] || e != api.OK {
			t.Errorf("Rounded(%d, %d): %d, error %d, want %d", x[0], x[1], got, e, x[2])
		}
	}
}

// TestRoundedBeyond holds that 32 for each page is reckoned as all numbers are, where it is beyond the greatest one.
func TestRoundedBeyond(t *testing.T) {
	for _, n := range []int{math.MaxInt - 30, math.MaxInt - 29, math.MaxInt - 1, math.MaxInt} {
		for _, align := range alignments {
			if got, e := class.Rounded(n, align); got != math.MinInt || e != api.OK {
				t.Errorf("Rounded(%d, %d): %d, error %d", n, align, got, e)
			}
		}
	}
}

func TestRoundedOfAllNear(t *testing.T) {
	for n := -40; n <= 300; n++ {
		for align := -140; align <= 300; align++ {
			f := wanted(n, align)
			want := 32 * f.pages
			if f.e == api.OK && f.class >= 0 {
				want = words[f.class]
			}
			if got, e := class.Rounded(n, align); got != want || e != f.e {
				t.Fatalf("Rounded(%d, %d): %d, error %d, want %d, error %d", n, align, got, e, want, f.e)
			}
		}
	}
}

func TestRoundedRefused(t *testing.T) {
	for _, align := range append([]int{0, 3, 5, 6, 7, 9, 15, 17, 31, 33, 63, 65, 96, 127, 129}, far...) {
		for _, n := range append([]int{0, 1, 16, 17, 33}, append(great, far...)...) {
			if got, e := class.Rounded(n, align); got != 0 || e != api.ErrArg {
				t.Errorf("Rounded(%d, %d): %d, error %d", n, align, got, e)
			}
		}
	}
	for _, align := range alignments {
		for _, n := range []int{-1, -2, -32, math.MinInt + 1, math.MinInt} {
			if got, e := class.Rounded(n, align); got != 0 || e != api.ErrArg {
				t.Errorf("Rounded(%d, %d): %d, error %d", n, align, got, e)
			}
		}
	}
}

// P3.4

// TestLeast asks all numbers near which are classes, and holds Of's against all of them.
func TestLeast(t *testing.T) {
	for n := -40; n <= 300; n++ {
		least := -1
		for c := 40; c >= -40; c-- {
			if size := class.Size(c); size > 0 && size >= n && (least < 0 || size <= class.Size(least)) {
				least = c
			}
		}
		if got := class.Of(n); got != least {
			t.Errorf("Of(%d): %d, the least class that is great enough is %d", n, got, least)
		}
	}
}

func TestFilled(t *testing.T) {
	for c := range api.Classes {
		if n := class.Size(c) * class.Slots(c); n != api.PageWords {
			t.Errorf("class %d: a page's blocks have %d words, want %d", c, n, api.PageWords)
		}
	}
}

// P3.5

func TestAligned(t *testing.T) {
	for n := 0; n <= 300; n++ {
		for _, align := range alignments {
			c, pages, step, e := class.Fit(n, align)
			if e != api.OK {
				t.Fatalf("Fit(%d, %d): error %d", n, align, e)
			}
			if c < 0 && step < 1 || c >= 0 && class.Size(c) < 1 {
				t.Fatalf("Fit(%d, %d): class %d, by %d pages", n, align, c, step)
			}
			if c >= 0 {
				for a := 0; a <= 1024; a += class.Size(c) {
					if a%align != 0 || pages != 0 || step != 0 {
						t.Fatalf("Fit(%d, %d): class %d, %d pages by %d, may stand at %d", n, align, c, pages, step, a)
					}
				}
				continue
			}
			for p := 0; p <= 64; p += step {
				for _, user := range []int{128, 512} {
					if a := user + 32*p; a%align != 0 {
						t.Fatalf("Fit(%d, %d): by %d pages, may stand at %d", n, align, step, a)
					}
				}
			}
		}
	}
}

// The chapter's example.
func TestExample(t *testing.T) {
	if got := class.Of(5); got != 3 {
		t.Errorf("Of(5): %d", got)
	}
	if got := asked(3, 8); got != (fit{3, 0, 0, api.OK}) {
		t.Errorf("Fit(3, 8): %+v", got)
	}
	if got := asked(40, 64); got != (fit{-1, 2, 2, api.OK}) {
		t.Errorf("Fit(40, 64): %+v", got)
	}
}

// What is answered hangs on the arguments alone, whatever was asked ahead.
func TestSameAgain(t *testing.T) {
	for n := 300; n >= -40; n-- {
		for _, align := range append([]int{0, 3, 129}, alignments...) {
			if got, want := asked(n, align), wanted(n, align); got != want || asked(n, align) != want {
				t.Errorf("Fit(%d, %d): %+v, want %+v", n, align, got, want)
			}
		}
	}
	for c := range words {
		if class.Size(c) != words[c] || class.Slots(c) != blocks[c] {
			t.Errorf("class %d has become one of %d words, %d a page", c, class.Size(c), class.Slots(c))
		}
	}
}
