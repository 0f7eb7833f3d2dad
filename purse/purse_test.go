package purse_test

import (
	"math"
	"slices"
	"testing"

	"assart/api"
	"assart/purse"
)

// odd are numbers at which numbers are greatest, least, or no addresses; some of them wrap round when something is added or taken away.
var odd = []int{math.MinInt, math.MinInt + 1, math.MinInt32, -1 << 20, -17, -2, -1, 0, 1, 17, 1 << 20, 1 << 31, 1 << 32, 1 << 40, 1 << 62, math.MaxInt - 1, math.MaxInt}

// none are numbers of no class; some of them would be one's, if only their lower bits counted.
var none = []int{math.MinInt, math.MinInt + 1, math.MinInt + 4, math.MinInt32, -256, -5, -4, -3, -2, -1, 5, 6, 7, 8, 9, 31, 256, 1 << 16, 1 << 31, 1 << 32, 1<<32 + 2, 1 << 62, math.MaxInt - 1, math.MaxInt}

// plain is what a purse is to have of each class.
type plain [api.Classes][]int

// with tells plain lists of which a class has other addresses. No list is shared with anybody.
func (w plain) with(c int, list []int) plain {
	var x plain
	for k := range w {
		x[k] = slices.Clone(w[k])
	}
	x[c] = slices.Clone(list)
	return x
}

// all tells all addresses, class by class.
func (w plain) all() []int {
	var all []int
	for c := range w {
		all = append(all, w[c]...)
	}
	return all
}

// near tells numbers that may be addresses of the purse, or are just beside one.
func (w plain) near() []int {
	near := slices.Clone(odd)
	for _, a := range w.all() {
		near = append(near, a-1, a, a+1)
	}
	return near
}

// holds holds all that a purse tells against what it is to have.
func (w plain) holds(t *testing.T, what string, p purse.Purse) {
	t.Helper()
	for c := range w {
		if n := p.Len(c); n != len(w[c]) {
			t.Errorf("%s: Len(%d) is %d, want %d", what, c, n, len(w[c]))
		}
		if got := p.List(c); !slices.Equal(got, w[c]) {
			t.Errorf("%s: List(%d) is %v, want %v", what, c, got, w[c])
		}
	}
	all := w.all()
	if got := p.All(); !slices.Equal(got, all) {
		t.Errorf("%s: All is %v, want %v", what, got, all)
	}
	for _, a := range w.near() {
		if got := p.Has(a); got != slices.Contains(all, a) {
			t.Errorf("%s, with %v: Has(%d) is %t", what, all, a, got)
		}
	}
}

// push holds Push of a class against what it is to do, and tells the purse behind it, and what that is to have.
func push(t *testing.T, p purse.Purse, w plain, c, a, limit int) (purse.Purse, plain) {
	t.Helper()
	want, ok := w, len(w[c]) < limit
	if ok {
		want = w.with(c, append(slices.Clone(w[c]), a))
	}
	q, got := p.Push(c, a, limit)
	if got != ok {
		t.Errorf("with %v: Push(%d, %d, %d) is %t", w, c, a, limit, got)
	}
	want.holds(t, "what Push told", q)
	w.holds(t, "the purse behind Push", p)
	return q, want
}

// pop holds Pop of a class likewise.
func pop(t *testing.T, p purse.Purse, w plain, c int) (purse.Purse, plain) {
	t.Helper()
	want, last, ok := w, 0, len(w[c]) > 0
	if ok {
		rest := len(w[c]) - 1
		want, last = w.with(c, w[c][:rest]), w[c][rest]
	}
	q, x, got := p.Pop(c)
	if x != last || got != ok {
		t.Errorf("with %v: Pop(%d) is %d, %t, want %d, %t", w, c, x, got, last, ok)
	}
	want.holds(t, "what Pop told", q)
	w.holds(t, "the purse behind Pop", p)
	return q, want
}

// filled tells a purse that has so many addresses of each class, all of them others, and what it is to have.
func filled(t *testing.T, numbers [api.Classes]int) (purse.Purse, plain) {
	t.Helper()
	var p purse.Purse
	var w plain
	for c, n := range numbers {
		for i := range n {
			p, w = push(t, p, w, c, 1000*(c+1)+3*i, math.MaxInt)
		}
	}
	return p, w
}

// several calls f with purses that have several of each class, of some, of one, and of none.
func several(t *testing.T, f func(p purse.Purse, w plain)) {
	t.Helper()
	for _, numbers := range [][api.Classes]int{{}, {1}, {0, 0, 0, 0, 1}, {0, 3, 0, 2, 0}, {2, 0, 5, 0, 1}, {0, 0, 9}, {1, 1, 1, 1, 1}, {4, 8, 3, 7, 5}, {9, 9, 9, 9, 9}} {
		f(filled(t, numbers))
	}
}

// P13.1

// TestZero asks the zero purse.
func TestZero(t *testing.T) {
	var p purse.Purse
	plain{}.holds(t, "the zero purse", p)
	for c := range api.Classes {
		pop(t, p, plain{}, c)
		push(t, p, plain{}, c, 7, 1)
		push(t, p, plain{}, c, 0, 1)
		push(t, p, plain{}, c, 7, 0)
	}
}

// TestPush pushes on each class, where each class has some, and where it has none.
func TestPush(t *testing.T) {
	several(t, func(p purse.Purse, w plain) {
		for c := range api.Classes {
			push(t, p, w, c, 77, math.MaxInt)
			push(t, p, w, c, 77, 10)
		}
	})
}

// TestLimit pushes with limits below 0, with 0, with one less than there are, just as many, and more.
func TestLimit(t *testing.T) {
	several(t, func(p purse.Purse, w plain) {
		for c := range api.Classes {
			n := len(w[c])
			for _, limit := range append([]int{n - 2, n - 1, n, n + 1, n + 2}, odd...) {
				push(t, p, w, c, 77, limit)
			}
		}
	})
}

// TestLimitReached pushes up to a limit, and twice beyond, and once more behind Pop. Other classes' addresses do not count.
func TestLimitReached(t *testing.T) {
	for c := range api.Classes {
		for _, limit := range []int{1, 2, 3, 8, 30} {
			p, w := filled(t, [api.Classes]int{2, 2, 2, 2, 2})
			for i := range limit + 2 {
				p, w = push(t, p, w, c, i, limit)
			}
			if n := p.Len(c); n != max(limit, 2) {
				t.Errorf("with the limit %d: Len(%d) is %d", limit, c, n)
			}
			p, w = pop(t, p, w, c)
			p, w = push(t, p, w, c, -5, limit)
			push(t, p, w, c, -6, limit)
		}
	}
}

// TestNoClass asks of classes that there are none of.
func TestNoClass(t *testing.T) {
	several(t, func(p purse.Purse, w plain) {
		for _, c := range none {
			for _, limit := range []int{math.MinInt, -1, 0, 1, 8, 100, math.MaxInt} {
				q, ok := p.Push(c, 7, limit)
				if ok {
					t.Errorf("Push(%d, 7, %d) is true", c, limit)
				}
				w.holds(t, "Push of no class", q)
			}
			q, x, ok := p.Pop(c)
			if x != 0 || ok {
				t.Errorf("Pop(%d) is %d, %t", c, x, ok)
			}
			w.holds(t, "Pop of no class", q)
			if n := p.Len(c); n != 0 {
				t.Errorf("Len(%d) is %d", c, n)
			}
			if list := p.List(c); len(list) != 0 {
				t.Errorf("List(%d) is %v", c, list)
			}
		}
		w.holds(t, "the purse behind calls of no class", p)
	})
}

// TestPop pops of each class until it has none, and once more, where other classes have some, and where they have none.
func TestPop(t *testing.T) {
	several(t, func(p purse.Purse, w plain) {
		for c := range api.Classes {
			q, x := p, w
			for range len(w[c]) + 2 {
				q, x = pop(t, q, x, c)
			}
			w.holds(t, "the purse that all were popped of", p)
		}
	})
}

// TestPopNone pops of the one class that has none.
func TestPopNone(t *testing.T) {
	for c := range api.Classes {
		numbers := [api.Classes]int{3, 3, 3, 3, 3}
		numbers[c] = 0
		p, w := filled(t, numbers)
		q, x, ok := p.Pop(c)
		if x != 0 || ok {
			t.Errorf("Pop(%d) is %d, %t", c, x, ok)
		}
		w.holds(t, "Pop of a class without any", q)
	}
}

// TestAll pushes on the classes in an order that is not theirs: All goes by classes, and of each class the one that came first is ahead.
func TestAll(t *testing.T) {
	var p purse.Purse
	for i, c := range []int{4, 2, 0, 3, 4, 1, 0, 2, 4, 3} {
		p, _ = p.Push(c, 90-i, 8)
	}
	if got, want := p.All(), []int{88, 84, 85, 89, 83, 87, 81, 90, 86, 82}; !slices.Equal(got, want) {
		t.Errorf("All is %v, want %v", got, want)
	}
	if got, want := p.List(4), []int{90, 86, 82}; !slices.Equal(got, want) {
		t.Errorf("List(4) is %v, want %v", got, want)
	}
	p, x, ok := p.Pop(4)
	if x != 82 || !ok {
		t.Errorf("Pop(4) is %d, %t", x, ok)
	}
	if got, want := p.All(), []int{88, 84, 85, 89, 83, 87, 81, 90, 86}; !slices.Equal(got, want) {
		t.Errorf("All behind Pop(4) is %v, want %v", got, want)
	}
}

// has holds Has against what it is to tell.
func has(t *testing.T, what string, p purse.Purse, a int, want bool) {
	t.Helper()
	if p.Has(a) != want {
		t.Errorf("%s: Has(%d) is not %t", what, a, want)
	}
}

// TestHas asks of an address that is in a purse, that was popped of it, and that is in it twice: of one class, and of two.
func TestHas(t *testing.T) {
	for c := range api.Classes {
		for d := range api.Classes {
			for _, a := range odd {
				var p purse.Purse
				has(t, "the zero purse", p, a, false)
				once, _ := p.Push(c, a, 2)
				has(t, "in it", once, a, true)
				has(t, "the zero purse behind Push", p, a, false)
				twice, _ := once.Push(d, a, 2)
				has(t, "in it twice", twice, a, true)
				left, _, _ := twice.Pop(c)
				has(t, "popped, and in it once more", left, a, true)
				gone, _, _ := left.Pop(d)
				has(t, "popped", gone, a, false)
				has(t, "the purse behind Pop", left, a, true)
				other, _ := gone.Push(c, a^1, 2)
				has(t, "another one pushed", other, a, false)
			}
		}
	}
}

// TestNumbers keeps addresses of any number, the same ones twice too.
func TestNumbers(t *testing.T) {
	var p purse.Purse
	var w plain
	for i, a := range append(slices.Clone(odd), odd...) {
		p, w = push(t, p, w, i%api.Classes, a, 30)
		p, w = push(t, p, w, 2, a, 60)
	}
	for c := range api.Classes {
		for range len(w[c]) + 1 {
			p, w = pop(t, p, w, c)
		}
	}
	w.holds(t, "all popped", p)
}

// TestMany keeps far more addresses than a worker ever does.
func TestMany(t *testing.T) {
	const many = 2000
	var p purse.Purse
	for a := range many {
		p, _ = p.Push(a%2, a, many)
	}
	if p.Len(0) != many/2 || p.Len(1) != many/2 || len(p.All()) != many {
		t.Errorf("Len is %d, %d", p.Len(0), p.Len(1))
	}
	for a := many - 1; a >= 0; a-- {
		q, x, ok := p.Pop(a % 2)
		if x != a || !ok {
			t.Fatalf("Pop(%d) is %d, %t, want %d", a%2, x, ok, a)
		}
		p = q
	}
	plain{}.holds(t, "all popped", p)
}

// P13.2

// TestTwo makes two purses of one by Push, each of other addresses, and each once more.
func TestTwo(t *testing.T) {
	for c := range api.Classes {
		for n := range 35 {
			numbers := [api.Classes]int{1, 1, 1, 1, 1}
			numbers[c] = n
			p, w := filled(t, numbers)
			p1, w1 := push(t, p, w, c, 7, 99)
			p2, w2 := push(t, p, w, c, 8, 99)
			p11, w11 := push(t, p1, w1, c, 71, 99)
			p12, w12 := push(t, p1, w1, c, 72, 99)
			p21, w21 := push(t, p2, w2, c, 81, 99)
			p22, w22 := push(t, p2, w2, c, 82, 99)
			w.holds(t, "the first one", p)
			w1.holds(t, "with 7", p1)
			w2.holds(t, "with 8", p2)
			w11.holds(t, "with 7, 71", p11)
			w12.holds(t, "with 7, 72", p12)
			w21.holds(t, "with 8, 81", p21)
			w22.holds(t, "with 8, 82", p22)
		}
	}
}

// TestPushBehindPop pops some of a purse and pushes as many others, and more: that which had them has them.
func TestPushBehindPop(t *testing.T) {
	for c := range api.Classes {
		for n := range 10 {
			for back := range n + 1 {
				numbers := [api.Classes]int{2, 2, 2, 2, 2}
				numbers[c] = n
				p, w := filled(t, numbers)
				q, x := p, w
				for range back {
					q, x = pop(t, q, x, c)
				}
				r, y := q, x
				for i := range back + 2 {
					r, y = push(t, r, y, c, -9-i, 99)
				}
				w.holds(t, "the first one", p)
				x.holds(t, "the one that some were popped of", q)
				y.holds(t, "the one with others", r)
			}
		}
	}
}

// TestValue gives a purse another name: that is gone on with, and the first one is not, and the other way round.
func TestValue(t *testing.T) {
	p, w := filled(t, [api.Classes]int{3, 0, 2, 0, 5})
	for c := range api.Classes {
		q := p
		q, x := push(t, q, w, c, 6, 9)
		q, x = push(t, q, x, c, 5, 9)
		w.holds(t, "the first one", p)
		kept := q
		q, _ = pop(t, q, x, c)
		push(t, q, x.with(c, x[c][:len(x[c])-1]), c, 4, 9)
		x.holds(t, "the one that was kept", kept)
	}
}

// TestRefused goes on with what a refused call told: it is the same purse, and apart.
func TestRefused(t *testing.T) {
	several(t, func(p purse.Purse, w plain) {
		for c := range api.Classes {
			full, _ := p.Push(c, 1, len(w[c]))
			other, _ := p.Push(-1, 1, 99)
			bare, _, _ := p.Pop(api.Classes)
			for i, q := range []purse.Purse{full, other, bare} {
				w.holds(t, "refused", q)
				push(t, q, w, c, 50+i, 99)
				pop(t, q, w, c)
			}
			w.holds(t, "the first one", p)
		}
	})
}

// spoil changes all of a list, and what it may have behind its end.
func spoil(list []int) {
	for i := range list {
		list[i] = -77
	}
	list = append(list, -78, -79)
	for i := range list[:cap(list)] {
		list[:cap(list)][i] = -80
	}
}

// TestTold changes what List and All told, and puts more on it: no purse, and nothing else that was told, is changed by that.
func TestTold(t *testing.T) {
	several(t, func(p purse.Purse, w plain) {
		q, x := p, w
		for c := range api.Classes {
			q, x = push(t, q, x, c, 31, 99)
		}
		all := p.All()
		for c := range api.Classes {
			list, again := p.List(c), p.List(c)
			spoil(list)
			if !slices.Equal(again, w[c]) {
				t.Errorf("List(%d) that was told ahead is %v, want %v", c, again, w[c])
			}
			w.holds(t, "what List told was changed", p)
			x.holds(t, "what List told was changed", q)
		}
		if !slices.Equal(all, w.all()) {
			t.Errorf("All that was told ahead is %v, want %v", all, w.all())
		}
		list := p.List(4)
		spoil(all)
		if !slices.Equal(list, w[4]) {
			t.Errorf("List(4) that was told ahead is %v, want %v", list, w[4])
		}
		w.holds(t, "what All told was changed", p)
		x.holds(t, "what All told was changed", q)
	})
}

// TestToldStays goes on with a purse in several ways: what List and All told ahead of that stays.
func TestToldStays(t *testing.T) {
	several(t, func(p purse.Purse, w plain) {
		for c := range api.Classes {
			list, all := p.List(c), p.All()
			q, x := p, w
			for i := range 3 {
				q, x = push(t, q, x, c, -i, 99)
			}
			q, x = p, w
			for range 3 {
				q, x = pop(t, q, x, c)
			}
			for i := range 4 {
				q, x = push(t, q, x, c, -10-i, 99)
			}
			if !slices.Equal(list, w[c]) || !slices.Equal(all, w.all()) {
				t.Errorf("List(%d) that was told ahead is %v, and All %v; want %v", c, list, all, w)
			}
		}
	})
}

// made is a purse, and what it is to have.
type made struct {
	p purse.Purse
	w plain
}

// TestAllWays makes all rows of up to six calls of Push and Pop of two classes, each from where the one ahead led to, and holds all purses, the ones in between too, against plain lists when all are made.
func TestAllWays(t *testing.T) {
	row := []made{{}}
	from := 0
	for depth := range 6 {
		end := len(row)
		for ; from < end; from++ {
			for kind := range 4 {
				row = append(row, goOn(t, row[from], kind%2*3, kind/2, 100*depth+from+kind, 3))
			}
		}
	}
	for _, m := range row {
		m.w.holds(t, "a purse of all ways", m.p)
	}
}

// goOn makes a purse of one that was made, by Push (0) or Pop.
func goOn(t *testing.T, m made, c, kind, a, limit int) made {
	t.Helper()
	want := m.w
	n := len(want[c])
	if kind == 0 {
		q, ok := m.p.Push(c, a, limit)
		if ok != (n < limit) {
			t.Errorf("with %v: Push(%d, %d, %d) is %t", want, c, a, limit, ok)
		}
		if n < limit {
			want = want.with(c, append(slices.Clone(want[c]), a))
		}
		return made{q, want}
	}
	last := 0
	if n > 0 {
		last = want[c][n-1]
		want = want.with(c, want[c][:n-1])
	}
	q, x, ok := m.p.Pop(c)
	if x != last || ok != (n > 0) {
		t.Errorf("with %v: Pop(%d) is %d, %t", m.w, c, x, ok)
	}
	return made{q, want}
}

// TestRows makes many purses, each of any one that was made ahead, and holds all of them against plain lists, while what they told is changed.
func TestRows(t *testing.T) {
	for seed := range 40 {
		x := uint64(seed)*2862933555777941757 + 3037000493
		next := func(n int) int {
			x ^= x << 13
			x ^= x >> 7
			x ^= x << 17
			return int(x >> 20 % uint64(n))
		}
		row := []made{{}}
		for range 300 {
			m := row[len(row)-1]
			if next(3) == 0 {
				m = row[next(len(row))]
			}
			row = append(row, goOn(t, m, next(api.Classes), next(3)/2, next(50)-10, 1+next(9)))
			spoil(m.p.List(next(api.Classes)))
			spoil(m.p.All())
		}
		for _, m := range row {
			m.w.holds(t, "a purse of a row", m.p)
		}
	}
}

// The chapter's example.
func TestExample(t *testing.T) {
	var p purse.Purse
	p, one := p.Push(2, 7, 2)
	p, two := p.Push(2, 8, 2)
	if !one || !two {
		t.Errorf("Push is %t, %t", one, two)
	}
	q, a, ok := p.Pop(2)
	if a != 8 || !ok {
		t.Errorf("Pop(2) is %d, %t", a, ok)
	}
	if got := q.All(); !slices.Equal(got, []int{7}) {
		t.Errorf("All behind Pop(2) is %v", got)
	}
	if got := p.All(); !slices.Equal(got, []int{7, 8}) {
		t.Errorf("All of the one ahead is %v", got)
	}
}
