package sorted_test

import (
	"math"
	"slices"
	"testing"

	"assart/sorted"
)

// pair is a key and what it has.
type pair struct {
	k int
	v string
}

// edges are keys that the least and the greatest numbers are near of, and those around 0.
var edges = []int{math.MinInt, math.MinInt + 1, -1 << 32, -1 << 31, -2, -1, 0, 1, 2, 1<<31 - 1, 1 << 31, 1 << 32, math.MaxInt - 1, math.MaxInt}

// made is a map that these were put into, one behind the other.
func made(t *testing.T, l ...pair) *sorted.Map[string] {
	t.Helper()
	m := sorted.New[string]()
	for i, p := range l {
		fresh := !slices.ContainsFunc(l[:i], func(q pair) bool { return q.k == p.k })
		if got := m.Put(p.k, p.v); got != fresh {
			t.Fatalf("Put(%d, %q), the %d-th: %t", p.k, p.v, i, got)
		}
	}
	return m
}

// has holds all that a map tells of itself against what it should have, rising.
func has[V comparable](t *testing.T, m *sorted.Map[V], keys []int, vals []V) {
	t.Helper()
	var none V
	if m.Len() != len(keys) || !slices.Equal(m.Keys(), keys) {
		t.Fatalf("%d keys %v, want %v", m.Len(), m.Keys(), keys)
	}
	for i, k := range keys {
		if at, v, ok := m.At(i); at != k || v != vals[i] || !ok {
			t.Fatalf("At(%d): %d, %v, %t; want %d, %v", i, at, v, ok, k, vals[i])
		}
		if v, ok := m.Get(k); v != vals[i] || !ok {
			t.Fatalf("Get(%d): %v, %t; want %v", k, v, ok, vals[i])
		}
	}
	for _, i := range []int{math.MinInt, -2, -1, len(keys), len(keys) + 1, 1 << 32, math.MaxInt} {
		if at, v, ok := m.At(i); at != 0 || v != none || ok {
			t.Fatalf("At(%d) of %d: %d, %v, %t", i, len(keys), at, v, ok)
		}
	}
	for _, k := range notOf(keys) {
		if v, ok := m.Get(k); v != none || ok {
			t.Fatalf("Get(%d), which is not there: %v, %t", k, v, ok)
		}
	}
	i := 0
	sorted.Each(m, func(k int, v V) bool {
		if i >= len(keys) || k != keys[i] || v != vals[i] {
			t.Fatalf("Each, the %d-th: %d, %v", i, k, v)
		}
		i++
		return true
	})
	if i != len(keys) {
		t.Fatalf("Each asked of %d, of %d", i, len(keys))
	}
}

// notOf are numbers beside the keys, and at the edges, that are none of them.
func notOf(keys []int) []int {
	var l []int
	for _, k := range keys {
		l = append(l, k-1, k+1)
	}
	return slices.DeleteFunc(append(l, edges...), func(k int) bool { return slices.Contains(keys, k) })
}

// each are the keys that Each asks of, when the n-th one is answered by false.
func each[V any](m *sorted.Map[V], n int) []int {
	var l []int
	sorted.Each(m, func(k int, _ V) bool {
		l = append(l, k)
		return len(l) != n
	})
	return l
}

// P6.1

func TestNew(t *testing.T) {
	m := sorted.New[string]()
	if m == nil {
		t.Fatal("New: nil")
	}
	has(t, m, nil, nil)
	if m.Cut(0) || m.Len() != 0 {
		t.Error("Cut of a map without keys")
	}
	n := sorted.New[string]()
	if !m.Put(0, "a") || !n.Put(0, "b") {
		t.Error("Put into maps without keys")
	}
	has(t, m, []int{0}, []string{"a"})
	has(t, n, []int{0}, []string{"b"})
}

func TestPut(t *testing.T) {
	for _, x := range []struct {
		put  []pair
		keys []int
		vals []string
	}{
		{[]pair{{7, "a"}}, []int{7}, []string{"a"}},
		{[]pair{{1, "a"}, {2, "b"}, {3, "c"}}, []int{1, 2, 3}, []string{"a", "b", "c"}},
		{[]pair{{3, "a"}, {2, "b"}, {1, "c"}}, []int{1, 2, 3}, []string{"c", "b", "a"}},
		{[]pair{{1, "a"}, {5, "b"}, {3, "c"}, {4, "d"}, {2, "e"}}, []int{1, 2, 3, 4, 5}, []string{"a", "e", "c", "d", "b"}},
		{[]pair{{1, "a"}, {1, "b"}}, []int{1}, []string{"b"}},
		{[]pair{{1, "a"}, {2, "b"}, {3, "c"}, {1, "d"}, {3, "e"}, {2, "f"}, {2, "f"}}, []int{1, 2, 3}, []string{"d", "f", "e"}},
		{[]pair{{4, ""}, {4, "a"}, {4, ""}}, []int{4}, []string{""}},
		{[]pair{{0, "a"}, {-1, "b"}, {1, "c"}}, []int{-1, 0, 1}, []string{"b", "a", "c"}},
		{[]pair{{math.MaxInt, "a"}, {math.MinInt, "b"}}, []int{math.MinInt, math.MaxInt}, []string{"b", "a"}},
		{[]pair{{math.MinInt, "a"}, {math.MaxInt, "b"}, {0, "c"}, {math.MinInt, "d"}, {math.MaxInt, "e"}}, []int{math.MinInt, 0, math.MaxInt}, []string{"d", "c", "e"}},
		{[]pair{{math.MinInt + 1, "a"}, {math.MinInt, "b"}, {math.MaxInt, "c"}, {math.MaxInt - 1, "d"}, {1 << 32, "e"}, {1, "f"}}, []int{math.MinInt, math.MinInt + 1, 1, 1 << 32, math.MaxInt - 1, math.MaxInt}, []string{"b", "a", "f", "e", "d", "c"}},
	} {
		has(t, made(t, x.put...), x.keys, x.vals)
	}
}

func TestCut(t *testing.T) {
	all := []pair{{math.MinInt, "a"}, {-5, "b"}, {0, "c"}, {5, "d"}, {math.MaxInt, "e"}}
	for i, p := range all {
		m := made(t, all...)
		for _, k := range []int{math.MinInt + 1, -6, -4, -1, 1, 4, 6, math.MaxInt - 1} {
			if m.Cut(k) {
				t.Errorf("Cut(%d), which is not there", k)
			}
		}
		if !m.Cut(p.k) || m.Cut(p.k) {
			t.Errorf("Cut(%d), and again", p.k)
		}
		var keys []int
		var vals []string
		for _, q := range slices.Delete(slices.Clone(all), i, i+1) {
			keys, vals = append(keys, q.k), append(vals, q.v)
		}
		has(t, m, keys, vals)
		if !m.Put(p.k, "again") || m.Put(p.k, p.v) {
			t.Errorf("Put(%d), when it was cut, and again", p.k)
		}
		has(t, m, []int{math.MinInt, -5, 0, 5, math.MaxInt}, []string{"a", "b", "c", "d", "e"})
	}
}

// TestCutAll cuts all keys, from either end or from the middle on, and puts one into what is left.
func TestCutAll(t *testing.T) {
	for _, order := range [][]int{{1, 2, 3}, {3, 2, 1}, {2, 1, 3}, {2, 3, 1}} {
		m := made(t, pair{1, "a"}, pair{2, "b"}, pair{3, "c"})
		for i, k := range order {
			if !m.Cut(k) || m.Len() != 2-i {
				t.Errorf("Cut(%d) of %v: %d left", k, order, m.Len())
			}
		}
		has(t, m, nil, nil)
		if m.Cut(order[0]) || !m.Put(2, "d") {
			t.Errorf("%v: Cut, and Put, when all was cut", order)
		}
		has(t, m, []int{2}, []string{"d"})
	}
}

func TestAt(t *testing.T) {
	m := made(t, pair{9, "c"}, pair{-9, "a"}, pair{3, "b"})
	for _, x := range []struct {
		i, k int
		v    string
		ok   bool
	}{
		{0, -9, "a", true}, {1, 3, "b", true}, {2, 9, "c", true}, {3, 0, "", false}, {4, 0, "", false}, {-1, 0, "", false}, {-2, 0, "", false}, {-3, 0, "", false},
		{9, 0, "", false}, {-9, 0, "", false}, {math.MinInt, 0, "", false}, {math.MaxInt, 0, "", false}, {1 << 32, 0, "", false}, {1<<32 + 1, 0, "", false}, {-1 << 32, 0, "", false},
	} {
		if k, v, ok := m.At(x.i); k != x.k || v != x.v || ok != x.ok {
			t.Errorf("At(%d): %d, %q, %t", x.i, k, v, ok)
		}
	}
	if k, v, ok := sorted.New[string]().At(0); k != 0 || v != "" || ok {
		t.Errorf("At(0) of a map without keys: %d, %q, %t", k, v, ok)
	}
}

func TestKeys(t *testing.T) {
	m := made(t, pair{3, "c"}, pair{1, "a"}, pair{2, "b"})
	l := m.Keys()
	l[0], l[2] = 70, -70
	l = append(l[:1], 8, 9, 10, 11)
	has(t, m, []int{1, 2, 3}, []string{"a", "b", "c"})
	l = m.Keys()
	_ = append(l, 4, 5, 6)
	m.Put(0, "z")
	m.Put(4, "d")
	m.Cut(2)
	if !slices.Equal(l, []int{1, 2, 3}) {
		t.Errorf("keys that were told, when the map is another one: %v", l)
	}
	has(t, m, []int{0, 1, 3, 4}, []string{"z", "a", "c", "d"})
}

func TestCopy(t *testing.T) {
	m := made(t, pair{1, "a"}, pair{2, "b"}, pair{3, "c"})
	n := m.Copy()
	if n == nil || n == m {
		t.Fatal("Copy is none, or the map itself")
	}
	has(t, n, []int{1, 2, 3}, []string{"a", "b", "c"})
	if n.Put(2, "x") || !n.Put(0, "y") || !n.Put(4, "w") || !n.Cut(1) {
		t.Error("what is done to the copy")
	}
	has(t, m, []int{1, 2, 3}, []string{"a", "b", "c"})
	has(t, n, []int{0, 2, 3, 4}, []string{"y", "x", "c", "w"})
	o := m.Copy()
	if m.Put(3, "z") || !m.Put(-1, "v") || !m.Put(9, "u") || !m.Cut(2) {
		t.Error("what is done to the map")
	}
	has(t, o, []int{1, 2, 3}, []string{"a", "b", "c"})
	has(t, n, []int{0, 2, 3, 4}, []string{"y", "x", "c", "w"})
	has(t, m, []int{-1, 1, 3, 9}, []string{"v", "a", "z", "u"})
	none := sorted.New[string]()
	p := none.Copy()
	if p == nil || !p.Put(1, "a") || none.Len() != 0 {
		t.Error("the copy of a map without keys")
	}
}

// TestCopyRoom puts onto the ends of a map and its copy, in turn, whatever room their lists have left.
func TestCopyRoom(t *testing.T) {
	for n := range 40 {
		m := sorted.New[int]()
		for i := range n {
			m.Put(i, i)
		}
		c := m.Copy()
		m.Put(n, 100)
		c.Put(n+1, 200)
		if v, ok := m.Get(n); v != 100 || !ok || m.Len() != n+1 {
			t.Errorf("the map of %d, behind Put: %v", n, m.Keys())
		}
		if v, ok := c.Get(n + 1); v != 200 || !ok || c.Len() != n+1 {
			t.Errorf("the copy of %d, behind Put: %v", n, c.Keys())
		}
	}
}

func TestEach(t *testing.T) {
	m := made(t, pair{3, "c"}, pair{math.MinInt, "m"}, pair{1, "a"}, pair{math.MaxInt, "x"}, pair{2, "b"})
	all := []int{math.MinInt, 1, 2, 3, math.MaxInt}
	for n := 1; n <= len(all); n++ {
		if got := each(m, n); !slices.Equal(got, all[:n]) {
			t.Errorf("Each, stopped at the %d-th: %v", n, got)
		}
	}
	if got := each(m, 0); !slices.Equal(got, all) {
		t.Errorf("Each, not stopped: %v", got)
	}
	if got := each(sorted.New[string](), 0); len(got) != 0 {
		t.Errorf("Each of a map without keys: %v", got)
	}
	sorted.Each(m, nil)
	has(t, m, all, []string{"m", "a", "b", "c", "x"})
}

// TestEachChanged changes the map while it is gone through: of what was there ahead is asked, and of nothing else.
func TestEachChanged(t *testing.T) {
	m := made(t, pair{1, "a"}, pair{2, "b"}, pair{3, "c"})
	var got []pair
	sorted.Each(m, func(k int, v string) bool {
		got = append(got, pair{k, v})
		if k == 2 {
			m.Put(0, "x")
			m.Put(9, "z")
			m.Put(3, "y")
		}
		return m.Cut(k)
	})
	if !slices.Equal(got, []pair{{1, "a"}, {2, "b"}, {3, "c"}}) {
		t.Errorf("asked of %v", got)
	}
	has(t, m, []int{0, 9}, []string{"x", "z"})
}

// TestNil asks each function of a map that is nil.
func TestNil(t *testing.T) {
	var m *sorted.Map[string]
	for range 2 {
		has(t, m, nil, nil)
		for _, k := range edges {
			if m.Put(k, "a") || m.Cut(k) {
				t.Errorf("Put, or Cut, of %d: true", k)
			}
		}
		if m.Copy() != nil || m.Keys() != nil {
			t.Error("Copy, or Keys: not nil")
		}
		if got := each(m, 1); len(got) != 0 {
			t.Errorf("Each: %v", got)
		}
		sorted.Each(m, nil)
	}
}

// TestTypes holds maps of things of other types.
func TestTypes(t *testing.T) {
	ofType(t, 5, -6, 0)
	ofType(t, true, false, true)
	ofType(t, 1.5, math.Inf(1), -0.5)
	ofType(t, pair{1, "a"}, pair{}, pair{2, ""})
	ofType(t, [3]int{1, 2, 3}, [3]int{}, [3]int{7})
	ofType(t, struct{}{}, struct{}{}, struct{}{})
	ofType(t, &pair{1, "a"}, nil, &pair{1, "a"})
	ofType(t, any(1), any(nil), any("x"))
	ofType(t, sorted.New[int](), nil, sorted.New[int]())
}

// ofType puts three things falling, cuts the middle one, and puts one again.
func ofType[V comparable](t *testing.T, a, b, c V) {
	t.Helper()
	m := sorted.New[V]()
	if !m.Put(3, c) || !m.Put(2, b) || !m.Put(1, a) {
		t.Error("Put")
	}
	has(t, m, []int{1, 2, 3}, []V{a, b, c})
	n := m.Copy()
	if !m.Cut(2) || m.Put(3, a) {
		t.Error("Cut, and Put again")
	}
	has(t, m, []int{1, 3}, []V{a, a})
	has(t, n, []int{1, 2, 3}, []V{a, b, c})
}

// TestLists holds a map of lists and functions, which nothing can be held against.
func TestLists(t *testing.T) {
	m := sorted.New[[]int]()
	l := []int{1, 2}
	m.Put(4, l)
	m.Put(3, nil)
	if v, ok := m.Get(4); !ok || &v[0] != &l[0] || len(v) != 2 {
		t.Errorf("Get of a list: %v, %t", v, ok)
	}
	if v, ok := m.Get(3); v != nil || !ok {
		t.Errorf("Get of a list that is nil: %v, %t", v, ok)
	}
	f := sorted.New[func() int]()
	f.Put(1, func() int { return 7 })
	if _, v, ok := f.At(0); !ok || v() != 7 {
		t.Error("At of a function")
	}
	if _, v, ok := f.At(1); ok || v != nil {
		t.Error("At of no function")
	}
}

// P6.2

// orders are all orders of the first n places.
func orders(n int) [][]int {
	if n == 0 {
		return [][]int{nil}
	}
	var l [][]int
	for _, o := range orders(n - 1) {
		for i := range n {
			l = append(l, slices.Insert(slices.Clone(o), i, n-1))
		}
	}
	return l
}

func TestAnyOrder(t *testing.T) {
	keys := []int{math.MinInt, -3, -1, 0, 2, math.MaxInt}
	vals := []string{"a", "b", "c", "d", "e", "f"}
	for _, o := range orders(len(keys)) {
		m := sorted.New[string]()
		for _, i := range o {
			if !m.Put(keys[i], vals[i]) {
				t.Fatalf("%v: Put(%d): false", o, keys[i])
			}
		}
		if !slices.Equal(m.Keys(), keys) {
			t.Fatalf("%v: %v", o, m.Keys())
		}
		has(t, m, keys, vals)
	}
}

// P6.3

// plain is a map that is kept as a list of pairs in the order in which they came, and looked through from end to end.
type plain []pair

func (p plain) find(k int) int {
	return slices.IndexFunc(p, func(q pair) bool { return q.k == k })
}

func (p plain) sorted() ([]int, []string) {
	l := slices.Clone(p)
	slices.SortFunc(l, func(a, b pair) int {
		if a.k < b.k {
			return -1
		}
		return 1
	})
	var keys []int
	var vals []string
	for _, q := range l {
		keys, vals = append(keys, q.k), append(vals, q.v)
	}
	return keys, vals
}

// TestOtherKeys puts and cuts made numbers, and holds all keys against the plain list each time.
func TestOtherKeys(t *testing.T) {
	x := uint64(88172645463325252)
	m := sorted.New[string]()
	var p plain
	for n := range 4000 {
		x ^= x << 13
		x ^= x >> 7
		x ^= x << 17
		k := int(x>>8)%40 - 20
		if x>>60 == 0 {
			k = edges[int(x>>8)%len(edges)]
		}
		i := p.find(k)
		if x&7 < 3+uint64(n/800%2)*2 {
			if m.Cut(k) != (i >= 0) {
				t.Fatalf("Cut(%d): %t", k, i < 0)
			}
			if i >= 0 {
				p = slices.Delete(p, i, i+1)
			}
		} else {
			v := string(rune('a' + x>>32%26))
			if m.Put(k, v) != (i < 0) {
				t.Fatalf("Put(%d): %t", k, i >= 0)
			}
			if i < 0 {
				p = append(p, pair{k, v})
			} else {
				p[i].v = v
			}
		}
		keys, vals := p.sorted()
		has(t, m, keys, vals)
	}
}

// TestMany puts many keys rising, falling and from the ends to the middle, and cuts each second one.
func TestMany(t *testing.T) {
	const n = 5000
	for name, key := range map[string]func(i int) int{
		"rising":  func(i int) int { return i },
		"falling": func(i int) int { return n - 1 - i },
		"inward":  func(i int) int { return i/2 + i%2*(n-1-i/2-i/2) },
	} {
		m := sorted.New[int]()
		for i := range n {
			if k := key(i); !m.Put(k, 3*k) {
				t.Fatalf("%s: Put(%d): false", name, k)
			}
		}
		for i := 1; i < n; i += 2 {
			if !m.Cut(i) {
				t.Fatalf("%s: Cut(%d): false", name, i)
			}
		}
		if m.Len() != n/2 {
			t.Fatalf("%s: %d keys", name, m.Len())
		}
		for i := range n / 2 {
			if k, v, ok := m.At(i); k != 2*i || v != 6*i || !ok {
				t.Fatalf("%s: At(%d): %d, %d, %t", name, i, k, v, ok)
			}
		}
	}
}

// The chapter's example.
func TestExample(t *testing.T) {
	m := sorted.New[string]()
	if !m.Put(5, "a") || !m.Put(2, "b") || m.Put(5, "c") {
		t.Error("Put 5, 2, 5")
	}
	has(t, m, []int{2, 5}, []string{"b", "c"})
}
