// Package arena is layer 1: words with addresses, and each access counted (see shared/doc/01-arena.md).
package arena

import "assart/api"

// Arena is words with addresses.
type Arena struct {
	words []int
	count int
}

// access is one access of a word: where it is, and what it does there.
type access struct {
	addr int
	turn func(word int) (next, told int, e api.Errno)
}

// New makes an arena of so many words.
func New(n int) (*Arena, api.Errno) {
	if n < 1 || n > api.MaxWords {
		return nil, api.ErrArg
	}
	return &Arena{words: make([]int, n)}, api.OK
}

// do makes an access. All accesses go this way, so that none is forgotten in the count, and none writes another word than its own.
func (m *Arena) do(x access) (int, api.Errno) {
	if m == nil {
		return 0, api.ErrNil
	}
	if x.addr < 0 || x.addr >= len(m.words) {
		return 0, api.ErrRange
	}
	m.count++
	next, told, e := x.turn(m.words[x.addr])
	m.words[x.addr] = next
	return told, e
}

// Load tells a word.
func (m *Arena) Load(a int) (int, api.Errno) {
	return m.do(access{addr: a, turn: func(word int) (int, int, api.Errno) {
		return word, word, api.OK
	}})
}

// Store lets a word be x.
func (m *Arena) Store(a, x int) api.Errno {
	_, e := m.do(access{addr: a, turn: func(int) (int, int, api.Errno) {
		return x, 0, api.OK
	}})
	return e
}

// Swap tells a word, and lets it be x, if it is old.
func (m *Arena) Swap(a, old, x int) (int, api.Errno) {
	return m.do(access{addr: a, turn: func(word int) (int, int, api.Errno) {
		if word != old {
			return word, word, api.OK
		}
		return x, word, api.OK
	}})
}

// Bump lets a word be one more, if it is less than most. A word that is refused is told all the same: whoever is at the clock's end has to know where that is.
func (m *Arena) Bump(a, most int) (int, api.Errno) {
	return m.do(access{addr: a, turn: func(word int) (int, int, api.Errno) {
		if word >= most {
			return word, word, api.ErrClock
		}
		return word + 1, word + 1, api.OK
	}})
}

// Len tells how many words there are.
func (m *Arena) Len() int {
	if m == nil {
		return 0
	}
	return len(m.words)
}

// Count tells how many accesses there were.
func (m *Arena) Count() int {
	if m == nil {
		return 0
	}
	return m.count
}

// Words tells all words.
func (m *Arena) Words() []int {
	if m == nil {
		return nil
	}
	l := make([]int, len(m.words))
	copy(l, m.words)
	return l
}

// Copy tells an arena apart.
func (m *Arena) Copy() *Arena {
	if m == nil {
		return nil
	}
	return &Arena{words: m.Words(), count: m.count}
}
