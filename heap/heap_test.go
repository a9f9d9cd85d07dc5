package heap_test

import (
	"math"
	"math/rand"
	"testing"

	"cooper/heap"
)

func TestExample(t *testing.T) {
	h := heap.New(3)
	h.Bump(2, 5)
	for _, want := range []int{2, 1, 3, 0, 0} {
		if got := h.Pop(); got != want {
			t.Errorf("%d, not %d", got, want)
		}
	}
}

func TestNew(t *testing.T) {
	for n, want := range map[int]int{0: 0, -1: 0, math.MinInt: 0, 1: 1, 65536: 65536, 65537: 65536, math.MaxInt: 65536} {
		h := heap.New(n)
		if h.Len() != want || h.Has(want+1) || want > 0 && (!h.Has(1) || !h.Has(want)) || h.Has(0) || h.Has(-1) {
			t.Errorf("New(%d) has %d", n, h.Len())
		}
		if want > 0 && (h.Score(want) != 0 || h.Pop() != 1 || h.Len() != want-1) {
			t.Errorf("New(%d)", n)
		}
	}
}

func TestPush(t *testing.T) {
	h := heap.New(2)
	if h.Push(1) || h.Push(0) || h.Push(3) || h.Push(-1) || h.Push(math.MinInt) || h.Len() != 2 {
		t.Error("what is in it, or is no atom, is put in")
	}
	h.Bump(2, 1)
	if h.Pop() != 2 || h.Has(2) || h.Len() != 1 || h.Score(2) != 1 {
		t.Error("what is taken out keeps its score")
	}
	h.Bump(2, 1)
	if !h.Push(2) || h.Push(2) || !h.Has(2) || h.Len() != 2 || h.Score(2) != 2 || h.Pop() != 2 {
		t.Error("what was taken out is put in again")
	}
}

func TestHalving(t *testing.T) {
	const top = 1 << 62
	h := heap.New(3)
	h.Bump(1, 7)
	h.Bump(2, top)
	if h.Score(1) != 7 || h.Score(2) != top {
		t.Error("2^62 is not too high")
	}
	h.Bump(2, 1)
	if h.Score(1) != 3 || h.Score(2) != top/2 {
		t.Error(h.Score(1), h.Score(2))
	}
	h.Bump(1, top)
	if h.Score(1) != top/2+1 || h.Score(2) != top/4 {
		t.Error(h.Score(1), h.Score(2))
	}
	h.Bump(3, math.MaxUint64)
	if h.Score(3) != math.MaxUint64>>2 || h.Score(2) != top/16 {
		t.Error(h.Score(1), h.Score(2), h.Score(3))
	}
	for _, no := range []int{0, 4, -1, math.MaxInt, math.MinInt} {
		h.Bump(no, math.MaxUint64)
		if h.Score(2) != top/16 || h.Score(no) != 0 {
			t.Errorf("Bump of %d, that is no atom, changes something", no)
		}
	}
	tie := heap.New(3)
	tie.Bump(3, 3)
	tie.Bump(1, 2)
	tie.Bump(2, 2)
	tie.Halve()
	if tie.Pop() != 1 || tie.Pop() != 2 || tie.Pop() != 3 {
		t.Error("of those with the same score the lowest number is the first one")
	}
}

// plain is a heap that is kept as plain lists.
type plain struct {
	scores map[int]uint64
	in     map[int]bool
	n      int
}

func (p *plain) bump(atom int, by uint64) {
	if atom < 1 || atom > p.n {
		return
	}
	for by > 1<<62 || p.scores[atom]+by > 1<<62 {
		p.halve()
		by /= 2
	}
	p.scores[atom] += by
}

func (p *plain) halve() {
	for a := range p.scores {
		p.scores[a] /= 2
	}
}

func (p *plain) pop() int {
	best := 0
	for a := 1; a <= p.n; a++ {
		if p.in[a] && (best == 0 || p.scores[a] > p.scores[best]) {
			best = a
		}
	}
	delete(p.in, best)
	return best
}

// TestRows is P17.1: rows of calls.
func TestRows(t *testing.T) {
	r := rand.New(rand.NewSource(17))
	for range 300 {
		n := r.Intn(12)
		h := heap.New(n)
		p := &plain{scores: map[int]uint64{}, in: map[int]bool{}, n: n}
		for a := 1; a <= n; a++ {
			p.in[a] = true
		}
		for range 100 {
			a := r.Intn(n+3) - 1
			switch r.Intn(7) {
			case 0:
				by := uint64(r.Intn(4))
				h.Bump(a, by)
				p.bump(a, by)
			case 1:
				by := r.Uint64() >> r.Intn(64)
				h.Bump(a, by)
				p.bump(a, by)
			case 2:
				h.Halve()
				p.halve()
			case 3, 4:
				want := a >= 1 && a <= n && !p.in[a]
				if want {
					p.in[a] = true
				}
				if h.Push(a) != want {
					t.Fatalf("Push(%d) = %v", a, !want)
				}
			default:
				if got, want := h.Pop(), p.pop(); got != want {
					t.Fatalf("Pop() = %d, not %d", got, want)
				}
			}
			if h.Len() != len(p.in) {
				t.Fatalf("Len() = %d, not %d", h.Len(), len(p.in))
			}
			for a := -1; a <= n+1; a++ {
				if h.Score(a) != p.scores[a] || h.Has(a) != p.in[a] {
					t.Fatalf("%d: %d, %v, not %d, %v", a, h.Score(a), h.Has(a), p.scores[a], p.in[a])
				}
			}
		}
	}
}

func TestNil(t *testing.T) {
	var h *heap.Heap
	h.Bump(1, 1)
	h.Halve()
	if h.Push(1) || h.Pop() != 0 || h.Has(1) || h.Len() != 0 || h.Score(1) != 0 {
		t.Error("a nil heap has something")
	}
}
