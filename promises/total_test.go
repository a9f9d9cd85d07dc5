package promises

import (
	"math/rand"
	"testing"

	"cooper/api"
	"cooper/atoms"
	"cooper/cnf"
	"cooper/solve"
	"cooper/total"
)

// TestCountsOfLongRows is P23.1 for rows whose models can't all be gone through.
func TestCountsOfLongRows(t *testing.T) {
	r := rand.New(rand.NewSource(23))
	for range 60 {
		n := 1 + r.Intn(12)
		table, b := atoms.New(api.MaxAtoms), cnf.New()
		for i := range n {
			table.Number(api.Atom{Kind: api.NodeAtom, A: i})
		}
		var row []int
		for range 1 + r.Intn(40) {
			row = append(row, (1+r.Intn(n))*(1-2*r.Intn(2)))
		}
		most := 1 + r.Intn(45)
		count := total.Count(table, b, row, most)
		if len(count) != min(most, len(row)) {
			t.Fatal(len(count), most, len(row))
		}
		s := solve.New(table.Len(), b.Clauses())
		for range 10 {
			assume := make([]int, n)
			so := 0
			for i := range assume {
				assume[i] = (i + 1) * (1 - 2*r.Intn(2))
			}
			for _, l := range row {
				if assume[max(l, -l)-1] == l {
					so++
				}
			}
			a := s.Solve(assume, 1<<20)
			if a.State != api.Sat {
				t.Fatal("a choice without a model", a.State)
			}
			for i, l := range count {
				if l := l * (1 - 2*b2i(so > i)); s.Solve(append(assume, l), 1<<20).State != api.Unsat {
					t.Fatalf("%d are so; the count at %d may be otherwise", so, i)
				}
			}
		}
	}
}

func b2i(b bool) int {
	if b {
		return 1
	}
	return 0
}
