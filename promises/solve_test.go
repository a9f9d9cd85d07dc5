package promises

import (
	"math/rand"
	"testing"

	"cooper/api"
	"cooper/cnf"
	"cooper/rup"
	"cooper/solve"
)

// TestProved is P21.3, where much is learnt and forgotten: three literals a clause, about as many clauses as leave a model or just none.
func TestProved(t *testing.T) {
	r := rand.New(rand.NewSource(3))
	states := map[uint8]int{}
	gone := 0
	for range 12 {
		n := 110
		var clauses [][]int
		for range 470 {
			var c []int
			for range 3 {
				c = append(c, (1+r.Intn(n))*(1-2*r.Intn(2)))
			}
			clauses = append(clauses, c)
		}
		s := solve.New(n, clauses)
		for _, assume := range [][]int{{1, -2, 3}, {-1}, nil} {
			a := s.Solve(assume, 1<<20)
			states[a.State]++
			var goal []int
			for _, l := range a.Core {
				goal = append(goal, -l)
			}
			if a.State == api.Sat && !cnf.Holds(formed(clauses), a.Model) || a.State == api.Unsat && !rup.Proves(n, clauses, s.Proof(), goal) {
				t.Fatal(a.State)
			}
		}
		if at := rup.Check(n, clauses, s.Proof()); at != -1 {
			t.Fatalf("the step %d is wrong", at)
		}
		for _, step := range s.Proof() {
			if step.Gone {
				gone++
			}
		}
	}
	if states[api.Sat] < 3 || states[api.Unsat] < 3 {
		t.Error(states)
	}
	t.Log(states, gone)
}

// formed are the clauses that have a form.
func formed(clauses [][]int) [][]int {
	var out [][]int
	for _, c := range clauses {
		if form, ok := cnf.Form(c); ok {
			out = append(out, form)
		}
	}
	return out
}
