package solve_test

import (
	"fmt"
	"math"
	"math/rand"
	"slices"
	"testing"

	"cooper/api"
	"cooper/cnf"
	"cooper/solve"
)

// hasModel tells, by going through all, whether clauses have a model in which some literals are so.
func hasModel(n int, clauses [][]int, so []int) bool {
	for bits := range 1 << n {
		model := make([]bool, n)
		for i := range model {
			model[i] = bits>>i&1 > 0
		}
		if cnf.Holds(clauses, model) && allSo(model, so) {
			return true
		}
	}
	return false
}

func allSo(model []bool, l []int) bool {
	return !slices.ContainsFunc(l, func(x int) bool { return model[max(x, -x)-1] != (x > 0) })
}

// follows tells whether there is a conflict when the opposites of a clause are so.
func follows(clauses [][]int, clause []int) bool {
	value := map[int]bool{}
	for _, l := range clause {
		value[-l] = true
	}
	for {
		changed := false
		for _, c := range clauses {
			open, last, so := 0, 0, false
			for _, l := range c {
				if value[l] {
					so = true
				} else if !value[-l] {
					open++
					last = l
				}
			}
			if so || open > 1 {
				continue
			}
			if open == 0 {
				return true
			}
			value[last] = true
			changed = true
		}
		if !changed {
			return false
		}
	}
}

// proved fails, if a step of a proof doesn't follow at once of clauses and those ahead of it.
func proved(t *testing.T, clauses [][]int, proof []api.Step) {
	t.Helper()
	now := slices.Clone(clauses)
	for i, step := range proof {
		form, ok := cnf.Form(step.Clause)
		if !ok || !slices.Equal(form, step.Clause) {
			t.Fatalf("the step %d is not in its form: %v", i, step)
		}
		if !step.Gone {
			if !follows(now, step.Clause) {
				t.Fatalf("the step %d does not follow: %v", i, step)
			}
			now = append(now, step.Clause)
			continue
		}
		at := -1
		for k, c := range now {
			if f, ok := cnf.Form(c); ok && slices.Equal(f, step.Clause) {
				at = k
			}
		}
		if at < 0 {
			t.Fatalf("the step %d forgets what isn't there: %v", i, step)
		}
		now = slices.Delete(now, at, at+1)
	}
}

func has(proof []api.Step, clause []int) bool {
	form, ok := cnf.Form(clause)
	return ok && slices.ContainsFunc(proof, func(s api.Step) bool { return !s.Gone && slices.Equal(s.Clause, form) })
}

func opposites(l []int) []int {
	var out []int
	for _, x := range l {
		out = append(out, -x)
	}
	return out
}

// inOrder tells whether a core is some of what was assumed, in their order, each once.
func inOrder(core, assume []int) bool {
	for i, l := range core {
		if slices.Contains(core[:i], l) {
			return false
		}
		k := slices.Index(assume, l)
		if k < 0 || i > 0 && slices.Index(assume, core[i-1]) > k {
			return false
		}
	}
	return true
}

func random(r *rand.Rand, n, count int) [][]int {
	var clauses [][]int
	for range count {
		var c []int
		for range 1 + r.Intn(4) {
			c = append(c, (1+r.Intn(n))*(1-2*r.Intn(2)))
		}
		if form, ok := cnf.Form(c); ok {
			clauses = append(clauses, form)
		}
	}
	return clauses
}

func TestExample(t *testing.T) {
	s := solve.New(2, [][]int{{1, 2}, {-1}})
	a := s.Solve(nil, 10)
	if a.State != api.Sat || !slices.Equal(a.Model, []bool{false, true}) || len(a.Core) != 0 || a.Conflicts != 0 {
		t.Error(a)
	}
}

// TestRight is P21.1 and P21.3, and that it ends (P21.2): up to eight atoms, asked again and again, with clauses added.
func TestRight(t *testing.T) {
	r := rand.New(rand.NewSource(21))
	states := map[uint8]int{}
	for range 1500 {
		n := 1 + r.Intn(8)
		clauses := random(r, n, r.Intn(4*n))
		s := solve.New(n, clauses)
		for range 5 {
			var assume []int
			for range r.Intn(5) {
				assume = append(assume, (1+r.Intn(n))*(1-2*r.Intn(2)))
			}
			kept := slices.Clone(assume)
			before := len(s.Proof())
			a := s.Solve(assume, 1<<20)
			if !slices.Equal(assume, kept) {
				t.Fatal("what was handed in is changed")
			}
			states[a.State]++
			switch a.State {
			case api.Sat:
				if len(a.Model) != n || !cnf.Holds(clauses, a.Model) || !allSo(a.Model, assume) || len(a.Core) != 0 {
					t.Fatalf("%v with %v: %v", clauses, assume, a)
				}
			case api.Unsat:
				if hasModel(n, clauses, a.Core) || !inOrder(a.Core, assume) || len(a.Model) != 0 {
					t.Fatalf("%v with %v: %v", clauses, assume, a)
				}
				if _, ok := cnf.Form(opposites(a.Core)); ok && !has(s.Proof(), opposites(a.Core)) {
					t.Fatalf("%v with %v: %v is not proved", clauses, assume, a)
				}
			default:
				t.Fatalf("%v with %v: %v", clauses, assume, a)
			}
			if a.Conflicts < 0 || len(s.Proof()) < before {
				t.Fatal(a)
			}
			proved(t, clauses, s.Proof())
			for _, c := range random(r, n, r.Intn(2)) {
				clauses = append(clauses, c)
				if !s.Add(c) {
					t.Fatalf("%v is left out", c)
				}
			}
		}
	}
	if states[api.Sat] < 1000 || states[api.Unsat] < 1000 {
		t.Error(states)
	}
}

func TestEmptyOnce(t *testing.T) {
	for _, clauses := range [][][]int{{{1}, {-1}}, {{}}, {{1, 2}, {1, -2}, {-1, 2}, {-1, -2}}} {
		s := solve.New(2, clauses)
		for range 3 {
			if a := s.Solve([]int{2, 1}, 100); a.State != api.Unsat || len(a.Core) != 0 {
				t.Errorf("%v: %v", clauses, a)
			}
		}
		n := 0
		for _, step := range s.Proof() {
			if len(step.Clause) == 0 {
				n++
			}
		}
		if n != 1 {
			t.Errorf("%v: the empty clause stands %d times in %v", clauses, n, s.Proof())
		}
	}
}

func TestCores(t *testing.T) {
	s := solve.New(5, [][]int{{-1, -2}, {3}})
	a := s.Solve([]int{4, 2, 2, 5, 1, 2}, 100)
	if a.State != api.Unsat || !slices.Equal(a.Core, []int{2, 1}) || !has(s.Proof(), []int{-1, -2}) {
		t.Error(a, s.Proof())
	}
	if a := s.Solve([]int{4, -3}, 100); a.State != api.Unsat || !slices.Equal(a.Core, []int{-3}) {
		t.Error(a)
	}
	// A literal and its opposite: the clause of theirs has no form.
	if a := s.Solve([]int{5, 4, -5}, 100); a.State != api.Unsat || !slices.Equal(a.Core, []int{5, -5}) {
		t.Error(a)
	}
	proved(t, [][]int{{-1, -2}, {3}}, s.Proof())
	// What was assumed is assumed no more.
	if a := s.Solve([]int{-5, 1}, 100); a.State != api.Sat || !allSo(a.Model, []int{-5, 1, -2, 3}) {
		t.Error(a)
	}
}

func TestNoLiteral(t *testing.T) {
	for _, clauses := range [][][]int{nil, {{}}, {{1}, {-1}}} {
		s := solve.New(3, clauses)
		for _, l := range []int{0, 4, -4, math.MaxInt, -math.MaxInt, math.MinInt} {
			a := s.Solve([]int{1, -1, l, 0, 9}, 100)
			if a.State != api.Unsat || !slices.Equal(a.Core, []int{l}) || len(a.Model) != 0 || len(s.Proof()) != 0 {
				t.Errorf("Solve of %d: %v, %v", l, a, s.Proof())
			}
			if a := s.Solve([]int{l}, 100); a.State != api.Unsat || !slices.Equal(a.Core, []int{l}) || len(s.Proof()) != 0 {
				t.Errorf("Solve of just %d: %v, %v", l, a, s.Proof())
			}
		}
	}
}

func TestLeftOut(t *testing.T) {
	s := solve.New(2, [][]int{{1, -1}, {3}, {0}, {2, 0}, {-3}, {math.MinInt}, {-2}})
	for _, c := range [][]int{{1, -1}, {3}, {-3, 1}, {0}, {math.MinInt}, {math.MaxInt}} {
		if s.Add(c) {
			t.Errorf("Add(%v)", c)
		}
	}
	if a := s.Solve(nil, 100); a.State != api.Sat || a.Model[1] {
		t.Error(a)
	}
	c := []int{1, 1}
	if !s.Add(c) || !slices.Equal(c, []int{1, 1}) {
		t.Error("what was handed in is changed")
	}
	c[0], c[1] = -1, -1
	if a := s.Solve(nil, 100); a.State != api.Sat || !a.Model[0] {
		t.Error(a)
	}
	if !s.Add(nil) {
		t.Error("the empty clause is one")
	}
	if a := s.Solve(nil, 100); a.State != api.Unsat || len(a.Core) != 0 {
		t.Error(a)
	}
}

func TestNew(t *testing.T) {
	for n, want := range map[int]int{0: 0, -1: 0, math.MinInt: 0, 5: 5, 65536: 65536, 65537: 65536, math.MaxInt: 65536} {
		if got := solve.New(n, nil).Atoms(); got != want {
			t.Errorf("New(%d): %d atoms", n, got)
		}
	}
	if a := solve.New(0, nil).Solve(nil, 0); a.State != api.Sat || len(a.Model) != 0 {
		t.Error(a)
	}
	if a := solve.New(65536, [][]int{{65536}}).Solve([]int{1}, 0); a.State != api.Sat || len(a.Model) != 65536 || !a.Model[65535] || !a.Model[0] {
		t.Error(a.State)
	}
}

// pigeons are clauses that k and one are in k places, each alone: there is no model.
func pigeons(k int) (int, [][]int) {
	var clauses [][]int
	at := func(p, place int) int { return p*k + place + 1 }
	for p := range k + 1 {
		var c []int
		for place := range k {
			c = append(c, at(p, place))
			for other := range p {
				clauses = append(clauses, []int{-at(p, place), -at(other, place)})
			}
		}
		clauses = append(clauses, c)
	}
	return (k + 1) * k, clauses
}

func TestBudget(t *testing.T) {
	n, clauses := pigeons(5)
	whole := solve.New(n, clauses).Solve(nil, 1<<20)
	if whole.State != api.Unsat || whole.Conflicts < 10 {
		t.Fatal(whole)
	}
	for _, budget := range []int{0, 1, 2, 9, whole.Conflicts - 1, whole.Conflicts} {
		s := solve.New(n, clauses)
		a := s.Solve(nil, budget)
		if budget < whole.Conflicts && (a.State != api.Spent || a.Conflicts != budget+1 || len(a.Core)+len(a.Model) != 0) {
			t.Errorf("of the budget %d: %v", budget, a)
		}
		if budget >= whole.Conflicts && a.State != api.Unsat {
			t.Errorf("of the budget %d: %v", budget, a)
		}
		proved(t, clauses, s.Proof())
	}
	for _, budget := range []int{-1, -7, math.MinInt} {
		if a := solve.New(n, clauses).Solve(nil, budget); a.State != api.Spent || a.Conflicts != 1 {
			t.Errorf("of the budget %d: %v", budget, a)
		}
	}
	// Bit by bit it comes to the same.
	s := solve.New(n, clauses)
	for i := 0; ; i++ {
		a := s.Solve([]int{1}, 7)
		if a.State == api.Unsat {
			break
		}
		if a.State != api.Spent || a.Conflicts != 8 || i > 1000 {
			t.Fatal(i, a)
		}
	}
	proved(t, clauses, s.Proof())
	if a := solve.New(2, nil).Solve([]int{1, -1}, 0); a.State != api.Unsat {
		t.Error("no conflict is none too much:", a)
	}
}

// TestForgets: also where much is forgotten each step follows.
func TestForgets(t *testing.T) {
	n, clauses := pigeons(6)
	s := solve.New(n, clauses)
	if a := s.Solve(nil, 1<<20); a.State != api.Unsat || len(a.Core) != 0 {
		t.Fatal(a)
	}
	proved(t, clauses, s.Proof())
}

// TestTheSame is P21.4.
func TestTheSame(t *testing.T) {
	r := rand.New(rand.NewSource(4))
	for range 20 {
		clauses := random(r, 20, 90)
		first := ""
		for range 3 {
			s := solve.New(20, clauses)
			got := fmt.Sprint(s.Solve([]int{3, -7}, 1000), s.Solve(nil, 1000), s.Solve([]int{-3, 9, 11}, 3), s.Proof())
			if first == "" {
				first = got
			}
			if got != first {
				t.Fatalf("%s\n%s", first, got)
			}
		}
	}
}

func TestAnswersAreNew(t *testing.T) {
	clauses := [][]int{{1, 2}, {1, -2}, {-1, 2, 3}, {-1, -2, 3}}
	s := solve.New(4, clauses)
	a := s.Solve([]int{-3, 4}, 100)
	p := s.Proof()
	if a.State != api.Unsat || len(p) == 0 || len(p[0].Clause) == 0 {
		t.Fatal(a, p)
	}
	want := fmt.Sprint(s.Proof())
	a.Core[0], p[0].Clause[0] = 77, 77
	clauses[0][0] = 4
	if fmt.Sprint(s.Proof()) != want {
		t.Error("a proof is changed from outside")
	}
	b := s.Solve(nil, 100)
	b.Model[0] = !b.Model[0]
	if c := s.Solve(nil, 100); c.State != api.Sat || !c.Model[2] {
		t.Error(c)
	}
}

func TestNil(t *testing.T) {
	var s *solve.Solver
	a := s.Solve([]int{0}, 5)
	if s.Add([]int{1}) || a.State != api.Spent || len(a.Model)+len(a.Core) != 0 || len(s.Proof()) != 0 || s.Atoms() != 0 {
		t.Error("a nil solver", a)
	}
}
