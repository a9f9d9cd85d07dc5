package rup_test

import (
	"fmt"
	"math"
	"math/rand"
	"slices"
	"testing"

	"cooper/api"
	"cooper/cnf"
	"cooper/rup"
)

func step(clause ...int) api.Step { return api.Step{Clause: clause} }

func gone(clause ...int) api.Step { return api.Step{Gone: true, Clause: clause} }

func TestFollows(t *testing.T) {
	clauses := [][]int{{1, 2}, {-1, 2}, {-2, 3, 4}, {5, -5}, {9}, {0, 1}}
	tests := []struct {
		clause []int
		want   bool
	}{
		{[]int{2}, true},
		{[]int{1}, false},
		{[]int{3}, false},
		{[]int{3, 4}, true},
		{[]int{4, 3, 3}, true},
		{[]int{-2, 3, 4}, true},
		{[]int{2, 5}, true},
		{[]int{5}, false},
		{[]int{-5}, false},
		{[]int{1, 2}, true},
		{nil, false},
		{[]int{3, -3}, true},
		{[]int{6, -6}, false},
		{[]int{2, 6}, false},
		{[]int{2, -6}, false},
		{[]int{2, 0}, false},
		{[]int{1, -1, 0}, false},
		{[]int{2, math.MinInt}, false},
		{[]int{2, math.MaxInt}, false},
	}
	for _, x := range tests {
		if rup.Follows(5, clauses, x.clause) != x.want {
			t.Errorf("Follows(%v) = %v", x.clause, !x.want)
		}
	}
	if !rup.Follows(2, [][]int{{}}, nil) || !rup.Follows(2, [][]int{{}}, []int{1}) || !rup.Follows(2, [][]int{{1}, {-1}}, nil) || rup.Follows(2, nil, nil) {
		t.Error("Follows of none")
	}
	// It is looked for what follows at once, not for what follows.
	if rup.Follows(3, [][]int{{1, 2, 3}, {1, 2, -3}, {1, -2, 3}, {1, -2, -3}}, []int{1}) {
		t.Error("that does not follow at once")
	}
	for _, n := range []int{0, -1, math.MinInt} {
		if rup.Follows(n, [][]int{{1}}, []int{1}) || rup.Follows(n, [][]int{{1}}, nil) || !rup.Follows(n, [][]int{{}}, nil) {
			t.Errorf("of %d atoms", n)
		}
	}
	if !rup.Follows(math.MaxInt, [][]int{{65536}}, []int{65536}) || rup.Follows(math.MaxInt, [][]int{{65537}}, []int{65537}) || rup.Follows(65535, [][]int{{65536}}, []int{65536}) {
		t.Error("of many atoms")
	}
}

func TestCheck(t *testing.T) {
	clauses := [][]int{{1, 2}, {-1, 2}, {-2, 3}, {7}, {4, -4}}
	tests := []struct {
		proof []api.Step
		want  int
	}{
		{nil, -1},
		{[]api.Step{step(2)}, -1},
		{[]api.Step{step(3)}, -1},
		{[]api.Step{step(1)}, 0},
		{[]api.Step{step(2), step(1)}, 1},
		{[]api.Step{step(2), gone(2), step(2)}, -1},
		{[]api.Step{gone(1, 2), step(2)}, 1},
		{[]api.Step{gone(2, 1), step(2)}, 1},
		{[]api.Step{gone(2, 1, 2), step(2)}, 1},
		{[]api.Step{step(2), gone(1, 2), gone(-1, 2), step(2, 3), step(3)}, -1},
		{[]api.Step{step(2), gone(2), gone(2)}, 2},
		{[]api.Step{gone(1, 3)}, 0},
		{[]api.Step{gone(1)}, 0},
		{[]api.Step{gone()}, 0},
		{[]api.Step{step(1, 2), gone(1, 2), gone(2, 1), gone(1, 2)}, 3},
		{[]api.Step{step(1, 2), gone(1, 2), step(2)}, -1},
		{[]api.Step{gone(7)}, 0},
		{[]api.Step{gone(4, -4)}, 0},
		{[]api.Step{step(4, -4)}, 0},
		{[]api.Step{step(2), step(0)}, 1},
		{[]api.Step{step(2, 0)}, 0},
		{[]api.Step{step(2), step(2, 6)}, 1},
		{[]api.Step{step(2, -7)}, 0},
		{[]api.Step{step(math.MinInt)}, 0},
		{[]api.Step{gone(math.MinInt)}, 0},
		{[]api.Step{gone(0)}, 0},
		{[]api.Step{step(2, 2, 5)}, -1},
		{[]api.Step{step(3, 2), step()}, 1},
	}
	for _, x := range tests {
		if got := rup.Check(5, clauses, x.proof); got != x.want {
			t.Errorf("Check(%v) = %d, not %d", x.proof, got, x.want)
		}
	}
	none := [][]int{{1}, {-1}}
	for _, proof := range [][]api.Step{{step()}, {step(2), step(-2)}, {step(), step(2)}, {step(), gone(1), step(-2), step(2)}} {
		if got := rup.Check(2, none, proof); got != -1 {
			t.Errorf("Check(%v) = %d", proof, got)
		}
	}
	if got := rup.Check(2, none, []api.Step{step(), gone(1), gone(), step(2)}); got != 3 {
		t.Errorf("%d", got)
	}
	if got := rup.Check(2, [][]int{{}, {}}, []api.Step{gone(), step(), gone(), gone(), step(1)}); got != 4 {
		t.Errorf("%d", got)
	}
	for _, n := range []int{0, -1, math.MinInt} {
		if rup.Check(n, [][]int{{1}}, []api.Step{step(1)}) != 0 || rup.Check(n, nil, nil) != -1 {
			t.Errorf("of %d atoms", n)
		}
	}
}

func TestProves(t *testing.T) {
	clauses := [][]int{{1, 2}, {-1, 2}, {-2, 3}}
	proof := []api.Step{step(2), step(3, 1), gone(1, 2)}
	tests := []struct {
		proof []api.Step
		goal  []int
		want  bool
	}{
		{proof, []int{2}, true},
		{proof, []int{2, 2}, true},
		{proof, []int{4, 2}, true},
		{proof, []int{1, 3}, true},
		{proof, []int{3, 1, -2}, true},
		{proof, []int{3}, false},
		{proof, []int{1}, false},
		{proof, []int{-2}, false},
		{proof, []int{-2, 3}, false},
		{proof, nil, false},
		{nil, []int{1, 2}, false},
		{[]api.Step{gone(1, 2)}, []int{1, 2}, false},
		{[]api.Step{step(2), step(1)}, []int{2}, false},
		{[]api.Step{step(1), step(2)}, []int{2}, false},
		{[]api.Step{step(2), step(0)}, []int{2}, false},
		{[]api.Step{step(2), gone(5)}, []int{2}, false},
	}
	for _, x := range tests {
		if rup.Proves(4, clauses, x.proof, x.goal) != x.want {
			t.Errorf("Proves(%v, %v) = %v", x.proof, x.goal, !x.want)
		}
	}
	empty := []api.Step{step()}
	for _, goal := range [][]int{nil, {1}, {3, -2}} {
		if !rup.Proves(3, [][]int{{1}, {-1}}, empty, goal) {
			t.Errorf("the empty clause is one all of whose literals %v has", goal)
		}
	}
	rup.Proves(3, clauses, proof, []int{0, math.MinInt, 1, -1})
}

// follows looks through all clauses, again and again.
func follows(clauses [][]int, clause []int) bool {
	value := map[int]bool{}
	for _, l := range clause {
		value[-l] = true
	}
	for changed := true; changed; {
		changed = false
		for _, c := range clauses {
			open, so := []int{}, false
			for _, l := range c {
				so = so || value[l]
				if !value[-l] {
					open = append(open, l)
				}
			}
			if !so && len(open) == 0 {
				return true
			}
			if !so && len(open) == 1 {
				value[open[0]] = true
				changed = true
			}
		}
	}
	return false
}

// TestRandom is P22.1 and P22.2: proofs of random steps, held against what is found by looking through all clauses, and all models.
func TestRandom(t *testing.T) {
	r := rand.New(rand.NewSource(22))
	right := 0
	for range 3000 {
		n := 2 + r.Intn(4)
		random := func() []int {
			var c []int
			for range 1 + r.Intn(3) {
				l := (1 + r.Intn(n)) * (1 - 2*r.Intn(2))
				if !slices.Contains(c, l) && !slices.Contains(c, -l) {
					c = append(c, l)
				}
			}
			form, _ := cnf.Form(c)
			return form
		}
		var clauses [][]int
		for range r.Intn(4 * n) {
			clauses = append(clauses, random())
		}
		now := slices.Clone(clauses)
		var proof []api.Step
		want := -1
		for range 12 {
			s := api.Step{Gone: r.Intn(4) == 0, Clause: random()}
			if s.Gone && len(now) > 0 && r.Intn(8) > 0 {
				s.Clause = slices.Clone(now[r.Intn(len(now))])
				r.Shuffle(len(s.Clause), func(i, k int) { s.Clause[i], s.Clause[k] = s.Clause[k], s.Clause[i] })
			}
			form, _ := cnf.Form(s.Clause)
			at := slices.IndexFunc(now, func(c []int) bool { return slices.Equal(c, form) })
			if got := rup.Follows(n, now, form); got != follows(now, form) {
				t.Fatalf("Follows(%v, %v) = %v", now, form, got)
			}
			wrong := s.Gone && at < 0 || !s.Gone && !follows(now, form)
			if wrong && r.Intn(10) > 0 {
				continue
			}
			proof = append(proof, s)
			if wrong {
				want = len(proof) - 1
				break
			}
			if s.Gone {
				now = slices.Delete(now, at, at+1)
			} else {
				now = append(now, form)
			}
		}
		kept := fmt.Sprint(clauses, proof)
		if got := rup.Check(n, clauses, proof); got != want {
			t.Fatalf("Check(%v, %v) = %d, not %d", clauses, proof, got, want)
		}
		if fmt.Sprint(clauses, proof) != kept {
			t.Fatal("what was handed in is changed")
		}
		if want >= 0 {
			continue
		}
		right += len(proof)
		for bits := range 1 << n {
			model := make([]bool, n)
			for i := range model {
				model[i] = bits>>i&1 > 0
			}
			if !cnf.Holds(clauses, model) {
				continue
			}
			for _, s := range proof {
				if !s.Gone && !cnf.Holds([][]int{s.Clause}, model) {
					t.Fatalf("%v does not hold in %v", s, model)
				}
			}
		}
	}
	if right < 3000 {
		t.Errorf("just %d right steps", right)
	}
}
