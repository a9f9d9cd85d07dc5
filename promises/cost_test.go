package promises

import (
	"math/rand"
	"testing"

	"cooper/api"
	"cooper/cost"
	"cooper/formula"
)

// TestTermsWeigh is P24.2: in each model terms weigh what the graph costs.
func TestTermsWeigh(t *testing.T) {
	r := rand.New(rand.NewSource(24))
	some := 0
	var most api.Cost
	for range 300 {
		w := random(t, r)
		f, err := formula.Build(w.x, w.q, api.MaxAtoms)
		if err != api.OK {
			t.Fatal(err)
		}
		var terms [api.Levels][]api.Term
		for sum := range terms {
			terms[sum] = cost.Terms(f, sum)
			for _, term := range terms[sum] {
				if term.Weight < 1 || term.Literal == 0 {
					t.Fatal(term)
				}
			}
		}
		clauses := f.Ground().Builder().Clauses()
		for _, l := range f.Assume(nil) {
			clauses = append(clauses, []int{l})
		}
		models(f.Atoms(), clauses, choices(f), func(model []bool) {
			some++
			g := f.Read(model)
			c := cost.Of(w.x, w.q, g)
			for sum, l := range terms {
				if n := cost.Weigh(l, model); n != c[sum] {
					t.Fatalf("%s\n%s\n%v: the sum %d is %d, not %d", w.text, w.ask, g, sum, n, c[sum])
				}
				most[sum] = max(most[sum], c[sum])
			}
		})
	}
	for sum, n := range most {
		if n == 0 {
			t.Errorf("the sum %d was never above 0", sum)
		}
	}
	if some < 300 {
		t.Errorf("just %d models", some)
	}
}
