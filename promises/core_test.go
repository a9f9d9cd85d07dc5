package promises

import (
	"fmt"
	"math/rand"
	"slices"
	"testing"

	"cooper/api"
	"cooper/core"
	"cooper/formula"
	"cooper/rup"
)

// admits tells whether just these rules admit a graph.
func (w world) admits(rules []int) bool {
	off := make([]bool, len(w.rules()))
	for i := range off {
		off[i] = !slices.Contains(rules, i)
	}
	return len(w.graphs(off, false)) > 0
}

// TestCores is P26.1 and P26.2.
func TestCores(t *testing.T) {
	r := rand.New(rand.NewSource(26))
	states := map[uint8]int{}
	sizes := map[int]int{}
	for range 1500 {
		w := random(t, r)
		why, err := core.Why(w.x, w.q, api.MaxAtoms, 1<<20)
		if err != api.OK {
			t.Fatal(err)
		}
		states[why.State]++
		all := w.rules()
		if w.admits(upTo0(len(all))) {
			if why.State != api.Sat || len(why.Core)+len(why.Rules)+len(why.Proof)+len(why.Clauses) != 0 {
				t.Fatalf("%s\n%s\nthere is one, but %v", w.text, w.ask, why)
			}
			continue
		}
		if why.State != api.Unsat || !slices.IsSorted(why.Core) || len(why.Rules) != len(why.Core) || w.admits(why.Core) {
			t.Fatalf("%s\n%s\n%v", w.text, w.ask, why)
		}
		sizes[len(why.Core)]++
		for i, n := range why.Core {
			if why.Rules[i] != all[n] {
				t.Fatalf("the rule %d is %v, not %v", n, why.Rules[i], all[n])
			}
			if others := slices.Delete(slices.Clone(why.Core), i, i+1); !w.admits(others) {
				t.Fatalf("%s\n%s\n%v may be left out of %v", w.text, w.ask, n, why.Core)
			}
		}
		f, _ := formula.Build(w.x, w.q, api.MaxAtoms)
		if !slices.EqualFunc(why.Clauses, f.Clauses(), slices.Equal) {
			t.Fatal("other clauses than the formula's")
		}
		var goal []int
		for _, n := range why.Core {
			goal = append(goal, -f.Number(api.Atom{Kind: api.RuleAtom, A: n}))
		}
		if rup.Check(f.Atoms(), why.Clauses, why.Proof) != -1 || !rup.Proves(f.Atoms(), why.Clauses, why.Proof, goal) {
			t.Fatalf("%s\n%s\n%v is not proved", w.text, w.ask, why.Core)
		}
		if again, _ := core.Why(w.x, w.q, api.MaxAtoms, 1<<20); fmt.Sprint(again) != fmt.Sprint(why) {
			t.Fatal("another core")
		}
	}
	if states[api.Sat] < 300 || states[api.Unsat] < 300 || len(sizes) < 4 {
		t.Error(states, sizes)
	}
}

// upTo0 are the numbers from 0 on.
func upTo0(n int) []int {
	var out []int
	for i := range n {
		out = append(out, i)
	}
	return out
}

func TestAdmits(t *testing.T) {
	r := rand.New(rand.NewSource(27))
	states := map[uint8]int{}
	for range 500 {
		w := random(t, r)
		var rules []int
		for i := range len(w.rules()) {
			if r.Intn(5) > 0 {
				rules = append(rules, i)
			}
		}
		want := uint8(api.Unsat)
		if w.admits(rules) {
			want = api.Sat
		}
		states[want]++
		r.Shuffle(len(rules), func(i, k int) { rules[i], rules[k] = rules[k], rules[i] })
		rules = append(rules, -1, len(w.rules()), 1<<40)
		if got, err := core.Admits(w.x, w.q, rules, api.MaxAtoms, 1<<20); got != want || err != api.OK {
			t.Fatalf("%s\n%s\n%v: %d, %v, not %d", w.text, w.ask, rules, got, err, want)
		}
	}
	if states[api.Sat] < 100 || states[api.Unsat] < 100 {
		t.Error(states)
	}
}
