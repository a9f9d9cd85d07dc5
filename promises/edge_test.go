package promises

import (
	"math/rand"
	"slices"
	"testing"

	"cooper/api"
	"cooper/choice"
	"cooper/cnf"
	"cooper/edge"
)

// readModel is the graph of a model of a ground's clauses.
func readModel(w world, g *choice.Ground, model []bool) api.Graph {
	so := func(a api.Atom) bool {
		n := g.Table().Look(a)
		return n > 0 && model[n-1]
	}
	here := map[int]api.Node{}
	needed := map[int]map[int]bool{}
	for _, p := range g.Places() {
		if !so(api.Atom{Kind: api.NodeAtom, A: p}) {
			continue
		}
		n := api.Node{Name: w.x.Packages[p].Name}
		for i, r := range w.x.Packages[p].Releases {
			if so(api.Atom{Kind: api.ReleaseAtom, A: p, B: i}) {
				n.Version += r.Version
			}
		}
		for i, v := range w.x.Packages[p].Variants {
			for k, value := range v.Values {
				if so(api.Atom{Kind: api.ValueAtom, A: p, B: i, C: k}) {
					n.Settings = append(n.Settings, api.Setting{Name: v.Name, Value: value})
				}
			}
		}
		here[p] = n
		needed[p] = map[int]bool{}
		for _, t := range g.Places() {
			if so(api.Atom{Kind: api.EdgeAtom, A: p, B: t}) {
				needed[p][t] = true
			}
		}
	}
	return graphOf(here, needed)
}

// assumed are the unit clauses of what rules count.
func assumed(number func(api.Atom) int, rules []api.Rule, off []bool) [][]int {
	var out [][]int
	for i := range rules {
		l := number(api.Atom{Kind: api.RuleAtom, A: i})
		if off[i] {
			l = -l
		}
		out = append(out, []int{l})
	}
	return out
}

// randomOff is which rules don't count.
func randomOff(r *rand.Rand, n int) []bool {
	off := make([]bool, n)
	if r.Intn(2) == 0 {
		for i := range off {
			off[i] = r.Intn(3) == 0
		}
	}
	return off
}

// TestEdgesAsSaid is P14.1.
func TestEdgesAsSaid(t *testing.T) {
	r := rand.New(rand.NewSource(14))
	some := 0
	for range 400 {
		w := random(t, r)
		off := randomOff(r, len(w.rules()))
		g := choice.New(w.x, w.q, 10000)
		g.Choices()
		edge.Edges(g)
		if g.Table().Full() || g.Builder().Bad() || g.Builder().Full() {
			t.Fatal("full, or bad")
		}
		clauses := append(g.Builder().Clauses(), assumed(g.Table().Look, w.rules(), off)...)
		var got []api.Graph
		models(g.Table().Len(), clauses, upTo(g.Table().Len()), func(model []bool) {
			if !cnf.Holds(clauses, model) {
				t.Fatal("no model")
			}
			got = append(got, readModel(w, g, model))
		})
		want := w.graphs(off, true)
		some += len(want)
		if !slices.Equal(texts(got), texts(want)) {
			t.Fatalf("%s\n%s\noff %v:\n%q\nnot\n%q", w.text, w.ask, off, texts(got), texts(want))
		}
	}
	if some < 400 {
		t.Errorf("just %d graphs", some)
	}
}
