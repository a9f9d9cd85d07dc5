package promises

import (
	"fmt"
	"math/rand"
	"slices"
	"testing"

	"cooper/api"
	"cooper/concrete"
	"cooper/cost"
	"cooper/graph"
	"cooper/lock"
	"cooper/store"
)

// TestWhole is T1 to T5, over random texts.
func TestWhole(t *testing.T) {
	r := rand.New(rand.NewSource(30))
	kinds := map[uint8]int{}
	clashes := 0
	for range 1500 {
		w := random(t, r)
		if r.Intn(5) == 0 {
			w = read(t, randomRecipe(r), randomRequest(r))
		}
		o := concrete.Concretise(w.text, w.ask, "", api.MaxAtoms, 1<<20)
		if again := concrete.Concretise(w.text, w.ask, "", api.MaxAtoms, 1<<20); fmt.Sprint(again) != fmt.Sprint(o) {
			t.Fatalf("%v, and %v", o, again)
		}
		kinds[o.Kind]++
		if !w.fine() {
			if o.Kind != api.IllFormed || o.Problem == (api.Problem{}) {
				t.Fatal(o)
			}
			continue
		}
		all := w.graphs(nil, false)
		if len(all) == 0 {
			if o.Kind != api.NoGraph || len(o.Rules) == 0 {
				t.Fatalf("%s\n%s\nthere is none, but %v", w.text, w.ask, o)
			}
			continue
		}
		if o.Kind != api.IsGraph || !slices.Contains(texts(all), fmt.Sprint(o.Graph)) {
			t.Fatalf("%s\n%s\n%v", w.text, w.ask, o)
		}
		for _, g := range all {
			if cost.Compare(cost.Of(w.x, w.q, g), o.Cost) < 0 {
				t.Fatalf("%s\n%s\n%v costs less than %v", w.text, w.ask, g, o)
			}
		}
		if len(o.Derivations) != len(o.Graph.Nodes) || !store.Closed(o.Derivations) {
			t.Fatal(o.Derivations)
		}
		if o.Clash != "" {
			clashes++
		}
		g := all[r.Intn(len(all))]
		justThat(t, w, g)
	}
	if kinds[api.IllFormed] < 100 || kinds[api.NoGraph] < 50 || kinds[api.IsGraph] < 100 || clashes < 5 {
		t.Error(kinds, clashes)
	}
}

// justThat is T5: a lock without a breach comes to its own graph, another one is stale.
func justThat(t *testing.T, w world, g api.Graph) {
	t.Helper()
	text, ok := lock.Write(g)
	o := concrete.Concretise(w.text, w.ask, text, 0, 0)
	if !ok || o.Kind != api.IsGraph || !graph.Same(o.Graph, g) || o.Lock != text || o.Cost != cost.Of(w.x, w.q, g) {
		t.Fatalf("%s\n%s\n%s\n%v", w.text, w.ask, text, o)
	}
	g.Nodes = slices.Clone(g.Nodes)
	g.Nodes[0].Version = "7"
	text, ok = lock.Write(g)
	o = concrete.Concretise(w.text, w.ask, text, api.MaxAtoms, 1<<20)
	if !ok || o.Kind != api.StaleLock || o.Breach != graph.Check(w.x, w.q, g) {
		t.Fatalf("%s\n%s\n%s\n%v", w.text, w.ask, text, o)
	}
}
