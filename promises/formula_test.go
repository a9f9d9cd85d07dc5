package promises

import (
	"math/rand"
	"slices"
	"testing"

	"cooper/api"
	"cooper/formula"
)

// choices are the atoms of a formula that tell of a graph.
func choices(f *formula.Formula) []int {
	var out []int
	for i := range f.Atoms() {
		a, _ := f.Ground().Table().At(i + 1)
		switch a.Kind {
		case api.NodeAtom, api.ReleaseAtom, api.ValueAtom, api.EdgeAtom:
			out = append(out, i+1)
		}
	}
	return out
}

// TestJustTheGraphs is P16.2.
func TestJustTheGraphs(t *testing.T) {
	r := rand.New(rand.NewSource(16))
	some, circles := 0, 0
	for range 400 {
		w := random(t, r)
		f, err := formula.Build(w.x, w.q, api.MaxAtoms)
		if err != api.OK {
			t.Fatal(err)
		}
		off := randomOff(r, len(w.rules()))
		clauses := f.Clauses()
		for _, l := range f.Assume(off) {
			clauses = append(clauses, []int{l})
		}
		var got []api.Graph
		models(f.Atoms(), clauses, choices(f), func(model []bool) {
			got = append(got, f.Read(model))
		})
		want := w.graphs(off, false)
		some += len(want)
		circles += len(w.graphs(off, true)) - len(want)
		if !slices.Equal(texts(got), texts(want)) {
			t.Fatalf("%s\n%s\noff %v:\n%q\nnot\n%q", w.text, w.ask, off, texts(got), texts(want))
		}
	}
	if some < 400 || circles < 40 {
		t.Errorf("just %d graphs, %d with a way round", some, circles)
	}
}
