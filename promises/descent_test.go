package promises

import (
	"fmt"
	"math/rand"
	"slices"
	"strings"
	"testing"

	"cooper/api"
	"cooper/cost"
	"cooper/descent"
)

// TestBest is P25.1 to P25.3: no right graph costs less than the best one, and where none is told there is none.
func TestBest(t *testing.T) {
	r := rand.New(rand.NewSource(25))
	states := map[uint8]int{}
	for range 1200 {
		w := random(t, r)
		found, err := descent.Best(w.x, w.q, api.MaxAtoms, 1<<20)
		if err != api.OK {
			t.Fatal(err)
		}
		states[found.State]++
		all := w.graphs(nil, false)
		if len(all) == 0 {
			if found.State != api.Unsat || len(found.Graph.Nodes) != 0 || found.Cost != (api.Cost{}) {
				t.Fatalf("%s\n%s\nthere is none, but %v", w.text, w.ask, found)
			}
			continue
		}
		if found.State != api.Sat || !slices.Contains(texts(all), fmt.Sprint(found.Graph)) || found.Cost != cost.Of(w.x, w.q, found.Graph) {
			t.Fatalf("%s\n%s\n%v", w.text, w.ask, found)
		}
		for _, g := range all {
			if c := cost.Of(w.x, w.q, g); cost.Compare(c, found.Cost) < 0 {
				t.Fatalf("%s\n%s\n%v costs %v; less than that, %v, costs %v", w.text, w.ask, found.Graph, found.Cost, c, g)
			}
		}
		if again, _ := descent.Best(w.x, w.q, api.MaxAtoms, 1<<20); fmt.Sprint(again) != fmt.Sprint(found) {
			t.Fatalf("%v, and %v", found, again)
		}
	}
	if states[api.Sat] < 300 || states[api.Unsat] < 100 {
		t.Error(states)
	}
}

// TestGreatest: a chain of as many packages and releases as there may be is not too large.
func TestGreatest(t *testing.T) {
	for _, newestFirst := range []bool{false, true} {
		var out strings.Builder
		for i := range api.MaxPackages {
			fmt.Fprintf(&out, "package p%d\n", i)
			for v := range api.MaxReleases {
				if newestFirst {
					v = api.MaxReleases - v
				}
				fmt.Fprintf(&out, "version %d\n", v)
			}
			out.WriteString("variant x on off\nvariant y 1 2 3 4\n")
			if i+1 < api.MaxPackages {
				fmt.Fprintf(&out, "depends p%d\n", i+1)
			}
		}
		w := read(t, out.String(), "root p0\n")
		found, err := descent.Best(w.x, w.q, api.MaxAtoms, 1<<20)
		if err != api.OK || found.State != api.Sat || found.Cost != (api.Cost{0, 0, 0, 0, 0, 24}) {
			t.Error(found.State, found.Cost)
		}
	}
}
