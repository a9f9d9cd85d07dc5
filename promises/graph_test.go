package promises

import (
	"fmt"
	"math/rand"
	"slices"
	"strings"
	"testing"

	"cooper/api"
	"cooper/check"
	"cooper/descent"
	"cooper/graph"
	"cooper/needs"
)

// randomGraph is of nodes that may be, with the needs that they have, for the most part.
func randomGraph(r *rand.Rand, w world) api.Graph {
	here := map[int]api.Node{}
	needed := map[int]map[int]bool{}
	for p, pack := range w.x.Packages {
		if l := nodes(pack); r.Intn(3) > 0 {
			here[p] = l[r.Intn(len(l))]
			needed[p] = map[int]bool{}
		}
	}
	for p, n := range here {
		for _, d := range w.x.Packages[p].Depends {
			for _, t := range needs.Targets(w.x, d.On.Name) {
				if _, ok := here[t]; ok && holds(n, d.When) {
					needed[p][t] = true
				}
			}
		}
	}
	g := graphOf(here, needed)
	if len(g.Nodes) == 0 {
		return g
	}
	n := &g.Nodes[r.Intn(len(g.Nodes))]
	switch r.Intn(30) {
	case 0:
		n.Needs = append(n.Needs, "p9")
	case 1:
		n.Needs = nil
	case 2:
		n.Version = "9"
	case 3:
		n.Settings = append(n.Settings, api.Setting{Name: "z", Value: "1"})
	case 4:
		slices.Reverse(g.Nodes)
	case 5:
		n.Name = "q"
	}
	return g
}

// TestSameAsFound is P27.2: graphs without a breach are just those that are right, and the best one is one of them.
func TestSameAsFound(t *testing.T) {
	r := rand.New(rand.NewSource(27))
	codes := map[uint8]int{}
	for range 1500 {
		w := random(t, r)
		all := w.graphs(nil, false)
		right := texts(all)
		for _, g := range all[:min(len(all), 20)] {
			if b := graph.Check(w.x, w.q, g); b != (api.Breach{}) {
				t.Fatalf("%s\n%s\n%v has the breach %v", w.text, w.ask, g, b)
			}
		}
		for range 10 {
			g := randomGraph(r, w)
			b := graph.Check(w.x, w.q, g)
			if _, ok := slices.BinarySearch(right, fmt.Sprint(g)); ok != (b == api.Breach{}) {
				t.Fatalf("%s\n%s\n%v has the breach %v", w.text, w.ask, g, b)
			}
			codes[b.Code]++
		}
		found, err := descent.Best(w.x, w.q, api.MaxAtoms, 1<<20)
		if err != api.OK || found.State == api.Sat && graph.Check(w.x, w.q, found.Graph) != (api.Breach{}) {
			t.Fatalf("%s\n%s\n%v, %v", w.text, w.ask, found, err)
		}
	}
	for code := range uint8(api.BreachReach + 1) {
		if codes[code] == 0 {
			t.Errorf("no breach %d in %v", code, codes)
		}
	}
}

// TestFirstBreach looks for the first breach by the words of the chapter.
func TestFirstBreach(t *testing.T) {
	r := rand.New(rand.NewSource(28))
	for range 4000 {
		w := random(t, r)
		g := randomGraph(r, w)
		if got, want := graph.Check(w.x, w.q, g), w.firstBreach(g); got != want {
			t.Fatalf("%s\n%s\n%v has the breach %v, not %v", w.text, w.ask, g, got, want)
		}
	}
}

func (w world) firstBreach(g api.Graph) api.Breach {
	found := map[uint8]string{}
	tell := func(code uint8, name string) {
		if _, ok := found[code]; !ok {
			found[code] = name
		}
	}
	lead := map[int]map[int]bool{}
	at := func(name string) int { return graph.Find(g, name) }
	for i, n := range g.Nodes {
		lead[i] = map[int]bool{}
		for _, name := range n.Needs {
			if at(name) >= 0 {
				lead[i][at(name)] = true
			}
		}
	}
	named := map[string]bool{}
	for _, root := range w.q.Roots {
		named[root.Spec.Name] = true
		if check.Find(w.x, root.Spec.Name) >= 0 && (at(root.Spec.Name) < 0 || !holds(g.Nodes[at(root.Spec.Name)], root.Spec)) {
			tell(api.BreachRoot, root.Spec.Name)
		}
	}
	isRoot := func(n api.Node) bool {
		return slices.ContainsFunc(w.q.Roots, func(root api.Root) bool {
			return slices.Contains(needs.Targets(w.x, root.Spec.Name), check.Find(w.x, n.Name))
		})
	}
	for i, n := range g.Nodes {
		p := api.Package{}
		if place := check.Find(w.x, n.Name); place >= 0 {
			p = w.x.Packages[place]
		} else {
			tell(api.BreachName, n.Name)
		}
		if i > 0 && strings.Compare(g.Nodes[i-1].Name, n.Name) >= 0 {
			tell(api.BreachName, n.Name)
		}
		if needs.Rank(p, n.Version) < 0 {
			tell(api.BreachVersion, n.Name)
		}
		if !slices.ContainsFunc(nodes(p), func(o api.Node) bool { return fmt.Sprint(o.Settings) == fmt.Sprint(n.Settings) }) {
			tell(api.BreachSettings, n.Name)
		}
		var want []string
		for _, d := range p.Depends {
			if !holds(n, d.When) {
				continue
			}
			named[d.On.Name] = true
			if check.Find(w.x, d.On.Name) >= 0 && (at(d.On.Name) < 0 || !holds(g.Nodes[at(d.On.Name)], d.On)) {
				tell(api.BreachDepend, n.Name)
			}
			for _, t := range needs.Targets(w.x, d.On.Name) {
				if at(w.x.Packages[t].Name) >= 0 {
					want = append(want, w.x.Packages[t].Name)
				}
			}
		}
		for _, c := range p.Conflicts {
			if holds(n, c.When) && (c.With.Name == "" || at(c.With.Name) >= 0 && holds(g.Nodes[at(c.With.Name)], c.With)) {
				tell(api.BreachConflict, n.Name)
			}
		}
		slices.Sort(want)
		if !slices.Equal(slices.Compact(want), n.Needs) {
			tell(api.BreachNeeds, n.Name)
		}
		if leads(lead, i, i) {
			tell(api.BreachCircle, n.Name)
		}
		reached := isRoot(n)
		for k, o := range g.Nodes {
			reached = reached || isRoot(o) && leads(lead, k, i)
		}
		if !reached {
			tell(api.BreachReach, n.Name)
		}
	}
	for _, name := range needs.Names(w.x, w.q) {
		n := 0
		for _, t := range check.Providers(w.x, name) {
			if at(w.x.Packages[t].Name) >= 0 {
				n++
			}
		}
		if named[name] && n != 1 {
			tell(api.BreachVirtual, name)
		}
	}
	for code := uint8(api.BreachName); code <= api.BreachReach; code++ {
		if name, ok := found[code]; ok {
			return api.Breach{Code: code, Name: name}
		}
	}
	return api.Breach{}
}
