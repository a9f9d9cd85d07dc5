// Package promises holds what layers promise together against what is found by going through everything.
package promises

import (
	"fmt"
	"math/rand"
	"slices"
	"strconv"
	"strings"
	"testing"

	"cooper/api"
	"cooper/check"
	"cooper/needs"
	"cooper/recipe"
	"cooper/request"
	"cooper/spans"
	"cooper/variant"
)

// world is a request over a recipe, both without a problem.
type world struct {
	text, ask string
	x         api.Recipe
	q         api.Request
}

func read(t testing.TB, text, ask string) world {
	t.Helper()
	x, where, err := recipe.Parse(text)
	if err != api.OK {
		t.Fatalf("Parse(%q): %v, %v", text, where, err)
	}
	q, where, err := request.Parse(ask)
	if err != api.OK {
		t.Fatalf("Parse(%q): %v, %v", ask, where, err)
	}
	return world{text, ask, x, q}
}

func (w world) fine() bool {
	return check.Recipe(w.x) == api.Problem{} && check.Request(w.x, w.q) == api.Problem{}
}

// random is a small world.
func random(t testing.TB, r *rand.Rand) world {
	t.Helper()
	for {
		w := read(t, randomRecipe(r), randomRequest(r))
		if w.fine() {
			return w
		}
	}
}

func pick(r *rand.Rand, l ...string) string { return l[r.Intn(len(l))] }

const packages = 4

func randomName(r *rand.Rand) string {
	if r.Intn(4) == 0 {
		return "v" + strconv.Itoa(r.Intn(2))
	}
	return "p" + strconv.Itoa(r.Intn(packages))
}

func randomWish(r *rand.Rand) string {
	name := randomName(r)
	if name[0] == 'v' {
		return name
	}
	return name + pick(r, "", "", "", "@1", "@2", "@:2", "@2:", "@1,3:") + pick(r, "", "", " x=on", " x=off")
}

func randomCondition(r *rand.Rand) string {
	return pick(r, "*", "*", "@1", "@2:", "@:1", "x=on", "x=off", "@2 x=on", "@9")
}

func randomRecipe(r *rand.Rand) string {
	var out strings.Builder
	line := func(words ...string) { out.WriteString(strings.Join(words, " ") + "\n") }
	for _, i := range r.Perm(packages) {
		line("package p" + strconv.Itoa(i))
		for _, v := range r.Perm(3)[:1+r.Intn(3)] {
			line("version", strconv.Itoa(v+1), pick(r, "", "", "", "old"))
		}
		if r.Intn(3) > 0 {
			line("variant x", pick(r, "on off", "off on"))
		}
		for v := range 2 {
			if r.Intn(4) == 0 {
				line("provides v" + strconv.Itoa(v))
			}
		}
		for range r.Intn(3) {
			if r.Intn(2) == 0 {
				line("depends", randomWish(r))
			} else {
				line("depends", randomWish(r), "when", randomCondition(r))
			}
		}
		switch r.Intn(6) {
		case 0:
			line("conflicts", randomCondition(r))
		case 1:
			line("conflicts", randomCondition(r), "with", randomWish(r))
		}
		if r.Intn(3) == 0 {
			line("file f" + strconv.Itoa(r.Intn(3)))
		}
	}
	for v := range 2 {
		if r.Intn(2) == 0 {
			line("prefer v"+strconv.Itoa(v), "p"+strconv.Itoa(r.Intn(packages)), pick(r, "", "p0", "p1"))
		}
	}
	return out.String()
}

func randomRequest(r *rand.Rand) string {
	var out strings.Builder
	for range 1 + r.Intn(2) {
		out.WriteString("root " + randomWish(r) + "\n")
	}
	return out.String()
}

// rules are the rules of a world, by their numbers.
func (w world) rules() []api.Rule {
	var out []api.Rule
	for i, root := range w.q.Roots {
		out = append(out, api.Rule{Kind: api.RootRule, Package: -1, Index: i, Line: root.Line})
	}
	for _, p := range needs.Closure(w.x, w.q) {
		for i, d := range w.x.Packages[p].Depends {
			out = append(out, api.Rule{Kind: api.DependRule, Package: p, Index: i, Line: d.Line})
		}
		for i, c := range w.x.Packages[p].Conflicts {
			out = append(out, api.Rule{Kind: api.ConflictRule, Package: p, Index: i, Line: c.Line})
		}
	}
	return out
}

// holds tells whether a node is as a wish or a condition says.
func holds(n api.Node, s api.Spec) bool {
	return spans.Has(s.Spans, n.Version) && variant.Meets(n.Settings, s.Settings)
}

// nodes are all nodes that a package may be.
func nodes(p api.Package) []api.Node {
	var out []api.Node
	for _, r := range p.Releases {
		for _, s := range variant.All(p.Variants) {
			out = append(out, api.Node{Name: p.Name, Version: r.Version, Settings: s})
		}
	}
	return out
}

// graphs are all graphs that are right by the rules that count; where circles is so, those with a way round, too.
func (w world) graphs(off []bool, circles bool) []api.Graph {
	var out []api.Graph
	places := needs.Closure(w.x, w.q)
	here := map[int]api.Node{}
	var choose func(l []int)
	choose = func(l []int) {
		if len(l) == 0 {
			if g, ok := w.right(here, off, circles); ok {
				out = append(out, g)
			}
			return
		}
		choose(l[1:])
		for _, n := range nodes(w.x.Packages[l[0]]) {
			here[l[0]] = n
			choose(l[1:])
		}
		delete(here, l[0])
	}
	choose(places)
	return out
}

// right is the graph of some nodes, by their places, and whether it is right.
func (w world) right(here map[int]api.Node, off []bool, circles bool) (api.Graph, bool) {
	needed := map[int]map[int]bool{} // of each node the nodes that it needs
	asked := map[int]bool{}
	for p := range here {
		needed[p] = map[int]bool{}
	}
	// wish tells whether a wish of a node (or of the request, -1) is met.
	wish := func(p int, s api.Spec) bool {
		n := 0
		for _, t := range needs.Targets(w.x, s.Name) {
			if node, ok := here[t]; ok {
				n++
				asked[t] = true
				if p >= 0 {
					needed[p][t] = true
				}
				if node.Name == s.Name && !holds(node, s) {
					return false
				}
			}
		}
		return n == 1
	}
	for i, r := range w.rules() {
		if i < len(off) && off[i] {
			continue
		}
		node, there := here[r.Package]
		switch r.Kind {
		case api.RootRule:
			if !wish(-1, w.q.Roots[r.Index].Spec) {
				return api.Graph{}, false
			}
		case api.DependRule:
			d := w.x.Packages[r.Package].Depends[r.Index]
			if there && holds(node, d.When) && !wish(r.Package, d.On) {
				return api.Graph{}, false
			}
		case api.ConflictRule:
			c := w.x.Packages[r.Package].Conflicts[r.Index]
			if !there || !holds(node, c.When) {
				continue
			}
			other, ok := here[check.Find(w.x, c.With.Name)]
			if c.With.Name == "" || ok && holds(other, c.With) {
				return api.Graph{}, false
			}
		}
	}
	for p := range here {
		if !asked[p] || !circles && leads(needed, p, p) {
			return api.Graph{}, false
		}
	}
	return graphOf(here, needed), true
}

// leads tells whether a way leads from one node to another.
func leads(needed map[int]map[int]bool, from, to int) bool {
	seen := map[int]bool{}
	var see func(p int) bool
	see = func(p int) bool {
		for t := range needed[p] {
			if t == to {
				return true
			}
			if !seen[t] {
				seen[t] = true
				if see(t) {
					return true
				}
			}
		}
		return false
	}
	return see(from)
}

func graphOf(here map[int]api.Node, needed map[int]map[int]bool) api.Graph {
	var g api.Graph
	for p, n := range here {
		for t := range needed[p] {
			n.Needs = append(n.Needs, here[t].Name)
		}
		slices.Sort(n.Needs)
		g.Nodes = append(g.Nodes, n)
	}
	slices.SortFunc(g.Nodes, func(a, b api.Node) int { return strings.Compare(a.Name, b.Name) })
	return g
}

// texts are graphs as texts, rising.
func texts(l []api.Graph) []string {
	var out []string
	for _, g := range l {
		out = append(out, fmt.Sprint(g))
	}
	slices.Sort(out)
	return out
}
