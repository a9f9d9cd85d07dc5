package graph_test

import (
	"fmt"
	"math/rand"
	"slices"
	"strings"
	"testing"

	"cooper/api"
	"cooper/graph"
	"cooper/recipe"
	"cooper/request"
)

func read(t *testing.T, text, ask string) (api.Recipe, api.Request) {
	t.Helper()
	x, where, err := recipe.Parse(text)
	if err != api.OK {
		t.Fatalf("Parse(%q): %v, %v", text, where, err)
	}
	q, where, err := request.Parse(ask)
	if err != api.OK {
		t.Fatalf("Parse(%q): %v, %v", ask, where, err)
	}
	return x, q
}

// nodes reads a graph: nodes with a semicolon between, each its name, version, settings, and, behind an arrow, what it needs.
func nodes(text string) api.Graph {
	var g api.Graph
	for _, part := range strings.Split(text, ";") {
		head, needs, _ := strings.Cut(part, ">")
		words := strings.Fields(head)
		if len(words) == 0 {
			continue
		}
		n := api.Node{Name: words[0], Needs: strings.Fields(needs)}
		if len(words) > 1 {
			n.Version = words[1]
		}
		for _, w := range words[min(2, len(words)):] {
			name, value, _ := strings.Cut(w, "=")
			n.Settings = append(n.Settings, api.Setting{Name: name, Value: value})
		}
		g.Nodes = append(g.Nodes, n)
	}
	return g
}

const some = `package a
version 1
version 2
variant x on off
variant n 1 2
depends b@2 when x=off
depends v when @2
conflicts @1 n=2
conflicts n=2 with c@1
package b
version 1
version 2
depends d when @1
package c
version 1
version 2
provides v
provides u
package d
version 1
provides v
depends e
package e
version 1
depends d when @9
package f
version 1
depends f
package g
version 1
depends h
package h
version 1
depends g
package i
version 1
depends d
depends v
`

func TestCheck(t *testing.T) {
	tests := []struct {
		ask, g string
		code   uint8
		name   string
	}{
		{"root a", "a 1 x=on n=1", 0, ""},
		{"root a", "a 2 x=on n=1 > c; c 2", 0, ""},
		{"root a", "a 2 x=off n=1 > b d; b 2; d 1 > e; e 1", 0, ""},
		{"root u\nroot b", "b 1 > d; c 1; d 1 > e; e 1", 0, ""},
		{"root i", "d 1 > e; e 1; i 1 > d", 0, ""},

		{"root a", "", api.BreachRoot, "a"},
		{"root a", "z 1", api.BreachName, "z"},
		{"root a", "v 1", api.BreachName, "v"},
		{"root a", "b 2; a 1 x=on n=1", api.BreachName, "a"},
		{"root a", "a 1 x=on n=1; a 1 x=on n=1", api.BreachName, "a"},
		{"root a", "a 9; b 9; z 1", api.BreachName, "z"},
		{"root a", "a 3 x=on n=1", api.BreachVersion, "a"},
		{"root a", "a", api.BreachVersion, "a"},
		{"root a", "a 1; b 7", api.BreachVersion, "b"},
		{"root a", "a 1", api.BreachSettings, "a"},
		{"root a", "a 1 n=1 x=on", api.BreachSettings, "a"},
		{"root a", "a 1 x=on n=3", api.BreachSettings, "a"},
		{"root a", "a 1 x=on n=1 n=1", api.BreachSettings, "a"},
		{"root b", "a 1 x=on n=1; b 1 x=on", api.BreachSettings, "b"},
		{"root a@2", "a 1 x=on n=1", api.BreachRoot, "a"},
		{"root a x=off", "a 1 x=on n=1", api.BreachRoot, "a"},
		{"root a\nroot b@2\nroot c", "a 1 x=on n=1; b 1", api.BreachRoot, "b"},
		{"root u\nroot c@2", "c 1", api.BreachRoot, "c"},
		{"root a", "a 1 x=off n=1", api.BreachDepend, "a"},
		{"root a", "a 1 x=off n=1 > b; b 1 > d; d 1 > e; e 1", api.BreachDepend, "a"},
		{"root b", "b 1", api.BreachDepend, "b"},
		{"root b", "b 1 > d; d 1", api.BreachDepend, "d"},
		{"root v", "", api.BreachVirtual, "v"},
		{"root v", "c 1; d 1 > e; e 1", api.BreachVirtual, "v"},
		{"root a", "a 2 x=on n=1", api.BreachVirtual, "v"},
		{"root a\nroot u", "a 2 x=on n=1", api.BreachVirtual, "u"},
		{"root a\nroot c\nroot d", "a 2 x=on n=1 > c d; c 1; d 1 > e; e 1", api.BreachVirtual, "v"},
		{"root a\nroot u", "a 1 x=off n=1", api.BreachDepend, "a"},
		{"root a", "a 1 x=on n=2", api.BreachConflict, "a"},
		{"root a\nroot c", "a 2 x=on n=2 > c; c 1", api.BreachConflict, "a"},
		{"root a\nroot c", "a 2 x=on n=2 > c; c 2", 0, ""},
		{"root a\nroot v", "a 1 x=on n=2", api.BreachVirtual, "v"},
		{"root a", "a 1 x=on n=1 > a", api.BreachNeeds, "a"},
		{"root a", "a 2 x=on n=1; c 2", api.BreachNeeds, "a"},
		{"root a", "a 2 x=on n=1 > c c; c 2", api.BreachNeeds, "a"},
		{"root a", "a 2 x=on n=1 > v; c 2", api.BreachNeeds, "a"},
		{"root a", "a 2 x=off n=1 > c b; b 2; c 1", api.BreachNeeds, "a"},
		{"root a", "a 2 x=off n=1 > b c; b 2 > c; c 1", api.BreachNeeds, "b"},
		{"root a", "a 1 x=on n=2 > b", api.BreachConflict, "a"},
		{"root f", "f 1 > f", api.BreachCircle, "f"},
		{"root g", "g 1 > h; h 1 > g", api.BreachCircle, "g"},
		{"root h", "b 2; g 1 > h; h 1 > g", api.BreachCircle, "g"},
		{"root a", "a 1 x=on n=1; b 2", api.BreachReach, "b"},
		{"root b", "b 2; d 1 > e; e 1", api.BreachReach, "d"},
		{"root e", "d 1 > e; e 1", api.BreachReach, "d"},
		{"root b", "a 1 x=off n=1 > b; b 2", api.BreachReach, "a"},
		{"root v", "c 1", 0, ""},
		{"root v", "b 2; c 1", api.BreachReach, "b"},
	}
	for _, test := range tests {
		x, q := read(t, some, test.ask)
		g := nodes(test.g)
		kept := fmt.Sprint(x, q, g)
		if got := graph.Check(x, q, g); got != (api.Breach{Code: test.code, Name: test.name}) {
			t.Errorf("Check(%q, %q) = %v, not %d at %s", test.ask, test.g, got, test.code, test.name)
		}
		if fmt.Sprint(x, q, g) != kept {
			t.Error("what was handed in is changed")
		}
	}
}

func TestFind(t *testing.T) {
	g := nodes("b 1; a 1; b 2")
	for name, want := range map[string]int{"a": 1, "b": 0, "c": -1, "": -1} {
		if got := graph.Find(g, name); got != want {
			t.Errorf("Find(%q) = %d", name, got)
		}
	}
	if graph.Find(api.Graph{}, "") != -1 || graph.Find(api.Graph{Nodes: []api.Node{{}}}, "") != 0 {
		t.Error("Find")
	}
}

func TestSame(t *testing.T) {
	base := nodes("a 1 x=on y=1 > b c; b 1; c 2")
	if !graph.Same(base, nodes("a 1 x=on y=1 > b c; b 1; c 2")) || !graph.Same(api.Graph{}, api.Graph{Nodes: []api.Node{}}) {
		t.Error("Same")
	}
	if !graph.Same(api.Graph{Nodes: []api.Node{{Settings: []api.Setting{}, Needs: []string{}}}}, api.Graph{Nodes: []api.Node{{}}}) {
		t.Error("a nil list is the same as an empty one")
	}
	for _, other := range []string{"", "a 1 x=on y=1 > b c; b 1", "b 1; a 1 x=on y=1 > b c; c 2", "z 1 x=on y=1 > b c; b 1; c 2", "a 2 x=on y=1 > b c; b 1; c 2", "a 1 x=on > b c; b 1; c 2", "a 1 y=1 x=on > b c; b 1; c 2", "a 1 x=on y=2 > b c; b 1; c 2", "a 1 x=on z=1 > b c; b 1; c 2", "a 1 x=on y=1 > b; b 1; c 2", "a 1 x=on y=1 > c b; b 1; c 2", "a 1 x=on y=1 > b c; b 1; c 2; c 2"} {
		if graph.Same(base, nodes(other)) || graph.Same(nodes(other), base) {
			t.Errorf("%q is the same", other)
		}
	}
}

func TestOrder(t *testing.T) {
	tests := []struct {
		g    string
		want []int
		ok   bool
	}{
		{"", nil, true},
		{"a 1", []int{0}, true},
		{"a 1; b 1; c 1", []int{0, 1, 2}, true},
		{"a 1 > b; b 1 > c; c 1", []int{2, 1, 0}, true},
		{"a 1 > c; b 1; c 1", []int{1, 2, 0}, true},
		{"a 1 > d; b 1 > c; c 1; d 1", []int{2, 1, 3, 0}, true},
		{"c 1; a 1 > c; b 1 > a", []int{0, 1, 2}, true},
		{"a 1 > a", nil, false},
		{"a 1 > b; b 1 > a; c 1", nil, false},
		{"a 1 > b; b 1 > c; c 1 > b", nil, false},
		{"a 1 > z; b 1 > y", []int{0, 1}, true},
		{"a 1 > b; b 1; b 2 > a", []int{1, 0, 2}, true},
		{"b 1; b 2 > b", []int{0, 1}, true},
		{"b 1 > b; b 2", nil, false},
		{"a 1 > b b; b 1", []int{1, 0}, true},
	}
	for _, test := range tests {
		got, ok := graph.Order(nodes(test.g))
		if !slices.Equal(got, test.want) || ok != test.ok {
			t.Errorf("Order(%q) = %v, %v", test.g, got, ok)
		}
	}
}

func TestOrders(t *testing.T) {
	r := rand.New(rand.NewSource(27))
	rounds := 0
	for range 2000 {
		n := 1 + r.Intn(7)
		var g api.Graph
		for i := range n {
			node := api.Node{Name: fmt.Sprint(i)}
			for range r.Intn(3) {
				node.Needs = append(node.Needs, fmt.Sprint(r.Intn(n+1)))
			}
			g.Nodes = append(g.Nodes, node)
		}
		// Again and again the lowest one is taken that needs nothing that isn't there.
		var want []int
		for len(want) < n {
			next := -1
			for i := n - 1; i >= 0; i-- {
				ready := !slices.Contains(want, i)
				for _, name := range g.Nodes[i].Needs {
					ready = ready && (name == fmt.Sprint(n) || slices.ContainsFunc(want, func(k int) bool { return fmt.Sprint(k) == name }))
				}
				if ready {
					next = i
				}
			}
			if next < 0 {
				break
			}
			want = append(want, next)
		}
		got, ok := graph.Order(g)
		if ok != (len(want) == n) || ok && !slices.Equal(got, want) || !ok && len(got) > 0 {
			t.Fatalf("Order(%v) = %v, %v, not %v", g, got, ok, want)
		}
		if !ok {
			rounds++
		}
	}
	if rounds < 100 || rounds > 1900 {
		t.Error(rounds)
	}
}

func TestOthersEnd(t *testing.T) {
	x, q := read(t, "package a\nversion 1\nversion 1\nvariant x on on\nprovides a\nprovides v\ndepends none\ndepends v\npackage a\nprefer v a\nprefer v z\n", "root a\nroot none\nroot v@1")
	for _, g := range []string{"", "a 1 x=on", "a 1 x=on > a; a 1; z 1 > a", "none 1", "v 1"} {
		graph.Check(x, q, nodes(g))
		graph.Check(api.Recipe{}, api.Request{}, nodes(g))
	}
	if b := graph.Check(api.Recipe{}, api.Request{}, api.Graph{}); b != (api.Breach{}) {
		t.Error(b)
	}
	graph.Check(api.Recipe{}, api.Request{}, api.Graph{Nodes: []api.Node{{}, {}}})
	graph.Order(api.Graph{Nodes: []api.Node{{}, {}}})
}
