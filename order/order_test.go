package order_test

import (
	"fmt"
	"math"
	"math/rand"
	"slices"
	"strings"
	"testing"

	"cooper/api"
	"cooper/choice"
	"cooper/cnf"
	"cooper/order"
	"cooper/recipe"
	"cooper/request"
)

// ground is one of n packages that may be needed, at the places from 1 on.
func ground(t *testing.T, n, limit int) *choice.Ground {
	t.Helper()
	text := "package lone\nversion 1\n"
	ask := ""
	for i := range n {
		text += fmt.Sprintf("package p%d\nversion 1\n", i)
		ask += fmt.Sprintf("root p%d\n", i)
	}
	x, where, err := recipe.Parse(text)
	if err != api.OK {
		t.Fatal(where, err)
	}
	q, where, err := request.Parse(ask)
	if err != api.OK {
		t.Fatal(where, err)
	}
	return choice.New(x, q, limit)
}

func edge(p, t int) api.Atom { return api.Atom{Kind: api.EdgeAtom, A: p, B: t} }

func ahead(p, t int) api.Atom { return api.Atom{Kind: api.AheadAtom, A: p, B: t} }

// told are clauses by their atoms, in no order.
func told(g *choice.Ground) []string {
	var out []string
	for _, c := range g.Builder().Clauses() {
		var words []string
		for _, l := range c {
			a, _ := g.Table().At(max(l, -l))
			word := fmt.Sprintf("%d%d", a.A, a.B)
			if a.Kind == api.EdgeAtom {
				word = "E" + word
			}
			if l < 0 {
				word = "-" + word
			}
			words = append(words, word)
		}
		slices.Sort(words)
		out = append(out, strings.Join(words, " "))
	}
	slices.Sort(out)
	return out
}

func TestClauses(t *testing.T) {
	g := ground(t, 2, 100)
	g.Number(edge(2, 1))
	order.Orders(g)
	if got := strings.Join(told(g), "; "); got != "-12 -21; -E21 21" {
		t.Error(got)
	}
	g = ground(t, 3, 100)
	g.Number(edge(1, 3))
	order.Orders(g)
	want := "-12 -21; -12 -23 13; -12 -31 32; -13 -21 23; -13 -31; -13 -32 12; -21 -32 31; -23 -31 21; -23 -32; -E13 13"
	if got := strings.Join(told(g), "; "); got != want {
		t.Error(got)
	}
	g = ground(t, 1, 100)
	order.Orders(g)
	if got := told(g); len(got) != 0 {
		t.Error(got)
	}
}

// TestNoWayRound is P15.1: edges among three places, in all ways.
func TestNoWayRound(t *testing.T) {
	g := ground(t, 3, 100)
	var pairs [][2]int
	for p := 1; p <= 3; p++ {
		for q := 1; q <= 3; q++ {
			pairs = append(pairs, [2]int{p, q})
			g.Number(edge(p, q))
		}
	}
	order.Orders(g)
	clauses := g.Builder().Clauses()
	n := g.Table().Len()
	for bits := range 1 << 9 {
		lead := make([][]int, 3)
		for i, e := range pairs {
			if bits>>i&1 > 0 {
				lead[e[0]-1] = append(lead[e[0]-1], e[1]-1)
			}
		}
		found := false
		for rest := 0; rest < 1<<(n-9) && !found; rest++ {
			model := make([]bool, n)
			for i := range model {
				if i < 9 {
					model[i] = bits>>i&1 > 0
				} else {
					model[i] = rest>>(i-9)&1 > 0
				}
			}
			found = cnf.Holds(clauses, model)
		}
		if round := goesRound(lead); found == round {
			t.Fatalf("%v: a way round is %v, an order %v", lead, round, found)
		}
	}
}

func goesRound(edges [][]int) bool {
	for p := range edges {
		if leads(edges, p, p) {
			return true
		}
	}
	return false
}

// leads tells whether a way leads from one place to another.
func leads(edges [][]int, from, to int) bool {
	seen := map[int]bool{}
	work := []int{from}
	for len(work) > 0 {
		p := work[0]
		work = work[1:]
		for _, t := range edges[p] {
			if t == to {
				return true
			}
			if t >= 0 && t < len(edges) && !seen[t] {
				seen[t] = true
				work = append(work, t)
			}
		}
	}
	return false
}

func TestLimit(t *testing.T) {
	// The edge from 1 to 1 has an atom, and no more fit.
	g := ground(t, 2, 3)
	g.Number(edge(1, 1))
	g.Number(edge(2, 1))
	g.Number(edge(1, 2))
	order.Orders(g)
	if !g.Table().Full() || g.Builder().Bad() {
		t.Error("full, or bad")
	}
	for _, c := range told(g) {
		if c != "-E11" {
			t.Error(c)
		}
	}
	g = ground(t, 2, 3)
	g.Number(edge(1, 2))
	g.Number(edge(2, 1))
	order.Orders(g)
	if got := strings.Join(told(g), "; "); got != "-E12 12" {
		t.Error(got)
	}
}

func TestOthersEnd(t *testing.T) {
	order.Orders(nil)
	order.Orders(choice.New(api.Recipe{}, api.Request{}, 100))
	g := ground(t, 40, 100)
	order.Orders(g)
}

func TestAllPlaces(t *testing.T) {
	g := ground(t, api.MaxPackages, api.MaxAtoms)
	order.Orders(g)
	n := api.MaxPackages
	if got := len(g.Builder().Clauses()); got != n*(n-1)/2+n*(n-1)*(n-2) || g.Table().Len() != n*(n-1) || g.Table().Full() {
		t.Errorf("%d clauses, %d atoms", got, g.Table().Len())
	}
	if g.Table().Look(ahead(1, 24)) == 0 || g.Table().Look(ahead(24, 1)) == 0 || g.Table().Look(ahead(0, 1)) != 0 {
		t.Error("the places are those of the packages that may be needed")
	}
}

func TestCircle(t *testing.T) {
	tests := []struct {
		edges [][]int
		first int
	}{
		{nil, -1},
		{[][]int{nil}, -1},
		{[][]int{{0}}, 0},
		{[][]int{{1}, {0}}, 0},
		{[][]int{{1}, nil}, -1},
		{[][]int{{1}, {1}}, 1},
		{[][]int{{1}, {2}, {1}}, 1},
		{[][]int{{1, 2}, {3}, {3}, nil}, -1},
		{[][]int{{1, 2}, {3}, {3}, {0}}, 0},
		{[][]int{{3}, {2}, {1}, {3}}, 1},
		{[][]int{{7, -1, math.MaxInt, math.MinInt, 2}, {1}, nil}, 1},
		{[][]int{{1, 1, 1}, {0, 0}}, 0},
	}
	for _, x := range tests {
		way := order.Circle(x.edges)
		if x.first < 0 && len(way) > 0 || x.first >= 0 && (len(way) == 0 || way[0] != x.first || !goesAlong(x.edges, way)) {
			t.Errorf("Circle(%v) = %v", x.edges, way)
		}
	}
}

// goesAlong tells whether each place leads to the next one, the last one to the first.
func goesAlong(edges [][]int, way []int) bool {
	for i, p := range way {
		if p < 0 || p >= len(edges) || !slices.Contains(edges[p], way[(i+1)%len(way)]) {
			return false
		}
	}
	return len(way) > 0
}

func TestCircles(t *testing.T) {
	r := rand.New(rand.NewSource(15))
	for range 3000 {
		edges := make([][]int, 1+r.Intn(8))
		for range r.Intn(12) {
			p := r.Intn(len(edges))
			edges[p] = append(edges[p], r.Intn(len(edges)+2)-1)
		}
		kept := fmt.Sprint(edges)
		way := order.Circle(edges)
		if goesRound(edges) != (len(way) > 0) || len(way) > 0 && !goesAlong(edges, way) || fmt.Sprint(edges) != kept {
			t.Fatalf("Circle(%s) = %v", kept, way)
		}
		for p := range edges {
			if leads(edges, p, p) {
				if way[0] != p {
					t.Fatalf("Circle(%v) = %v, not from %d on", edges, way, p)
				}
				break
			}
		}
		if len(way) > 0 {
			way[0] = 77
			if again := order.Circle(edges); again[0] == 77 {
				t.Fatal("a way is kept")
			}
		}
	}
}
