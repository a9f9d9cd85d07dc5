package cost_test

import (
	"fmt"
	"math"
	"slices"
	"testing"

	"cooper/api"
	"cooper/cost"
	"cooper/formula"
	"cooper/recipe"
	"cooper/request"
)

func read(t *testing.T, text, ask string) (api.Recipe, api.Request) {
	t.Helper()
	x, where, err := recipe.Parse(text)
	if err != api.OK {
		t.Fatalf("Parse(%q): %v, %v", text, where, err)
	}
	q, where, err := request.Parse(ask)
	if err != api.OK {
		t.Fatalf("Parse(%q): %v, %v", ask, where, err)
	}
	return x, q
}

const some = `package a
version 1
version 3
version 2 old
variant x on off
variant y 1 2
depends v when x=off
depends u when @3
package b
version 5 old
version 4
provides v
provides u
package c
version 1
version 2
provides v
depends u
package far
version 1
provides w
provides u
prefer v c
prefer u far
prefer w far
`

func set(words ...string) []api.Setting {
	var out []api.Setting
	for i := 0; i < len(words); i += 2 {
		out = append(out, api.Setting{Name: words[i], Value: words[i+1]})
	}
	return out
}

func node(name, version string, settings ...string) api.Node {
	return api.Node{Name: name, Version: version, Settings: set(settings...)}
}

func TestOf(t *testing.T) {
	on := []string{"x", "on", "y", "1"}
	off := []string{"x", "off", "y", "2"}
	tests := []struct {
		name string
		ask  string
		g    []api.Node
		want api.Cost
	}{
		{"nothing", "root a", nil, api.Cost{}},
		{"the newest root", "root a", []api.Node{node("a", "3", on...)}, api.Cost{0, 0, 0, 0, 0, 1}},
		{"an old root", "root a", []api.Node{node("a", "2", on...)}, api.Cost{1, 1, 0, 0, 0, 1}},
		{"the oldest one", "root a", []api.Node{node("a", "1", on...)}, api.Cost{0, 2, 0, 0, 0, 1}},
		{"unusual settings", "root a", []api.Node{node("a", "1", off...)}, api.Cost{0, 2, 2, 0, 0, 1}},
		{"one unusual setting", "root a", []api.Node{node("a", "1", "x", "on", "y", "2")}, api.Cost{0, 2, 1, 0, 0, 1}},
		{"no root", "root b", []api.Node{node("a", "1", on...)}, api.Cost{0, 0, 0, 0, 2, 1}},
		{"a root by a virtual name", "root v", []api.Node{node("c", "1")}, api.Cost{0, 1, 0, 0, 0, 1}},
		{"two of them", "root v", []api.Node{node("b", "4"), node("c", "1")}, api.Cost{0, 2, 0, 2, 0, 2}},
		{"what is not needed", "root a", []api.Node{node("a", "1", on...), node("b", "5")}, api.Cost{1, 2, 0, 0, 0, 2}},
		{"what is needed when", "root a", []api.Node{node("a", "1", off...), node("b", "5")}, api.Cost{1, 2, 2, 1, 0, 2}},
		{"two names of one", "root a", []api.Node{node("a", "3", off...), node("b", "5")}, api.Cost{1, 0, 2, 2, 0, 2}},
		{"a name once", "root v\nroot v\nroot a", []api.Node{node("a", "3", off...), node("b", "5")}, api.Cost{1, 0, 2, 2, 0, 2}},
		{"a name once, whatever stands between", "root v\nroot u\nroot v", []api.Node{node("b", "4")}, api.Cost{0, 1, 0, 2, 0, 1}},
		{"the one that is preferred", "root a", []api.Node{node("a", "1", off...), node("c", "2")}, api.Cost{0, 2, 2, 0, 0, 2}},
		{"roots by virtual names", "root w\nroot u", []api.Node{node("far", "1"), node("b", "4")}, api.Cost{0, 1, 0, 1, 0, 2}},
		{"no package's", "root a", []api.Node{node("z", "1", "x", "off"), node("a", "3", on...)}, api.Cost{0, 0, 0, 0, 0, 2}},
		{"no such version", "root a\nroot b", []api.Node{node("a", "9", on...), node("b", "")}, api.Cost{0, 0, 0, 0, 0, 2}},
		{"twice", "root a", []api.Node{node("a", "1", on...), node("a", "1", on...)}, api.Cost{0, 4, 0, 0, 0, 2}},
	}
	for _, test := range tests {
		x, q := read(t, some, test.ask)
		keptX, keptQ, keptG := fmt.Sprint(x), fmt.Sprint(q), fmt.Sprint(test.g)
		got := cost.Of(x, q, api.Graph{Nodes: test.g})
		if got != test.want {
			t.Errorf("%s: %v, not %v", test.name, got, test.want)
		}
		if fmt.Sprint(x) != keptX || fmt.Sprint(q) != keptQ || fmt.Sprint(test.g) != keptG {
			t.Errorf("%s: what was handed in is changed", test.name)
		}
	}
}

func TestCompare(t *testing.T) {
	row := []api.Cost{{-1, 9}, {}, {0, 0, 0, 0, 0, 1}, {0, 0, 0, 0, 1, 0}, {0, 0, 0, 1}, {0, 0, 1}, {0, 1, 0, 9, 9, 9}, {0, 1, 1}, {0, 2}, {1}, {math.MaxInt}}
	for i, a := range row {
		for k, b := range row {
			want := 0
			if i < k {
				want = -1
			} else if i > k {
				want = 1
			}
			if got := cost.Compare(a, b); got != want {
				t.Errorf("Compare(%v, %v) = %d", a, b, got)
			}
		}
	}
}

func TestWeigh(t *testing.T) {
	model := []bool{true, false}
	tests := []struct {
		l    []api.Term
		want int
	}{
		{nil, 0},
		{[]api.Term{{Literal: 1, Weight: 3}, {Literal: 2, Weight: 5}}, 3},
		{[]api.Term{{Literal: -1, Weight: 3}, {Literal: -2, Weight: 5}}, 5},
		{[]api.Term{{Literal: 1, Weight: 3}, {Literal: 1, Weight: 4}}, 7},
		{[]api.Term{{Literal: 3, Weight: 3}, {Literal: -3, Weight: 4}}, 4},
		{[]api.Term{{Literal: math.MaxInt, Weight: 3}, {Literal: -math.MaxInt, Weight: 4}}, 4},
	}
	for _, x := range tests {
		if got := cost.Weigh(x.l, model); got != x.want {
			t.Errorf("Weigh(%v) = %d", x.l, got)
		}
	}
	cost.Weigh([]api.Term{{Literal: 0, Weight: 1}, {Literal: math.MinInt, Weight: 1}}, model)
	if got := cost.Weigh([]api.Term{{Literal: 1, Weight: 3}}, nil); got != 0 {
		t.Error(got)
	}
}

func TestHolds(t *testing.T) {
	n := node("a", "1.5", "x", "on", "y", "2")
	all := []api.Span{{}}
	tests := []struct {
		s    api.Spec
		want bool
	}{
		{api.Spec{Spans: all}, true},
		{api.Spec{Name: "b", Spans: all}, true},
		{api.Spec{}, false},
		{api.Spec{Spans: []api.Span{{Lo: "1", Hi: "2"}}}, true},
		{api.Spec{Spans: []api.Span{{Lo: "1", Hi: "1"}, {Lo: "1.5", Hi: "1.5"}}}, true},
		{api.Spec{Spans: []api.Span{{Lo: "2"}}}, false},
		{api.Spec{Spans: all, Settings: set("x", "on")}, true},
		{api.Spec{Spans: all, Settings: set("x", "on", "y", "2")}, true},
		{api.Spec{Spans: all, Settings: set("x", "off")}, false},
		{api.Spec{Spans: all, Settings: set("z", "on")}, false},
		{api.Spec{Spans: []api.Span{{Lo: "2"}}, Settings: set("x", "on")}, false},
	}
	for _, x := range tests {
		if cost.Holds(n, x.s) != x.want {
			t.Errorf("Holds(%v) = %v", x.s, !x.want)
		}
	}
	if cost.Holds(node("a", "!"), api.Spec{Spans: all}) || cost.Holds(api.Node{}, api.Spec{Spans: all}) {
		t.Error("what is no version is in no set")
	}
}

// told are terms by their atoms.
func told(f *formula.Formula, l []api.Term) string {
	out := ""
	for _, term := range l {
		a, ok := f.Ground().Table().At(term.Literal)
		if !ok {
			return "?"
		}
		out += fmt.Sprintf("%d:%d.%d.%d=%d ", a.Kind, a.A, a.B, a.C, term.Weight)
	}
	return out
}

func TestTerms(t *testing.T) {
	x, q := read(t, some, "root a\nroot u")
	f, err := formula.Build(x, q, 10000)
	if err != api.OK {
		t.Fatal(err)
	}
	atoms, clauses := f.Atoms(), f.Clauses()
	want := map[int]string{
		0:  "2:0.2.0=1 2:1.0.0=1 ",
		1:  "2:0.0.0=2 2:0.2.0=1 2:1.1.0=1 ",
		2:  "3:0.0.1=1 3:0.1.1=1 ",
		4:  "2:2.0.0=1 ",
		5:  "1:0.0.0=1 1:1.0.0=1 1:2.0.0=1 1:3.0.0=1 ",
		6:  "",
		-1: "",
	}
	for sum, text := range want {
		if got := told(f, cost.Terms(f, sum)); got != text {
			t.Errorf("of the sum %d: %s, not %s", sum, got, text)
		}
	}
	if f.Atoms() != atoms || len(f.Ground().Builder().Clauses()) != len(clauses) {
		t.Error("these need no atoms and clauses")
	}
	// Of v the preferred one is c, of u far: so b has a rank above 0 twice.
	terms := cost.Terms(f, 3)
	if len(terms) != 2 || f.Atoms() != atoms+2 {
		t.Error(told(f, terms))
	}
	for _, term := range terms {
		if a, _ := f.Ground().Table().At(term.Literal); a.Kind != api.HelpAtom || term.Weight != 1 {
			t.Error(told(f, terms))
		}
	}
	if !slices.EqualFunc(f.Clauses(), clauses, slices.Equal) || len(f.Ground().Builder().Clauses()) <= len(clauses) {
		t.Error("clauses go to the builder, and are no part of the formula's")
	}
	for _, sum := range []int{math.MinInt, -1, 6, math.MaxInt} {
		if l := cost.Terms(f, sum); len(l) != 0 {
			t.Errorf("of the sum %d: %v", sum, l)
		}
	}
	for sum := range 7 {
		if l := cost.Terms(nil, sum); len(l) != 0 {
			t.Error("of a nil formula", l)
		}
	}
}

func TestTermsOfAFullTable(t *testing.T) {
	x, q := read(t, some, "root a\nroot u")
	f, _ := formula.Build(x, q, 10000)
	tight, err := formula.Build(x, q, f.Atoms())
	if err != api.OK {
		t.Fatal(err)
	}
	cost.Terms(tight, 3)
	if !tight.Ground().Table().Full() || tight.Ground().Builder().Bad() {
		t.Error("full, and not bad")
	}
}

func TestOthersEnd(t *testing.T) {
	x, q := read(t, "package a\nversion 1\nversion 1\nvariant x on on\nprovides a\nprovides v\ndepends none\ndepends v\npackage a\nprefer v a\nprefer v z\n", "root a\nroot none\nroot v@1")
	x.Packages[0].Releases[0].Version = "!"
	g := api.Graph{Nodes: []api.Node{{}, node("a", "!", "x", "on", "x", "off"), node("a", "1"), node("z", "1")}}
	cost.Of(x, q, g)
	cost.Of(api.Recipe{}, api.Request{}, g)
	cost.Holds(api.Node{}, api.Spec{})
}
