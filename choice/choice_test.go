package choice_test

import (
	"fmt"
	"math"
	"reflect"
	"slices"
	"testing"

	"cooper/api"
	"cooper/choice"
	"cooper/cnf"
	"cooper/recipe"
	"cooper/request"
)

func read(t *testing.T, text, ask string) (api.Recipe, api.Request) {
	t.Helper()
	x, where, err := recipe.Parse(text)
	if err != api.OK {
		t.Fatalf("Parse(%q): %v, %v", text, where, err)
	}
	q, where, err := request.Parse(ask)
	if err != api.OK {
		t.Fatalf("Parse(%q): %v, %v", ask, where, err)
	}
	return x, q
}

const some = `package lone
version 1
package b
version 1
version 2
conflicts * with a
depends v when @1
package a
version 1
variant x on off
variant n 1 2 3
conflicts x=on
depends b when x=on
depends b
conflicts * with lone
package w
version 3
provides v
`

func TestExample(t *testing.T) {
	x, q := read(t, "package a\nversion 1\nversion 2\n", "root a")
	g := choice.New(x, q, 100)
	if g.Table().Len() != 0 || len(g.Builder().Clauses()) != 0 {
		t.Error("a new ground has clauses")
	}
	g.Choices()
	if got := fmt.Sprint(g.Builder().Clauses()); got != "[[-1 2 3] [-2 -3] [1 -2] [1 -3]]" {
		t.Error(got)
	}
}

func TestFirstPart(t *testing.T) {
	x, q := read(t, some, "\nroot a\n\nroot v\n")
	g := choice.New(x, q, 100)
	g.Choices()
	want := []api.Atom{
		{Kind: api.NodeAtom, A: 1}, {Kind: api.ReleaseAtom, A: 1}, {Kind: api.ReleaseAtom, A: 1, B: 1},
		{Kind: api.NodeAtom, A: 2}, {Kind: api.ReleaseAtom, A: 2}, {Kind: api.ValueAtom, A: 2}, {Kind: api.ValueAtom, A: 2, C: 1},
		{Kind: api.ValueAtom, A: 2, B: 1}, {Kind: api.ValueAtom, A: 2, B: 1, C: 1}, {Kind: api.ValueAtom, A: 2, B: 1, C: 2},
		{Kind: api.NodeAtom, A: 3}, {Kind: api.ReleaseAtom, A: 3},
	}
	if g.Table().Len() != len(want) {
		t.Error(g.Table().Len())
	}
	for i, a := range want {
		if got, ok := g.Table().At(i + 1); got != a || !ok {
			t.Errorf("%d is %v, not %v", i+1, got, a)
		}
	}
	clauses := "[[-1 2 3] [-2 -3] [1 -2] [1 -3] " +
		"[-4 5] [4 -5] [-4 6 7] [-6 -7] [4 -6] [4 -7] [-4 8 9 10] [-8 -9] [-8 -10] [-9 -10] [4 -8] [4 -9] [4 -10] " +
		"[-11 12] [11 -12]]"
	if got := fmt.Sprint(g.Builder().Clauses()); got != clauses {
		t.Errorf("%s\nnot\n%s", got, clauses)
	}
	if g.Table().Full() || g.Builder().Bad() {
		t.Error("full, or bad")
	}
}

func TestPlacesAndRules(t *testing.T) {
	x, q := read(t, some, "\nroot a\n\nroot v\n")
	g := choice.New(x, q, 100)
	if l := g.Places(); !slices.Equal(l, []int{1, 2, 3}) {
		t.Error(l)
	}
	for p, want := range map[int]bool{-1: false, 0: false, 1: true, 2: true, 3: true, 4: false, math.MaxInt: false, math.MinInt: false} {
		if g.Has(p) != want {
			t.Errorf("Has(%d) = %v", p, !want)
		}
	}
	want := []api.Rule{
		{Kind: api.RootRule, Package: -1, Index: 0, Line: 2},
		{Kind: api.RootRule, Package: -1, Index: 1, Line: 4},
		{Kind: api.DependRule, Package: 1, Index: 0, Line: 7},
		{Kind: api.ConflictRule, Package: 1, Index: 0, Line: 6},
		{Kind: api.DependRule, Package: 2, Index: 0, Line: 13},
		{Kind: api.DependRule, Package: 2, Index: 1, Line: 14},
		{Kind: api.ConflictRule, Package: 2, Index: 0, Line: 12},
		{Kind: api.ConflictRule, Package: 2, Index: 1, Line: 15},
	}
	if l := g.Rules(); !slices.Equal(l, want) {
		t.Errorf("%v, not %v", l, want)
	}
	// What the choices are doesn't hang on the rules having been asked for, nor the other way round.
	g.Choices()
	if l := g.Rules(); !slices.Equal(l, want) {
		t.Errorf("%v, not %v", l, want)
	}
}

func TestNumber(t *testing.T) {
	x, q := read(t, some, "root a")
	g := choice.New(x, q, 3)
	rule := api.Atom{Kind: api.RuleAtom, A: 1}
	if g.Number(rule) != 1 || g.Number(rule) != 1 || g.Table().Look(rule) != 1 || g.Table().Number(api.Atom{}) != 2 || g.Number(api.Atom{}) != 2 {
		t.Error("the numbers are the table's")
	}
	if g.Table().Help() != 3 || g.Number(api.Atom{A: 9}) != 0 || !g.Table().Full() {
		t.Error("the limit is the table's")
	}
	g.Builder().Add(1, 2)
	if l := g.Builder().Clauses(); len(l) != 1 {
		t.Error("the builder is shared", l)
	}
}

// TestLimit holds what a ground of a small limit builds against what one of a great limit does: the clauses with other atoms are left out.
func TestLimit(t *testing.T) {
	x, q := read(t, some, "root a\nroot v")
	whole := choice.New(x, q, 100)
	whole.Choices()
	for _, limit := range []int{-1, 0, 1, 2, 3, 4, 5, 6, 7, 8, 9, 10, 11, 12, 13} {
		g := choice.New(x, q, limit)
		g.Choices()
		var want [][]int
		for _, c := range whole.Builder().Clauses() {
			if cnf.Atoms([][]int{c}) <= limit {
				want = append(want, c)
			}
		}
		if got := g.Builder().Clauses(); !slices.EqualFunc(got, want, slices.Equal) {
			t.Errorf("of the limit %d: %v, not %v", limit, got, want)
		}
		if g.Table().Full() != (limit < 12) || g.Builder().Bad() {
			t.Errorf("of the limit %d: full is %v, bad %v", limit, g.Table().Full(), g.Builder().Bad())
		}
	}
}

// TestChoices is P13.2, over all models.
func TestChoices(t *testing.T) {
	x, q := read(t, some, "root a\nroot v")
	g := choice.New(x, q, 100)
	g.Choices()
	clauses := g.Builder().Clauses()
	n := g.Table().Len()
	count := 0
	for bits := range 1 << n {
		model := make([]bool, n)
		for i := range model {
			model[i] = bits>>i&1 > 0
		}
		so := func(a api.Atom) bool { return model[g.Table().Look(a)-1] }
		right := true
		for _, p := range g.Places() {
			here := so(api.Atom{Kind: api.NodeAtom, A: p})
			rows := [][]api.Atom{nil}
			for i := range x.Packages[p].Releases {
				rows[0] = append(rows[0], api.Atom{Kind: api.ReleaseAtom, A: p, B: i})
			}
			for i, v := range x.Packages[p].Variants {
				var row []api.Atom
				for k := range v.Values {
					row = append(row, api.Atom{Kind: api.ValueAtom, A: p, B: i, C: k})
				}
				rows = append(rows, row)
			}
			for _, row := range rows {
				k := 0
				for _, a := range row {
					if so(a) {
						k++
					}
				}
				right = right && (here && k == 1 || !here && k == 0)
			}
		}
		if cnf.Holds(clauses, model) != right {
			t.Fatalf("%v: %v", model, !right)
		}
		if right {
			count++
		}
	}
	if count != (1+2)*(1+2*3)*(1+1) {
		t.Errorf("%d models", count)
	}
}

func TestNothingIsKept(t *testing.T) {
	x, q := read(t, some, "root a@1: x=on")
	x.Prefers = []api.Prefer{{Virtual: "v", Names: []string{"w"}}}
	keptX, keptQ := read(t, some, "root a@1: x=on")
	keptX.Prefers = []api.Prefer{{Virtual: "v", Names: []string{"w"}}}
	g := choice.New(x, q, 100)
	spoil := func(x api.Recipe, q api.Request) {
		for i := range x.Packages {
			p := &x.Packages[i]
			p.Name, p.Releases[0].Version = "z", "9"
			for k := range p.Variants {
				p.Variants[k].Values[0] = "z"
			}
			for k := range p.Depends {
				p.Depends[k].On.Spans[0].Lo, p.Depends[k].When.Spans[0].Hi = "9", "9"
				for j := range p.Depends[k].When.Settings {
					p.Depends[k].When.Settings[j].Value = "z"
				}
			}
			for k := range p.Conflicts {
				p.Conflicts[k].When.Spans[0].Lo = "9"
			}
			for k := range p.Provides {
				p.Provides[k] = "z"
			}
		}
		x.Prefers[0].Names[0] = "z"
		q.Roots[0].Spec.Spans[0].Lo, q.Roots[0].Spec.Settings[0].Value = "9", "z"
	}
	spoil(x, q)
	for range 2 {
		gotX, gotQ := g.Recipe(), g.Request()
		if fmt.Sprint(gotX, gotQ) != fmt.Sprint(keptX, keptQ) {
			t.Fatalf("%v\n%v", gotX, gotQ)
		}
		spoil(gotX, gotQ)
		g.Places()[0] = 77
		g.Rules()[0].Line = 77
	}
	if g.Places()[0] == 77 || g.Rules()[0].Line == 77 || !g.Has(1) || g.Has(77) {
		t.Error("what is answered is kept")
	}
	g.Choices()
	if g.Table().Look(api.Atom{Kind: api.ReleaseAtom, A: 1, B: 1}) == 0 {
		t.Error("the first part is built of what was handed in later")
	}
}

func TestNil(t *testing.T) {
	var g *choice.Ground
	g.Choices()
	if g.Table() != nil || g.Builder() != nil || g.Number(api.Atom{}) != 0 || g.Has(0) || len(g.Places())+len(g.Rules()) != 0 {
		t.Error("a nil ground has something")
	}
	if !reflect.DeepEqual(g.Recipe(), api.Recipe{}) || !reflect.DeepEqual(g.Request(), api.Request{}) {
		t.Error("a nil ground has something")
	}
}

func TestOthersEnd(t *testing.T) {
	x, q := read(t, "package a\nvariant x on on\nvariant x on\nprovides a\ndepends none\ndepends a z=1 when z=1\nconflicts * with none\npackage a\n", "root a\nroot none\nroot a z=1")
	g := choice.New(x, q, 100)
	g.Choices()
	choice.New(api.Recipe{}, api.Request{}, math.MaxInt).Choices()
	choice.New(api.Recipe{Packages: make([]api.Package, 100)}, api.Request{Roots: make([]api.Root, 100)}, math.MinInt).Choices()
}
