package formula_test

import (
	"fmt"
	"math"
	"reflect"
	"slices"
	"strings"
	"testing"

	"cooper/api"
	"cooper/choice"
	"cooper/cnf"
	"cooper/edge"
	"cooper/formula"
	"cooper/order"
	"cooper/recipe"
	"cooper/request"
)

func read(t *testing.T, text, ask string) (api.Recipe, api.Request) {
	t.Helper()
	x, where, err := recipe.Parse(text)
	if err != api.OK {
		t.Fatalf("Parse(%q): %v, %v", text, where, err)
	}
	q, where, err := request.Parse(ask)
	if err != api.OK {
		t.Fatalf("Parse(%q): %v, %v", ask, where, err)
	}
	return x, q
}

func build(t *testing.T, text, ask string) *formula.Formula {
	t.Helper()
	x, q := read(t, text, ask)
	f, err := formula.Build(x, q, api.MaxAtoms)
	if err != api.OK || f == nil {
		t.Fatal(err)
	}
	return f
}

const some = `package z
version 1
version 2
variant y 1 2
variant x on off
depends v when x=off
depends b
conflicts @2 with b@2
package b
version 1
version 2
depends v
package m
version 1
provides v
package k
version 1
provides v
package lone
version 1
`

func TestBuild(t *testing.T) {
	x, q := read(t, some, "root z\nroot b@1")
	f, err := formula.Build(x, q, 1000)
	if err != api.OK {
		t.Fatal(err)
	}
	// It is the three parts of a ground, one behind the other.
	g := choice.New(x, q, 1000)
	g.Choices()
	edge.Edges(g)
	order.Orders(g)
	if f.Atoms() != g.Table().Len() || !slices.EqualFunc(f.Clauses(), g.Builder().Clauses(), slices.Equal) || !slices.Equal(f.Rules(), g.Rules()) {
		t.Error("other clauses than the ground's")
	}
	for i := range f.Atoms() {
		a, _ := f.Ground().Table().At(i + 1)
		if b, _ := g.Table().At(i + 1); a != b || f.Number(a) != i+1 {
			t.Errorf("%d is %v, not %v", i+1, a, b)
		}
	}
	for i := range f.Rules() {
		if f.Number(api.Atom{Kind: api.RuleAtom, A: i}) == 0 {
			t.Errorf("the rule %d has no atom", i)
		}
	}
	if f.Number(api.Atom{Kind: api.NodeAtom, A: 4}) != 0 || f.Number(api.Atom{}) != 0 || f.Atoms() != g.Table().Len() {
		t.Error("Number gives numbers")
	}
}

func TestBuildErrors(t *testing.T) {
	tests := []struct {
		text, ask string
		limit     int
		err       api.Errno
	}{
		{"package a\n", "root a", 1000, api.ErrForm},
		{"package a\nversion 1\ndepends z", "root a", 1000, api.ErrForm},
		{"package a\nversion 1\n", "", 1000, api.ErrForm},
		{"package a\nversion 1\n", "root z", 1000, api.ErrForm},
		{"package a\n", "root a", 0, api.ErrForm},
		{"package a\nversion 1\n", "root a", 0, api.ErrLarge},
		{"package a\nversion 1\n", "root a", -1, api.ErrLarge},
		{"package a\nversion 1\n", "root a", math.MinInt, api.ErrLarge},
		{"package a\nversion 1\n", "root a", 1000, api.OK},
		{"package a\nversion 1\n", "root a", math.MaxInt, api.OK},
	}
	for _, x := range tests {
		r, q := read(t, x.text, x.ask)
		f, err := formula.Build(r, q, x.limit)
		if err != x.err || (f != nil) != (err == api.OK) {
			t.Errorf("Build(%q, %q, %d): %v", x.text, x.ask, x.limit, err)
		}
	}
	x, q := read(t, some, "root z")
	f, _ := formula.Build(x, q, 1000)
	for limit := range f.Atoms() + 2 {
		want := api.OK
		if limit < f.Atoms() {
			want = api.ErrLarge
		}
		if _, err := formula.Build(x, q, limit); err != want {
			t.Errorf("of the limit %d: %v", limit, err)
		}
	}
}

func TestAssume(t *testing.T) {
	f := build(t, some, "root z\nroot b@1")
	rules := f.Rules()
	for _, off := range [][]bool{nil, {}, {true}, {false, true}, slices.Repeat([]bool{true}, len(rules)), slices.Repeat([]bool{false, true}, 50)} {
		kept := slices.Clone(off)
		got := f.Assume(off)
		if len(got) != len(rules) {
			t.Fatal(got)
		}
		for i, l := range got {
			want := f.Number(api.Atom{Kind: api.RuleAtom, A: i})
			if i < len(off) && off[i] {
				want = -want
			}
			if l != want {
				t.Errorf("Assume(%v) = %v", off, got)
			}
		}
		if !slices.Equal(off, kept) {
			t.Error("what was handed in is changed")
		}
	}
}

// model is a model in which just these atoms are so.
func model(f *formula.Formula, l ...api.Atom) []bool {
	out := make([]bool, f.Atoms())
	for _, a := range l {
		out[f.Number(a)-1] = true
	}
	return out
}

func TestRead(t *testing.T) {
	f := build(t, some, "root z\nroot b@1")
	m := model(f,
		api.Atom{Kind: api.NodeAtom, A: 0}, api.Atom{Kind: api.ReleaseAtom, A: 0, B: 1}, api.Atom{Kind: api.ValueAtom, A: 0, B: 1, C: 1}, api.Atom{Kind: api.ValueAtom, A: 0, B: 0, C: 0}, api.Atom{Kind: api.ValueAtom, A: 0, B: 0, C: 1},
		api.Atom{Kind: api.NodeAtom, A: 1}, api.Atom{Kind: api.ReleaseAtom, A: 1, B: 0}, api.Atom{Kind: api.ReleaseAtom, A: 1, B: 1},
		api.Atom{Kind: api.ReleaseAtom, A: 2},
		api.Atom{Kind: api.NodeAtom, A: 3},
		api.Atom{Kind: api.EdgeAtom, A: 0, B: 2}, api.Atom{Kind: api.EdgeAtom, A: 0, B: 1}, api.Atom{Kind: api.EdgeAtom, A: 1, B: 3},
	)
	kept := slices.Clone(m)
	want := "{[{b 1 [] [k]} {k  [] []} {z 2 [{y 1} {x off}] [b m]}]}"
	if got := fmt.Sprint(f.Read(m)); got != want {
		t.Errorf("%s, not %s", got, want)
	}
	if !slices.Equal(m, kept) {
		t.Error("what was handed in is changed")
	}
	f.Read(m).Nodes[2].Needs[0] = "x"
	f.Read(m).Nodes[2].Settings[0].Name = "x"
	if got := fmt.Sprint(f.Read(m)); got != want {
		t.Errorf("%s, not %s", got, want)
	}
	for _, m := range [][]bool{nil, {}, {false}, make([]bool, f.Atoms())} {
		if g := f.Read(m); len(g.Nodes) != 0 {
			t.Errorf("Read(%v) = %v", m, g)
		}
	}
	all := slices.Repeat([]bool{true}, f.Atoms()+10)
	if got := fmt.Sprint(f.Read(all)); !strings.HasPrefix(got, "{[{b 1 [] [k m]} {k 1 [] []} {m 1 [] []} {z 1 [{y 1} {x on}] [b k m]}]}") {
		t.Error(got)
	}
	// A package without a release and a value that are so, and a model that ends early.
	if got := fmt.Sprint(f.Read(model(f, api.Atom{Kind: api.NodeAtom, A: 0}))); got != "{[{z  [] []}]}" {
		t.Error(got)
	}
	for n, want := range []string{"{[]}", "{[{z  [] []}]}", "{[{z 1 [] []}]}"} {
		if got := fmt.Sprint(f.Read(all[:n])); got != want {
			t.Errorf("%s, not %s", got, want)
		}
	}
}

func TestOneGraph(t *testing.T) {
	f := build(t, "package a\nversion 1\n", "root a")
	clauses := f.Clauses()
	for _, l := range f.Assume(nil) {
		clauses = append(clauses, []int{l})
	}
	n := 0
	for bits := range 1 << f.Atoms() {
		m := make([]bool, f.Atoms())
		for i := range m {
			m[i] = bits>>i&1 > 0
		}
		if cnf.Holds(clauses, m) {
			n++
			if got := fmt.Sprint(f.Read(m)); got != "{[{a 1 [] []}]}" {
				t.Error(got)
			}
		}
	}
	if n != 1 {
		t.Errorf("%d models", n)
	}
}

func TestShared(t *testing.T) {
	f := build(t, some, "root z")
	atoms, clauses := f.Atoms(), f.Clauses()
	f.Ground().Builder().Add(1, 2)
	if n := f.Ground().Number(api.Atom{Kind: api.HelpAtom, A: 99}); n != atoms+1 || f.Atoms() != n || f.Number(api.Atom{Kind: api.HelpAtom, A: 99}) != n {
		t.Error("what is asked for later counts")
	}
	got := f.Clauses()
	if !slices.EqualFunc(got, clauses, slices.Equal) {
		t.Error("what is built later is no part of the clauses")
	}
	got[0][0] = 77
	_ = append(got, []int{7})
	f.Rules()[0].Line = 77
	if !slices.EqualFunc(f.Clauses(), clauses, slices.Equal) || f.Rules()[0].Line == 77 {
		t.Error("what is answered is kept")
	}
}

func TestNothingIsKept(t *testing.T) {
	x, q := read(t, some, "root z")
	f, _ := formula.Build(x, q, 1000)
	m := slices.Repeat([]bool{true}, f.Atoms())
	want := fmt.Sprint(f.Read(m))
	for i := range x.Packages {
		x.Packages[i].Name = "!"
		x.Packages[i].Releases[0].Version = "!"
	}
	q.Roots[0].Spec.Name = "!"
	if got := fmt.Sprint(f.Read(m)); got != want {
		t.Errorf("%s, not %s", got, want)
	}
}

func TestNil(t *testing.T) {
	var f *formula.Formula
	if f.Atoms() != 0 || len(f.Clauses())+len(f.Rules())+len(f.Assume([]bool{true})) != 0 || f.Number(api.Atom{}) != 0 || f.Ground() != nil || !reflect.DeepEqual(f.Read([]bool{true}), api.Graph{}) {
		t.Error("a nil formula has something")
	}
}
