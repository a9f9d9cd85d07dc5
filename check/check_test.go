package check_test

import (
	"fmt"
	"slices"
	"strings"
	"testing"

	"cooper/api"
	"cooper/check"
	"cooper/recipe"
	"cooper/request"
)

func read(t *testing.T, text string) api.Recipe {
	t.Helper()
	x, where, err := recipe.Parse(text)
	if err != api.OK {
		t.Fatalf("Parse(%q): %v, %v", text, where, err)
	}
	return x
}

// lines are n lines, each with its number in it.
func lines(n int, format string) string {
	var out strings.Builder
	for i := range n {
		fmt.Fprintf(&out, format+"\n", i)
	}
	return out.String()
}

const fine = `package a
version 1
variant x on off
variant n 1 2
depends b@1: y=1 when x=on
depends v when @1 n=2
depends a x=off
conflicts x=off with b y=2
conflicts @7 n=1
package b
version 1
version 2 old
variant y 1 2
provides v
provides w
file f
file g
package c
version 1
provides v
file f
prefer v c b
prefer w b
`

func TestRecipe(t *testing.T) {
	one := "package a\nversion 1\n"
	tests := []struct {
		text string
		code uint8
		line int
	}{
		{"", api.Fine, 0},
		{fine, api.Fine, 0},
		// 1
		{lines(24, "package p%d\nversion 1"), api.Fine, 0},
		{lines(25, "package p%d\nversion 1"), api.TooMany, 49},
		{lines(26, "package p # %d"), api.TooMany, 25},
		{fine + lines(7, "prefer z%d b"), api.TooMany, 30},
		{fine + "package c\n" + lines(8, "prefer z%d b"), api.TooMany, 31},
		{lines(8, "prefer z%d b") + one, api.BadPrefer, 1},
		{lines(9, "prefer z%d b") + lines(25, "package p%d"), api.TooMany, 34},
		// 2
		{"package a\nversion 1\npackage b\nversion 1\npackage a\nversion 1", api.SameName, 5},
		{"package a\npackage a", api.NoRelease, 1},
		{"package a\nversion 1\npackage a", api.SameName, 3},
		{"package a\nversion 1\nprovides b\npackage b\nversion 1", api.NameClash, 4},
		{"package a\nversion 1\npackage b\nversion 1\nprovides a", api.NameClash, 1},
		{"package a\nprovides a", api.NameClash, 1},
		{"package a\nversion 1\npackage b\nprovides a\npackage a", api.NameClash, 1},
		{"package b\nversion 1\npackage a\nversion 1\npackage c\nversion 1\nprovides a\npackage a\nversion 1\n", api.NameClash, 3},
		{"package a", api.NoRelease, 1},
		{"package a\nversion 1\npackage b\nvariant x on on", api.NoRelease, 3},
		{"package a\n" + lines(10, "version %d"), api.Fine, 0},
		{"package a\n" + lines(11, "version %d"), api.TooMany, 1},
		{one + lines(16, "depends a when @%d"), api.Fine, 0},
		{one + lines(17, "depends a when @%d"), api.TooMany, 1},
		{one + lines(8, "conflicts @%d"), api.Fine, 0},
		{one + lines(9, "conflicts @%d"), api.TooMany, 1},
		{one + lines(4, "provides v%d"), api.Fine, 0},
		{one + lines(5, "provides v%d"), api.TooMany, 1},
		{one + lines(8, "file f%d"), api.Fine, 0},
		{one + lines(9, "file f%d"), api.TooMany, 1},
		{one + "version 1\n" + lines(9, "file f%d"), api.TooMany, 1},
		{"package a\nversion 1\nversion 2\nversion 1 old", api.SameThing, 1},
		{"package a\nversion 1\nversion 1\nvariant x on on", api.SameThing, 1},
		{one + "variant x on on", api.BadVariant, 1},
		{one + "variant x a b c d e", api.BadVariant, 1},
		{one + "variant x a\nvariant y a\nvariant x a", api.BadVariant, 1},
		{one + lines(4, "variant v%d on"), api.Fine, 0},
		{one + lines(5, "variant v%d on"), api.BadVariant, 1},
		{one + "variant x on on\nfile f\nfile f", api.BadVariant, 1},
		{one + "provides v\nprovides w\nprovides v", api.SameThing, 1},
		{one + "file f\nfile g\nfile f", api.SameThing, 1},
		{one + "file f\nprovides f", api.Fine, 0},
		{one + "depends z\npackage b", api.NoRelease, 4},
		{one + "depends z\npackage b\nversion 1\nversion 1", api.SameThing, 4},
		// 3
		{one + "depends z", api.Unknown, 3},
		{one + "\ndepends a\n\ndepends z@1 x=on", api.Unknown, 6},
		{one + "depends a x=on", api.BadSetting, 3},
		{one + "variant x on\ndepends a x=off", api.BadSetting, 4},
		{one + "variant x on\ndepends a x=on y=on", api.BadSetting, 4},
		{one + "variant x on\nvariant y off\ndepends a x=off", api.BadSetting, 5},
		{one + "provides v\ndepends v@1", api.BadVirtual, 4},
		{one + "provides v\ndepends v x=on", api.BadVirtual, 4},
		{one + "provides v\ndepends v", api.Fine, 0},
		{one + "depends a when x=on", api.BadSetting, 3},
		{one + "depends z when x=on", api.Unknown, 3},
		{one + "depends a when @9", api.Fine, 0},
		{one + "package b\nversion 1\nvariant x on\ndepends a when x=on\ndepends a x=on", api.BadSetting, 7},
		{one + "package b\nversion 1\nvariant x on\npackage c\nversion 1\ndepends b when x=on", api.BadSetting, 8},
		{one + "conflicts x=on", api.BadSetting, 3},
		{one + "conflicts * with z", api.Unknown, 3},
		{one + "conflicts *\nconflicts * with a\nconflicts * with z", api.Unknown, 5},
		{one + "conflicts x=on with z", api.BadSetting, 3},
		{one + "provides v\nconflicts * with v", api.Unknown, 4},
		{one + "conflicts * with a@1: x=on", api.BadSetting, 3},
		{one + "conflicts * with a@1:", api.Fine, 0},
		{one + "conflicts x=on\ndepends z", api.Unknown, 4},
		{one + "conflicts * with z\npackage b\nversion 1\ndepends y", api.Unknown, 3},
		{one + "prefer v a\ndepends z", api.Unknown, 4},
		// 4
		{one + "prefer v a", api.BadPrefer, 3},
		{one + "prefer a a", api.BadPrefer, 3},
		{one + "provides v\nprefer v a\nprefer v a", api.BadPrefer, 5},
		{one + "provides v\nprefer v a a", api.BadPrefer, 4},
		{one + "provides v\nprefer v b", api.BadPrefer, 4},
		{one + "provides v\npackage b\nversion 1\nprefer v a b", api.BadPrefer, 6},
		{one + "provides v\npackage b\nversion 1\nprovides w\nprefer v a\nprefer w b", api.Fine, 0},
		{one + "provides v\nprefer v v", api.BadPrefer, 4},
	}
	for _, x := range tests {
		if p := check.Recipe(read(t, x.text)); p != (api.Problem{Code: x.code, Line: x.line}) {
			t.Errorf("Recipe of\n%s\n%v, not %d at %d", x.text, p, x.code, x.line)
		}
	}
}

func TestRecipesThatNoTextHas(t *testing.T) {
	release := []api.Release{{Version: "1"}}
	all := []api.Span{{}}
	p := api.Package{Name: "a", Releases: release, Provides: []string{"v"}, Line: 5}
	with := func(change func(*api.Package)) api.Recipe {
		q := p
		change(&q)
		return api.Recipe{Packages: []api.Package{q}}
	}
	tests := []struct {
		name string
		x    api.Recipe
		want api.Problem
	}{
		{"a wrong version", with(func(p *api.Package) { p.Releases = []api.Release{{Version: "01"}} }), api.Problem{}},
		{"a wrong version twice", with(func(p *api.Package) { p.Releases = []api.Release{{Version: "01"}, {Version: "01"}} }), api.Problem{Code: api.SameThing, Line: 5}},
		{"a variant without values", with(func(p *api.Package) { p.Variants = []api.Variant{{Name: "x"}} }), api.Problem{Code: api.BadVariant, Line: 5}},
		{"a wish without a name", with(func(p *api.Package) { p.Depends = []api.Depend{{Line: 6}} }), api.Problem{Code: api.Unknown, Line: 6}},
		{"a virtual one without spans", with(func(p *api.Package) { p.Depends = []api.Depend{{On: api.Spec{Name: "v"}, Line: 7}} }), api.Problem{Code: api.BadVirtual, Line: 7}},
		{"a virtual one with two spans", with(func(p *api.Package) {
			p.Depends = []api.Depend{{On: api.Spec{Name: "v", Spans: []api.Span{{}, {}}}, Line: 7}}
		}), api.Problem{Code: api.BadVirtual, Line: 7}},
		{"a virtual one of all versions", with(func(p *api.Package) { p.Depends = []api.Depend{{On: api.Spec{Name: "v", Spans: all}, Line: 7}} }), api.Problem{}},
		{"a with without a name, and settings", with(func(p *api.Package) {
			p.Conflicts = []api.Conflict{{With: api.Spec{Settings: []api.Setting{{Name: "x"}}}, Line: 7}}
		}), api.Problem{}},
	}
	for _, x := range tests {
		if got := check.Recipe(x.x); got != x.want {
			t.Errorf("%s: %v, not %v", x.name, got, x.want)
		}
	}
}

func TestRequest(t *testing.T) {
	tests := []struct {
		text string
		code uint8
		line int
	}{
		{"", api.NoRoot, 0},
		{"# none\n", api.NoRoot, 0},
		{"root a", api.Fine, 0},
		{"root a@9 x=on\nroot v\nroot a", api.Fine, 0},
		{lines(8, "root a # %d"), api.Fine, 0},
		{lines(9, "root a # %d"), api.TooMany, 9},
		{"\n" + lines(11, "root z # %d"), api.TooMany, 10},
		{"root a\n\nroot z", api.Unknown, 3},
		{"root a y=1", api.BadSetting, 1},
		{"root b y=1\nroot b y=3", api.BadSetting, 2},
		{"root v@1", api.BadVirtual, 1},
		{"root v y=1\nroot z", api.BadVirtual, 1},
		{"root a n=2 x=off", api.Fine, 0},
	}
	x := read(t, fine)
	for _, test := range tests {
		q, where, err := request.Parse(test.text)
		if err != api.OK {
			t.Fatal(test.text, where, err)
		}
		if p := check.Request(x, q); p != (api.Problem{Code: test.code, Line: test.line}) {
			t.Errorf("Request of %q: %v, not %d at %d", test.text, p, test.code, test.line)
		}
	}
	if p := check.Request(api.Recipe{}, api.Request{Roots: []api.Root{{Line: 4}}}); p != (api.Problem{Code: api.Unknown, Line: 4}) {
		t.Error(p)
	}
}

func TestNames(t *testing.T) {
	x := read(t, fine)
	x.Packages = append(x.Packages, x.Packages[0])
	x.Packages[3].Provides = []string{"b", "v", "v", "a"}
	for name, want := range map[string]int{"a": 0, "b": 1, "c": 2, "v": -1, "": -1, "z": -1} {
		if n := check.Find(x, name); n != want {
			t.Errorf("Find(%q) = %d", name, n)
		}
	}
	for name, want := range map[string][]int{"v": {1, 2, 3}, "w": {1}, "b": {3}, "a": {3}, "": nil, "z": nil} {
		if l := check.Providers(x, name); !slices.Equal(l, want) {
			t.Errorf("Providers(%q) = %v", name, l)
		}
	}
	for name, want := range map[string]bool{"v": true, "w": true, "b": false, "a": false, "": false, "z": false} {
		if check.Virtual(x, name) != want {
			t.Errorf("Virtual(%q) = %v", name, !want)
		}
	}
	if check.Find(api.Recipe{}, "") != -1 || len(check.Providers(api.Recipe{}, "")) != 0 || check.Virtual(api.Recipe{}, "") {
		t.Error("names of no recipe")
	}
}
