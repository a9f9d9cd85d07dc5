package concrete_test

import (
	"fmt"
	"math"
	"reflect"
	"slices"
	"strings"
	"testing"

	"cooper/api"
	"cooper/concrete"
	"cooper/store"
)

const great = 1 << 20

// ask concretises without a lock, with great limits.
func ask(recipe, request string) api.Outcome {
	return concrete.Concretise(recipe, request, "", api.MaxAtoms, great)
}

// brief is a graph in a few words: its nodes' names and versions.
func brief(o api.Outcome) string {
	var out []string
	for _, n := range o.Graph.Nodes {
		out = append(out, n.Name+" "+n.Version)
	}
	return strings.Join(out, ", ")
}

// TestTenExamples are those of the whole.
func TestTenExamples(t *testing.T) {
	virtual := "package a\nversion 1\ndepends v\npackage b\nversion 1\nprovides v\npackage c\nversion 1\nprovides v\nprefer v c b\n"
	tests := []struct {
		name, recipe, request, want string
	}{
		{"1", "package a\nversion 1\nversion 2\n", "root a", "a 2"},
		{"2", "package a\nversion 1\nversion 2\ndepends b@1 when @2\npackage b\nversion 1 old\nversion 2\n", "root a", "a 1"},
		{"3", virtual, "root a", "a 1, c 1"},
		{"3, if it may not be", virtual + "package d\nversion 1\nconflicts * with c\n", "root a\nroot d", "a 1, b 1, d 1"},
		{"7", "package a\nversion 1\ndepends b\nconflicts * with b@2:\npackage b\nversion 1\nversion 1.9\nversion 2\nversion 3\n", "root a", "a 1, b 1.9"},
	}
	for _, x := range tests {
		if o := ask(x.recipe, x.request); o.Kind != api.IsGraph || brief(o) != x.want {
			t.Errorf("%s: %d, %s", x.name, o.Kind, brief(o))
		}
	}
	if o := ask(virtual, "root a\nroot b\nroot c"); concrete.Report(o) != "none 1 2 3 3\n" {
		t.Error("4:", concrete.Report(o))
	}
	if o := ask("package a\nversion 1\ndepends b\npackage b\nversion 1\ndepends a\n", "\nroot a"); concrete.Report(o) != "none 2 3 6\n" {
		t.Error("5:", concrete.Report(o))
	}
	usual := "package a\nversion 1\nvariant x on off\npackage b\nversion 1\ndepends a x=off\n"
	if o := ask(usual, "root a"); fmt.Sprint(o.Graph) != "{[{a 1 [{x on}] []}]}" {
		t.Error("6:", o.Graph)
	}
	if o := ask(usual, "root a\nroot b"); fmt.Sprint(o.Graph) != "{[{a 1 [{x off}] []} {b 1 [] [a]}]}" {
		t.Error("6:", o.Graph)
	}
	// 8: what was best once is told, as long as it has no breach.
	before := ask("package a\nversion 1\n", "root a")
	after := concrete.Concretise("package a\nversion 1\nversion 2\n", "root a", before.Lock, api.MaxAtoms, great)
	if after.Kind != api.IsGraph || brief(after) != "a 1" || after.Lock != before.Lock || after.Cost[1] != 1 {
		t.Error("8:", after)
	}
	if gone := concrete.Concretise("package a\nversion 2\n", "root a", before.Lock, api.MaxAtoms, great); concrete.Report(gone) != "stale 2 a\n" {
		t.Error("8:", gone)
	}
	if o := ask("package a\nversion 1\nfile f\npackage b\nversion 1\nfile f\n", "root a\nroot b"); o.Kind != api.IsGraph || o.Clash != "f" || len(o.Links) != 0 || len(o.Derivations) != 2 {
		t.Error("9:", o)
	}
	one := ask("package a\nversion 1\ndepends zlib\npackage zlib\nversion 1\npackage c\nversion 1\n", "root a\nroot c")
	two := ask("package a\nversion 1\ndepends zlib\npackage zlib\nversion 1\nversion 2\npackage c\nversion 1\n", "root a\nroot c")
	for i, d := range one.Derivations {
		if (d.Path == two.Derivations[i].Path) != (d.Name == "c") {
			t.Error("10:", d, two.Derivations[i])
		}
	}
}

const some = `package app
version 2
version 1
variant x on off
depends v when x=on
depends lib@1
file bin/app
package lib
version 1
version 2
file lib/it
package left
version 1
provides v
package right
version 1
provides v
file bin/right
prefer v right left
`

func TestGraph(t *testing.T) {
	o := ask(some, "root app")
	want := "lock 1\nnode app 2 x=on\n  needs lib\n  needs right\nnode lib 1\nnode right 1\n"
	if o.Kind != api.IsGraph || o.Lock != want || o.Cost != (api.Cost{0, 0, 0, 0, 1, 3}) || o.Clash != "" {
		t.Errorf("%+v", o)
	}
	if o.In != 0 || o.Err != 0 || o.At != (api.Where{}) || o.Problem != (api.Problem{}) || len(o.Rules) != 0 || o.Breach != (api.Breach{}) {
		t.Errorf("what has no meaning is not zero: %+v", o)
	}
	if len(o.Derivations) != 3 || !store.Closed(o.Derivations) || o.Derivations[0].Name != "lib" || o.Derivations[1].Name != "right" || o.Derivations[2].Name != "app" {
		t.Errorf("%v", o.Derivations)
	}
	links := []api.Link{{File: "bin/app", Path: o.Derivations[2].Path}, {File: "bin/right", Path: o.Derivations[1].Path}, {File: "lib/it", Path: o.Derivations[0].Path}}
	if !slices.Equal(o.Links, links) {
		t.Errorf("%v", o.Links)
	}
	report := "graph 0 0 0 0 1 3\n+ " + o.Derivations[0].Path + "\n+ " + o.Derivations[1].Path + "\n+ " + o.Derivations[2].Path + "\n# bin/app " + links[0].Path + "\n# bin/right " + links[1].Path + "\n# lib/it " + links[2].Path + "\n"
	if got := concrete.Report(o); got != report {
		t.Errorf("%s\nnot\n%s", got, report)
	}
}

func TestLock(t *testing.T) {
	left := "lock 1\nnode app 1 x=on\n  needs left\n  needs lib\nnode left 1\nnode lib 1\n"
	o := concrete.Concretise(some, "root app", left, 0, 0)
	if o.Kind != api.IsGraph || o.Lock != left || o.Cost != (api.Cost{0, 1, 0, 1, 1, 3}) || len(o.Derivations) != 3 || len(o.Links) != 2 {
		t.Errorf("%+v", o)
	}
	tests := []struct {
		lock, request, want string
	}{
		{"lock 1\n", "root app", "stale 4 app\n"},
		{left, "root app@2", "stale 4 app\n"},
		{left, "root app\nroot right", "stale 4 right\n"},
		{"lock 1\nnode app 1 x=on\n  needs lib\nnode lib 1\n", "root app", "stale 6 v\n"},
		{"lock 1\nnode app 1 x=off\n  needs lib\nnode left 1\nnode lib 1\n", "root app", "stale 10 left\n"},
	}
	for _, x := range tests {
		o := concrete.Concretise(some, x.request, x.lock, api.MaxAtoms, great)
		if got := concrete.Report(o); got != x.want {
			t.Errorf("%q, %q: %s", x.lock, x.request, got)
		}
		if o.Breach = (api.Breach{}); !reflect.DeepEqual(o, api.Outcome{Kind: api.StaleLock}) {
			t.Errorf("what has no meaning is not zero: %+v", o)
		}
	}
}

func TestFirstOutcome(t *testing.T) {
	const right = "package a\nversion 1\n"
	lock := "lock 1\nnode a 1\n"
	tests := []struct {
		recipe, request, lock string
		want                  string
	}{
		{"packages", "roots", "locks", "parse 1 2 1 1"},
		{right + "\nversion 01", "roots", "", "parse 1 2 4 9"},
		{"package a\t", "", "", "parse 1 3 1 10"},
		{strings.Repeat("x", api.MaxText+1), "root a", "", "parse 1 4 0 0"},
		{right, "root a\nroots", "locks", "parse 2 2 2 1"},
		{right, "root a # \x00", "", "parse 2 3 1 10"},
		{right, "root a", "locks", "parse 3 2 1 0"},
		{right, "root a", "lock 1\nnode a 1", "parse 3 2 3 0"},
		{"package a\n", "root z", "locks", "parse 3 2 1 0"},
		{"package a\n", "root z", lock, "form 1 4 1"},
		{"\npackage a\nversion 1\ndepends z", "", "", "form 1 7 4"},
		{right, "\nroot z", lock, "form 2 7 2"},
		{right, "", "", "form 2 11 0"},
		{"", "", "", "form 2 11 0"},
		{right, "root a", lock, "graph 0 0 0 0 0 1"},
		{right, "root a", "lock 1\nnode a 2\n", "stale 2 a"},
		{right, "root a", "", "graph 0 0 0 0 0 1"},
		{right, "root a@2", "", "none 1"},
		{right, "root a@2", lock, "stale 4 a"},
	}
	for _, x := range tests {
		o := concrete.Concretise(x.recipe, x.request, x.lock, api.MaxAtoms, great)
		first, _, _ := strings.Cut(concrete.Report(o), "\n")
		if first != x.want {
			t.Errorf("%.60q, %q, %q: %q, not %q", x.recipe, x.request, x.lock, first, x.want)
		}
		if o.Kind == api.ParseError && !reflect.DeepEqual(o, api.Outcome{Kind: o.Kind, In: o.In, Err: o.Err, At: o.At}) || o.Kind == api.IllFormed && !reflect.DeepEqual(o, api.Outcome{Kind: o.Kind, In: o.In, Problem: o.Problem}) || o.Kind == api.NoGraph && !reflect.DeepEqual(o, api.Outcome{Kind: o.Kind, Rules: o.Rules}) {
			t.Errorf("what has no meaning is not zero: %+v", o)
		}
	}
}

// pigeons is a recipe of five packages, of which no two may have the same one of four versions; all are asked for.
func pigeons() (string, string) {
	text, request := "", ""
	for i := range 5 {
		text += fmt.Sprintf("package p%d\n", i)
		for v := range 4 {
			text += fmt.Sprintf("version %d\nconflicts @%d with p%d@%d\nconflicts @%d with p%d@%d\n", v, v, (i+1)%5, v, v, (i+2)%5, v)
		}
		request += fmt.Sprintf("root p%d\n", i)
	}
	return text, request
}

func TestLargeAndBudget(t *testing.T) {
	text, request := pigeons()
	for _, limit := range []int{math.MinInt, -1, 0, 10} {
		if o := concrete.Concretise(text, request, "", limit, great); !reflect.DeepEqual(o, api.Outcome{Kind: api.TooLarge}) || concrete.Report(o) != "large\n" {
			t.Errorf("of the limit %d: %+v", limit, o)
		}
	}
	// The kinds come one behind the other: budgets that are too small, for the search or for the reason, and then none.
	last := uint8(api.OutOfBudget)
	for budget := -2; last == api.OutOfBudget; budget++ {
		o := concrete.Concretise(text, request, "", api.MaxAtoms, budget)
		last = o.Kind
		switch o.Kind {
		case api.OutOfBudget:
			if !reflect.DeepEqual(o, api.Outcome{Kind: api.OutOfBudget}) || concrete.Report(o) != "budget\n" {
				t.Fatalf("of the budget %d: %+v", budget, o)
			}
		case api.NoGraph:
			if budget < 1 || len(o.Rules) != 45 {
				t.Fatalf("of the budget %d: %+v", budget, o)
			}
		default:
			t.Fatalf("of the budget %d: %+v", budget, o)
		}
	}
}

func TestReport(t *testing.T) {
	tests := []struct {
		o    api.Outcome
		want string
	}{
		{api.Outcome{}, ""},
		{api.Outcome{Kind: 8, In: 1, Clash: "f"}, ""},
		{api.Outcome{Kind: 255}, ""},
		{api.Outcome{Kind: api.ParseError, In: 3, Err: api.ErrLong, At: api.Where{Line: 10, Col: 20}}, "parse 3 4 10 20\n"},
		{api.Outcome{Kind: api.IllFormed, In: 2, Problem: api.Problem{Code: 9, Line: 7}}, "form 2 9 7\n"},
		{api.Outcome{Kind: api.TooLarge, Clash: "f"}, "large\n"},
		{api.Outcome{Kind: api.OutOfBudget}, "budget\n"},
		{api.Outcome{Kind: api.NoGraph}, "none\n"},
		{api.Outcome{Kind: api.NoGraph, Rules: []api.Rule{{Line: 5}, {Line: 2}, {Line: 2}}}, "none 5 2 2\n"},
		{api.Outcome{Kind: api.StaleLock, Breach: api.Breach{Code: 10, Name: "zlib"}}, "stale 10 zlib\n"},
		{api.Outcome{Kind: api.IsGraph, Cost: api.Cost{1, 2, 3, 4, 5, 6}}, "graph 1 2 3 4 5 6\n"},
		{api.Outcome{Kind: api.IsGraph, Derivations: []api.Derivation{{Path: "p"}, {Path: "o"}}, Links: []api.Link{{File: "f", Path: "p"}, {File: "e", Path: "o"}}, Clash: "g"}, "graph 0 0 0 0 0 0\n+ p\n+ o\n# f p\n# e o\n! g\n"},
	}
	for _, x := range tests {
		kept := fmt.Sprint(x.o)
		if got := concrete.Report(x.o); got != x.want {
			t.Errorf("Report(%v) = %q, not %q", x.o, got, x.want)
		}
		if fmt.Sprint(x.o) != kept {
			t.Error("what was handed in is changed")
		}
	}
}

func TestAnswersAreNew(t *testing.T) {
	a := ask(some, "root app")
	want := fmt.Sprint(a)
	a.Graph.Nodes[0].Settings[0].Value = "q"
	a.Graph.Nodes[0].Needs[0] = "q"
	if a.Derivations[2].Settings[0].Value == "q" {
		t.Error("lists of one answer share their memory")
	}
	a.Derivations[0].Path, a.Links[0].File = "q", "q"
	if b := ask(some, "root app"); fmt.Sprint(b) != want {
		t.Error(b)
	}
}

// FuzzConcretise is P30.1 and P30.2: it ends, is of one of the kinds, and the same each time.
func FuzzConcretise(f *testing.F) {
	f.Add(some, "root app", "")
	f.Add(some, "root app", "lock 1\nnode app 1 x=on\n  needs left\n  needs lib\nnode left 1\nnode lib 1\n")
	f.Add("package a\nversion 1\nprovides v\nconflicts * with a\n", "root v", "")
	f.Fuzz(func(t *testing.T, recipe, request, lock string) {
		a := concrete.Concretise(recipe, request, lock, 2000, 200)
		if a.Kind < api.ParseError || a.Kind > api.StaleLock || concrete.Report(a) == "" {
			t.Fatal(a)
		}
		if b := concrete.Concretise(recipe, request, lock, 2000, 200); fmt.Sprint(a) != fmt.Sprint(b) {
			t.Fatal(a, b)
		}
	})
}
