package core_test

import (
	"fmt"
	"math"
	"slices"
	"testing"

	"cooper/api"
	"cooper/core"
	"cooper/formula"
	"cooper/recipe"
	"cooper/request"
	"cooper/rup"
)

func read(t *testing.T, text, ask string) (api.Recipe, api.Request) {
	t.Helper()
	x, where, err := recipe.Parse(text)
	if err != api.OK {
		t.Fatalf("Parse(%q): %v, %v", text, where, err)
	}
	q, where, err := request.Parse(ask)
	if err != api.OK {
		t.Fatalf("Parse(%q): %v, %v", ask, where, err)
	}
	return x, q
}

func TestExamples(t *testing.T) {
	tests := []struct {
		name, text, ask string
		core            []int
		rules           []api.Rule
	}{
		{"two versions of one", "package a\nversion 1\nversion 2\n", "root a@1\nroot a@2", []int{0, 1}, []api.Rule{{Kind: api.RootRule, Package: -1, Index: 0, Line: 1}, {Kind: api.RootRule, Package: -1, Index: 1, Line: 2}}},
		{"no such release", "package a\nversion 1\npackage b\nversion 1\n", "root b\n\nroot a@2", []int{1}, []api.Rule{{Kind: api.RootRule, Package: -1, Index: 1, Line: 3}}},
		{"a way round", "package a\nversion 1\ndepends b\npackage b\nversion 1\nconflicts @2\ndepends a\n", "root a", []int{0, 1, 2}, []api.Rule{{Kind: api.RootRule, Package: -1, Line: 1}, {Kind: api.DependRule, Package: 0, Line: 3}, {Kind: api.DependRule, Package: 1, Line: 7}}},
		{"both that provide a name", "package a\nversion 1\nprovides v\npackage b\nversion 1\nprovides v\npackage c\nversion 1\ndepends v\n", "root a\nroot b\nroot c", []int{0, 1, 2, 3}, []api.Rule{{Kind: api.RootRule, Package: -1, Line: 1}, {Kind: api.RootRule, Package: -1, Index: 1, Line: 2}, {Kind: api.RootRule, Package: -1, Index: 2, Line: 3}, {Kind: api.DependRule, Package: 2, Line: 9}}},
		{"a conflict", "package b\nversion 1\npackage a\nversion 1\ndepends b when @2\nconflicts * with b\nconflicts @2\n", "root b\nroot a", []int{0, 1, 3}, []api.Rule{{Kind: api.RootRule, Package: -1, Line: 1}, {Kind: api.RootRule, Package: -1, Index: 1, Line: 2}, {Kind: api.ConflictRule, Package: 1, Line: 6}}},
	}
	for _, test := range tests {
		x, q := read(t, test.text, test.ask)
		kept := fmt.Sprint(x, q)
		why, err := core.Why(x, q, api.MaxAtoms, 1<<20)
		if err != api.OK || why.State != api.Unsat || !slices.Equal(why.Core, test.core) || !slices.Equal(why.Rules, test.rules) {
			t.Errorf("%s: %v, %v, %v", test.name, why.State, why.Core, why.Rules)
		}
		f, _ := formula.Build(x, q, api.MaxAtoms)
		var goal []int
		for _, n := range why.Core {
			goal = append(goal, -f.Number(api.Atom{Kind: api.RuleAtom, A: n}))
		}
		if !slices.EqualFunc(why.Clauses, f.Clauses(), slices.Equal) || !rup.Proves(f.Atoms(), why.Clauses, why.Proof, goal) {
			t.Errorf("%s: it is not proved", test.name)
		}
		if fmt.Sprint(x, q) != kept {
			t.Errorf("%s: what was handed in is changed", test.name)
		}
		for i := range len(test.core) {
			others := slices.Delete(slices.Clone(test.core), i, i+1)
			if state, err := core.Admits(x, q, others, api.MaxAtoms, 1000); state != api.Sat || err != api.OK {
				t.Errorf("%s: %v admit none: %v", test.name, others, err)
			}
		}
		if state, err := core.Admits(x, q, test.core, api.MaxAtoms, 1000); state != api.Unsat || err != api.OK {
			t.Errorf("%s: the core admits one: %v", test.name, err)
		}
	}
}

func same(a, b api.Reason) bool { return fmt.Sprint(a) == fmt.Sprint(b) }

func TestOtherStates(t *testing.T) {
	x, q := read(t, "package a\nversion 1\n", "root a")
	if why, err := core.Why(x, q, 1000, 1000); err != api.OK || !same(why, api.Reason{State: api.Sat}) {
		t.Error(why, err)
	}
	for _, limit := range []int{math.MinInt, -1, 0, 3} {
		if why, err := core.Why(x, q, limit, 1000); err != api.OK || !same(why, api.Reason{State: api.Large}) {
			t.Errorf("of the limit %d: %v, %v", limit, why, err)
		}
		if state, err := core.Admits(x, q, []int{0}, limit, 1000); err != api.OK || state != api.Large {
			t.Errorf("of the limit %d: %v, %v", limit, state, err)
		}
	}
	for _, test := range [][2]string{{"package a\n", "root a"}, {"package a\nversion 1\n", ""}, {"package a\nversion 1\n", "root b"}} {
		x, q := read(t, test[0], test[1])
		for _, limit := range []int{0, 1000} {
			if why, err := core.Why(x, q, limit, 1000); err != api.ErrForm || !same(why, api.Reason{}) {
				t.Errorf("%q: %v, %v", test, why, err)
			}
			if state, err := core.Admits(x, q, []int{0}, limit, 1000); err != api.ErrForm || state != 0 {
				t.Errorf("%q: %v, %v", test, state, err)
			}
		}
	}
}

func TestAdmits(t *testing.T) {
	x, q := read(t, "package a\nversion 1\nversion 2\ndepends b when @2\nconflicts @2\npackage b\nversion 1\n", "root a@2\nroot b@2")
	tests := []struct {
		rules []int
		want  uint8
	}{
		{nil, api.Sat}, {[]int{0}, api.Sat}, {[]int{1}, api.Unsat}, {[]int{0, 2}, api.Sat}, {[]int{2, 0}, api.Sat}, {[]int{0, 3}, api.Unsat}, {[]int{3, 2, 0}, api.Unsat}, {[]int{2, 3}, api.Sat}, {[]int{0, 0, 4, -1, math.MaxInt, math.MinInt}, api.Sat},
	}
	for _, test := range tests {
		kept := slices.Clone(test.rules)
		if state, err := core.Admits(x, q, test.rules, 1000, 1000); state != test.want || err != api.OK {
			t.Errorf("Admits(%v) = %d, %v", test.rules, state, err)
		}
		if !slices.Equal(kept, test.rules) {
			t.Error("what was handed in is changed")
		}
	}
}

// pigeons is a recipe of so many packages, of which no two may have the same one of four versions; all are asked for.
func pigeons(n int) (string, string) {
	text, ask := "", ""
	for i := range n {
		text += fmt.Sprintf("package p%d\n", i)
		for v := range 4 {
			text += fmt.Sprintf("version %d\nconflicts @%d with p%d@%d\nconflicts @%d with p%d@%d\n", v, v, (i+1)%n, v, v, (i+2)%n, v)
		}
		ask += fmt.Sprintf("root p%d\n", i)
	}
	return text, ask
}

func TestSpent(t *testing.T) {
	text, ask := pigeons(5)
	x, q := read(t, text, ask)
	whole, err := core.Why(x, q, api.MaxAtoms, math.MaxInt)
	if err != api.OK || whole.State != api.Unsat || len(whole.Core) != 45 {
		t.Fatal(whole.State, len(whole.Core), err)
	}
	spent := true
	enough := 0
	for budget := -2; spent; budget++ {
		why, err := core.Why(x, q, api.MaxAtoms, budget)
		spent, enough = why.State == api.Spent, budget
		if err != api.OK || spent && !same(why, api.Reason{State: api.Spent}) || !spent && !same(why, whole) || budget < 1 && !spent {
			t.Fatalf("of the budget %d: %v, %v", budget, why.State, err)
		}
	}
	all := make([]int, 45)
	for i := range all {
		all[i] = i
	}
	for _, budget := range []int{math.MinInt, -1, 0, 1} {
		if state, err := core.Admits(x, q, all, api.MaxAtoms, budget); err != api.OK || state != api.Spent {
			t.Errorf("of the budget %d: %v, %v", budget, state, err)
		}
	}
	// What is enough to ask whether all admit one is not enough for that and all that is asked behind it.
	if state, err := core.Admits(x, q, all, api.MaxAtoms, enough-1); err != api.OK || state != api.Unsat {
		t.Error(state, err)
	}
}

func TestAnswersAreNew(t *testing.T) {
	x, q := read(t, "package a\nversion 1\nversion 2\n", "root a@1\nroot a@2")
	a, _ := core.Why(x, q, 1000, 1000)
	want := fmt.Sprint(a)
	a.Core[0], a.Rules[0].Line, a.Clauses[0][0], a.Proof[0].Clause[0] = 9, 9, 9, 9
	if b, _ := core.Why(x, q, 1000, 1000); fmt.Sprint(b) != want {
		t.Error(b)
	}
}
