package descent_test

import (
	"fmt"
	"math"
	"testing"

	"cooper/api"
	"cooper/descent"
	"cooper/recipe"
	"cooper/request"
)

func read(t *testing.T, text, ask string) (api.Recipe, api.Request) {
	t.Helper()
	x, where, err := recipe.Parse(text)
	if err != api.OK {
		t.Fatalf("Parse(%q): %v, %v", text, where, err)
	}
	q, where, err := request.Parse(ask)
	if err != api.OK {
		t.Fatalf("Parse(%q): %v, %v", ask, where, err)
	}
	return x, q
}

func TestExamples(t *testing.T) {
	tests := []struct {
		name, text, ask string
		want            string
		cost            api.Cost
	}{
		{"the newest release", "package a\nversion 1\nversion 2\n", "root a", "{[{a 2 [] []}]}", api.Cost{0, 0, 0, 0, 0, 1}},
		{"as asked for", "package a\nversion 1\nversion 2\nversion 3\n", "root a@:2", "{[{a 2 [] []}]}", api.Cost{0, 1, 0, 0, 0, 1}},
		{"none that should not be used", "package a\nversion 1\nversion 2\ndepends b@1 when @2\npackage b\nversion 1 old\nversion 2\n", "root a", "{[{a 1 [] []}]}", api.Cost{0, 1, 0, 0, 0, 1}},
		{"one that should not be used, if it must be", "package a\nversion 1\nversion 2 old\n", "root a@2", "{[{a 2 [] []}]}", api.Cost{1, 0, 0, 0, 0, 1}},
		{"what is preferred", "package a\nversion 1\ndepends v\npackage b\nversion 1\nprovides v\npackage c\nversion 1\nprovides v\nprefer v c b\n", "root a", "{[{a 1 [] [c]} {c 1 [] []}]}", api.Cost{0, 0, 0, 0, 0, 2}},
		{"what may be, if that may not", "package a\nversion 1\ndepends v\nconflicts * with c\npackage b\nversion 1\nprovides v\npackage c\nversion 1\nprovides v\nprefer v c b\n", "root a", "{[{a 1 [] [b]} {b 1 [] []}]}", api.Cost{0, 0, 0, 1, 0, 2}},
		{"the usual values", "package a\nversion 1\nvariant x on off\nvariant y 2 1\n", "root a", "{[{a 1 [{x on} {y 2}] []}]}", api.Cost{0, 0, 0, 0, 0, 1}},
		{"another one, if asked for", "package a\nversion 1\ndepends b x=off\npackage b\nversion 1\nvariant x on off\n", "root a", "{[{a 1 [] [b]} {b 1 [{x off}] []}]}", api.Cost{0, 0, 1, 0, 0, 2}},
		{"an older one, for a conflict", "package a\nversion 1\ndepends b\nconflicts * with b@2:\npackage b\nversion 3\nversion 1\nversion 2\n", "root a", "{[{a 1 [] [b]} {b 1 [] []}]}", api.Cost{0, 0, 0, 0, 2, 2}},
		{"roots count for more than settings", "package a\nversion 1\nversion 2\nvariant x on off\nconflicts @2 x=on\n", "root a", "{[{a 2 [{x off}] []}]}", api.Cost{0, 0, 1, 0, 0, 1}},
		{"settings for more than names", "package a\nversion 1\nvariant x on off\ndepends v\nconflicts x=on with b\npackage b\nversion 1\nprovides v\npackage c\nversion 1\nprovides v\nprefer v b c\n", "root a", "{[{a 1 [{x on}] [c]} {c 1 [] []}]}", api.Cost{0, 0, 0, 1, 0, 2}},
		{"names for more than others' releases", "package a\nversion 1\ndepends v\npackage b\nversion 1\nversion 2\nprovides v\nconflicts @2\npackage c\nversion 1\nprovides v\nprefer v b c\n", "root a", "{[{a 1 [] [b]} {b 1 [] []}]}", api.Cost{0, 0, 0, 0, 1, 2}},
		{"others' releases for more than nodes", "package a\nversion 1\ndepends b\npackage b\nversion 1\nversion 2\ndepends c when @2\npackage c\nversion 1\n", "root a", "{[{a 1 [] [b]} {b 2 [] [c]} {c 1 [] []}]}", api.Cost{0, 0, 0, 0, 0, 3}},
		{"as few nodes as may be", "package a\nversion 1\ndepends v\npackage b\nversion 1\nprovides v\ndepends d\npackage c\nversion 1\nprovides v\npackage d\nversion 1\n", "root a", "{[{a 1 [] [c]} {c 1 [] []}]}", api.Cost{0, 0, 0, 0, 0, 2}},
	}
	for _, test := range tests {
		x, q := read(t, test.text, test.ask)
		kept := fmt.Sprint(x, q)
		found, err := descent.Best(x, q, api.MaxAtoms, 1<<20)
		if err != api.OK || found.State != api.Sat || fmt.Sprint(found.Graph) != test.want || found.Cost != test.cost || found.Conflicts < 0 {
			t.Errorf("%s: %v, %v", test.name, found, err)
		}
		if fmt.Sprint(x, q) != kept {
			t.Errorf("%s: what was handed in is changed", test.name)
		}
	}
}

func TestNoRightOne(t *testing.T) {
	for _, test := range [][2]string{
		{"package a\nversion 1\n", "root a@2"},
		{"package a\nversion 1\nversion 2\n", "root a@1\nroot a@2"},
		{"package a\nversion 1\nconflicts *\n", "root a"},
		{"package a\nversion 1\ndepends b\npackage b\nversion 1\ndepends a\n", "root a"},
		{"package a\nversion 1\ndepends a\n", "root a"},
		{"package a\nversion 1\nprovides v\npackage b\nversion 1\nprovides v\ndepends v\n", "root a\nroot b"},
	} {
		x, q := read(t, test[0], test[1])
		found, err := descent.Best(x, q, api.MaxAtoms, 1<<20)
		if err != api.OK || found.State != api.Unsat || len(found.Graph.Nodes) != 0 || found.Cost != (api.Cost{}) {
			t.Errorf("%q: %v, %v", test, found, err)
		}
	}
}

// pigeons is a recipe of so many packages, of which no two may have the same one of four versions; all are asked for.
func pigeons(n int) (string, string) {
	text, ask := "", ""
	for i := range n {
		text += fmt.Sprintf("package p%d\n", i)
		for v := range 4 {
			text += fmt.Sprintf("version %d\nconflicts @%d with p%d@%d\nconflicts @%d with p%d@%d\n", v, v, (i+1)%n, v, v, (i+2)%n, v)
		}
		ask += fmt.Sprintf("root p%d\n", i)
	}
	return text, ask
}

func TestSpent(t *testing.T) {
	for _, n := range []int{4, 5} {
		text, ask := pigeons(n)
		x, q := read(t, text, ask)
		whole, err := descent.Best(x, q, api.MaxAtoms, math.MaxInt)
		if err != api.OK || (whole.State == api.Sat) != (n == 4) || whole.Conflicts < 2 {
			t.Fatal(n, whole, err)
		}
		for _, budget := range []int{0, 1, whole.Conflicts / 2, whole.Conflicts - 1, whole.Conflicts, whole.Conflicts + 1} {
			found, err := descent.Best(x, q, api.MaxAtoms, budget)
			want := whole
			if budget < whole.Conflicts {
				want = api.Found{State: api.Spent, Conflicts: budget + 1}
			}
			if err != api.OK || fmt.Sprint(found) != fmt.Sprint(want) {
				t.Errorf("%d packages, of the budget %d: %v, %v, not %v", n, budget, found, err, want)
			}
		}
		for _, budget := range []int{-1, math.MinInt} {
			if found, err := descent.Best(x, q, api.MaxAtoms, budget); err != api.OK || fmt.Sprint(found) != fmt.Sprint(api.Found{State: api.Spent, Conflicts: 1}) {
				t.Errorf("%d packages, of the budget %d: %v, %v", n, budget, found, err)
			}
		}
	}
	// Without a conflict nothing is spent.
	x, q := read(t, "package a\nversion 1\n", "root a")
	if found, err := descent.Best(x, q, api.MaxAtoms, -5); err != api.OK || found.State != api.Sat || found.Conflicts != 0 {
		t.Error(found, err)
	}
}

func TestLimits(t *testing.T) {
	x, q := read(t, "package a\nversion 1\nversion 2\ndepends v\npackage b\nversion 1\nprovides v\npackage c\nversion 1\nprovides v\nprefer v c\n", "root a\n")
	for _, limit := range []int{math.MinInt, -1, 0, 1, 5} {
		found, err := descent.Best(x, q, limit, 1000)
		if err != api.OK || fmt.Sprint(found) != fmt.Sprint(api.Found{State: api.Large}) {
			t.Errorf("of the limit %d: %v, %v", limit, found, err)
		}
	}
	for _, limit := range []int{1000, api.MaxAtoms, math.MaxInt} {
		if found, err := descent.Best(x, q, limit, 1000); err != api.OK || found.State != api.Sat {
			t.Errorf("of the limit %d: %v, %v", limit, found, err)
		}
	}
	// From some limit on it is enough.
	enough := false
	for limit := range 200 {
		found, _ := descent.Best(x, q, limit, 1000)
		if enough && found.State != api.Sat || found.State != api.Sat && fmt.Sprint(found) != fmt.Sprint(api.Found{State: api.Large}) {
			t.Errorf("of the limit %d: %v", limit, found)
		}
		enough = found.State == api.Sat
	}
	if !enough {
		t.Error("two hundred atoms are not enough")
	}
}

func TestIllFormed(t *testing.T) {
	for _, test := range [][2]string{{"package a\n", "root a"}, {"package a\nversion 1\n", ""}, {"package a\nversion 1\n", "root b"}, {"", "root a"}} {
		x, q := read(t, test[0], test[1])
		for _, limit := range []int{0, 1000} {
			if found, err := descent.Best(x, q, limit, 1000); err != api.ErrForm || fmt.Sprint(found) != fmt.Sprint(api.Found{}) {
				t.Errorf("%q: %v, %v", test, found, err)
			}
		}
	}
}
