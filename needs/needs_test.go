package needs_test

import (
	"math/rand"
	"reflect"
	"slices"
	"strconv"
	"strings"
	"testing"

	"cooper/api"
	"cooper/check"
	"cooper/needs"
	"cooper/recipe"
	"cooper/request"
)

func read(t *testing.T, text string) api.Recipe {
	t.Helper()
	x, where, err := recipe.Parse(text)
	if err != api.OK {
		t.Fatalf("Parse(%q): %v, %v", text, where, err)
	}
	return x
}

func ask(t *testing.T, text string) api.Request {
	t.Helper()
	q, where, err := request.Parse(text)
	if err != api.OK {
		t.Fatalf("Parse(%q): %v, %v", text, where, err)
	}
	return q
}

const some = `package z
version 1
provides mpi
depends w when @9
package a
version 1
variant x on off
depends b when x=on
depends mpi when x=off
package b
version 1
depends a
package c
version 1
depends z
depends blas
package w
version 1
provides blas
provides mpi
package lone
version 1
conflicts * with c
package self
version 1
depends self
`

func TestClosureAndNames(t *testing.T) {
	x := read(t, some)
	tests := []struct {
		ask    string
		places []int
		names  []string
	}{
		{"", nil, nil},
		{"root lone", []int{5}, nil},
		{"root self", []int{6}, nil},
		{"root w", []int{4}, nil},
		{"root z", []int{0, 4}, nil},
		{"root mpi", []int{0, 4}, []string{"mpi"}},
		{"root blas", []int{4}, []string{"blas"}},
		{"root a", []int{0, 1, 2, 4}, []string{"mpi"}},
		{"root b", []int{0, 1, 2, 4}, []string{"mpi"}},
		{"root c", []int{0, 3, 4}, []string{"blas"}},
		{"root mpi\nroot c\nroot blas\nroot mpi", []int{0, 3, 4}, []string{"blas", "mpi"}},
		{"root lone\nroot c", []int{0, 3, 4, 5}, []string{"blas"}},
		{"root none", nil, nil},
	}
	for _, test := range tests {
		q := ask(t, test.ask)
		if l := needs.Closure(x, q); !slices.Equal(l, test.places) {
			t.Errorf("Closure of %q: %v, not %v", test.ask, l, test.places)
		}
		if l := needs.Names(x, q); !slices.Equal(l, test.names) {
			t.Errorf("Names of %q: %v, not %v", test.ask, l, test.names)
		}
	}
	if !reflect.DeepEqual(x, read(t, some)) {
		t.Error("what was handed in is changed")
	}
}

func TestTargets(t *testing.T) {
	x := read(t, some)
	for name, want := range map[string][]int{"a": {1}, "mpi": {0, 4}, "blas": {4}, "none": nil, "": nil} {
		if l := needs.Targets(x, name); !slices.Equal(l, want) {
			t.Errorf("Targets(%q) = %v", name, l)
		}
	}
	// Of several packages of one name the first one counts, and of a name that is provided too, the package.
	y := read(t, "package b\nprovides a\npackage a\npackage a\ndepends b\nprovides c\n")
	for name, want := range map[string][]int{"a": {1}, "b": {0}, "c": {2}} {
		if l := needs.Targets(y, name); !slices.Equal(l, want) {
			t.Errorf("Targets(%q) = %v", name, l)
		}
	}
	if l := needs.Closure(y, ask(t, "root a")); !slices.Equal(l, []int{1}) {
		t.Error(l)
	}
	if l := needs.Names(y, ask(t, "root a\nroot c")); !slices.Equal(l, []string{"c"}) {
		t.Error(l)
	}
	if len(needs.Targets(api.Recipe{}, "a")) != 0 || len(needs.Closure(api.Recipe{}, api.Request{})) != 0 || len(needs.Names(api.Recipe{}, api.Request{})) != 0 {
		t.Error("what may be needed of nothing")
	}
}

func TestRank(t *testing.T) {
	p := read(t, "package a\nversion 1.2\nversion 1.10\nversion 2 old\nversion 1.rc\nversion 1\n").Packages[0]
	for v, want := range map[string]int{"2": 0, "1.10": 1, "1.2": 2, "1": 3, "1.rc": 4, "3": -1, "1.0": -1, "": -1, "01": -1} {
		if n := needs.Rank(p, v); n != want {
			t.Errorf("Rank(%q) = %d, not %d", v, n, want)
		}
	}
	odd := api.Package{Releases: []api.Release{{Version: "!"}, {Version: "1"}, {Version: "?"}, {Version: "1"}}}
	for v, want := range map[string]int{"!": 2, "?": 2, "1": 0, "2": -1} {
		if n := needs.Rank(odd, v); n != want {
			t.Errorf("Rank(%q) = %d, not %d", v, n, want)
		}
	}
	if needs.Rank(api.Package{}, "1") != -1 {
		t.Error("a rank of no release")
	}
}

func TestPrefer(t *testing.T) {
	x := read(t, "prefer mpi c a b\nprefer mpi a\nprefer blas w\n")
	tests := []struct {
		virtual, name string
		want          int
	}{
		{"mpi", "c", 0}, {"mpi", "a", 1}, {"mpi", "b", 2}, {"mpi", "d", 3}, {"mpi", "", 3},
		{"blas", "w", 0}, {"blas", "c", 1}, {"none", "c", 0}, {"", "", 0},
	}
	for _, test := range tests {
		if n := needs.Prefer(x, test.virtual, test.name); n != test.want {
			t.Errorf("Prefer(%q, %q) = %d, not %d", test.virtual, test.name, n, test.want)
		}
	}
}

// TestClosed is P10.2.
func TestClosed(t *testing.T) {
	r := rand.New(rand.NewSource(10))
	for range 500 {
		var text strings.Builder
		n := 1 + r.Intn(9)
		name := func() string {
			if r.Intn(4) == 0 {
				return "v" + strconv.Itoa(r.Intn(3))
			}
			return "p" + strconv.Itoa(r.Intn(n))
		}
		for i := range n {
			text.WriteString("package p" + strconv.Itoa(i) + "\nversion 1\n")
			for range r.Intn(3) {
				text.WriteString("depends " + name() + "\n")
			}
			if r.Intn(3) == 0 {
				text.WriteString("provides v" + strconv.Itoa(r.Intn(3)) + "\n")
			}
		}
		x, q := read(t, text.String()), ask(t, "root "+name()+"\nroot "+name()+"\n")
		l := needs.Closure(x, q)
		reached := map[int]bool{}
		names := map[string]bool{}
		var see func(name string)
		see = func(name string) {
			if check.Virtual(x, name) {
				names[name] = true
			}
			for _, p := range needs.Targets(x, name) {
				if !slices.Contains(l, p) {
					t.Fatalf("%d is missing in %v\n%s", p, l, text.String())
				}
				if !reached[p] {
					reached[p] = true
					for _, d := range x.Packages[p].Depends {
						see(d.On.Name)
					}
				}
			}
		}
		for _, root := range q.Roots {
			see(root.Spec.Name)
		}
		if len(reached) != len(l) || !slices.IsSorted(l) {
			t.Fatalf("%v: %v\n%s", l, reached, text.String())
		}
		got := needs.Names(x, q)
		if len(got) != len(names) || !slices.IsSorted(got) {
			t.Fatalf("%v: %v\n%s", got, names, text.String())
		}
		for _, v := range got {
			if !names[v] {
				t.Fatalf("%v: %v\n%s", got, names, text.String())
			}
		}
	}
}
