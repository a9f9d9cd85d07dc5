package edge_test

import (
	"fmt"
	"math"
	"slices"
	"strings"
	"testing"

	"cooper/api"
	"cooper/choice"
	"cooper/cnf"
	"cooper/edge"
	"cooper/recipe"
	"cooper/request"
)

func read(t *testing.T, text, ask string) (api.Recipe, api.Request) {
	t.Helper()
	x, where, err := recipe.Parse(text)
	if err != api.OK {
		t.Fatalf("Parse(%q): %v, %v", text, where, err)
	}
	q, where, err := request.Parse(ask)
	if err != api.OK {
		t.Fatalf("Parse(%q): %v, %v", ask, where, err)
	}
	return x, q
}

func ground(t *testing.T, text, ask string) *choice.Ground {
	t.Helper()
	x, q := read(t, text, ask)
	return choice.New(x, q, 1000)
}

// name is a literal told by its atom: a letter for its kind, and its numbers.
func name(g *choice.Ground, l int) string {
	a, ok := g.Table().At(max(l, -l))
	if !ok {
		return "?"
	}
	text := fmt.Sprintf("%c%d", "?NRVAENCOHM"[a.Kind], a.A)
	switch a.Kind {
	case api.NeedAtom:
		text = fmt.Sprintf("D%d", a.A)
	case api.ReleaseAtom, api.ActiveAtom, api.EdgeAtom:
		text += fmt.Sprintf(".%d", a.B)
	case api.ValueAtom, api.MeetAtom:
		text += fmt.Sprintf(".%d.%d", a.B, a.C)
	}
	if l < 0 {
		return "-" + text
	}
	return text
}

// told are clauses by the names of their atoms, in no order.
func told(g *choice.Ground) []string {
	var out []string
	for _, c := range g.Builder().Clauses() {
		var words []string
		for _, l := range c {
			words = append(words, name(g, l))
		}
		slices.Sort(words)
		out = append(out, strings.Join(words, " "))
	}
	slices.Sort(out)
	return slices.Compact(out)
}

func TestClauses(t *testing.T) {
	tests := []struct {
		text, ask string
		want      string
	}{
		{ // A root, and a depend.
			"package a\nversion 1\ndepends b\npackage b\nversion 1\n", "root a",
			"-C0 M0.0.1; -M0.0.1 N0; -N0 M0.0.1;" +
				"-A0.0 C1; -A0.0 M0.1.0; -C1 -M0.1.0 A0.0; -M0.1.0 N0; -N0 M0.1.0; -A0.0 M1.1.1; -M1.1.1 N1; -N1 M1.1.1; -A0.0 E0.1;" +
				"-E0.1 N0; -E0.1 N1; -E0.1 A0.0; -N0 C0; -N1 E0.1",
		},
		{ // A set and settings of a root.
			"package a\nversion 1\nversion 2\nversion 3\nvariant x on off\nvariant y 1 2\n", "root a@2: x=off y=1",
			"-C0 M0.0.1; -H0 R0.1 R0.2; -R0.1 H0; -R0.2 H0; -M0.0.1 N0; -M0.0.1 H0; -M0.0.1 V0.0.1; -M0.0.1 V0.1.0; -H0 -N0 -V0.0.1 -V0.1.0 M0.0.1; -N0 C0",
		},
		{ // Variants that have the same values.
			"package a\nversion 1\nvariant w on off\nvariant x on off\n", "root a x=off",
			"-C0 M0.0.1; -M0.0.1 N0; -M0.0.1 V0.1.1; -N0 -V0.1.1 M0.0.1; -N0 C0",
		},
		{ // A root that no release is as asked for.
			"package a\nversion 1\n", "root a@2",
			"-C0 M0.0.1; -H0; -M0.0.1 N0; -M0.0.1 H0; -H0 -N0 M0.0.1; -N0 C0",
		},
		{ // A virtual root, and a virtual depend.
			"package a\nversion 1\ndepends v\npackage b\nversion 1\nprovides v\nprovides u\npackage c\nversion 1\nprovides v\n", "root u\nroot a",
			"-C0 D0; -C1 M0.1.1; -M0.1.1 N0; -N0 M0.1.1;" +
				"-A0.0 C2; -A0.0 M0.2.0; -C2 -M0.2.0 A0.0; -M0.2.0 N0; -N0 M0.2.0; -A0.0 D1; -A0.0 -N1 E0.1; -A0.0 -N2 E0.2;" +
				"-E0.1 N0; -E0.1 N1; -E0.1 A0.0; -E0.2 N0; -E0.2 N2; -E0.2 A0.0;" +
				"-D0 C0; -D0 N1; -D1 A0.0; -D1 N1 N2; -D1 -N1 -N2;" +
				"-N0 C1; -N1 C0 E0.1; -N2 E0.2",
		},
		{ // Two depends on one package, by its name and a name that it provides.
			"package a\nversion 1\nvariant x on off\ndepends b when x=on\ndepends v\npackage b\nversion 1\nprovides v\n", "root a",
			"-C0 M0.0.1; -M0.0.1 N0; -N0 M0.0.1;" +
				"-A0.0 C1; -A0.0 M0.1.0; -C1 -M0.1.0 A0.0; -M0.1.0 N0; -M0.1.0 V0.0.0; -N0 -V0.0.0 M0.1.0; -A0.0 M1.1.1; -M1.1.1 N1; -N1 M1.1.1; -A0.0 E0.1;" +
				"-A0.1 C2; -A0.1 M0.2.0; -C2 -M0.2.0 A0.1; -M0.2.0 N0; -N0 M0.2.0; -A0.1 D0; -A0.1 -N1 E0.1;" +
				"-E0.1 N0; -E0.1 N1; -E0.1 A0.0 A0.1; -D0 A0.1; -D0 N1; -N0 C0; -N1 E0.1",
		},
		{ // Conflicts: alone, with another package, with itself, and with one that may not be needed.
			"package a\nversion 1\nconflicts @1\nconflicts * with b@2\nconflicts * with a\nconflicts * with c\npackage b\nversion 1\npackage c\nversion 1\n", "root a\nroot b",
			"-C0 M0.0.1; -M0.0.1 N0; -N0 M0.0.1; -C1 M1.1.1; -M1.1.1 N1; -N1 M1.1.1;" +
				"-C2 -M0.2.0; -H0 R0.0; -R0.0 H0; -M0.2.0 N0; -M0.2.0 H0; -H0 -N0 M0.2.0;" +
				"-C3 -M0.3.0 -M1.3.1; -M0.3.0 N0; -N0 M0.3.0; -M1.3.1 N1; -M1.3.1 H1; -H1 -N1 M1.3.1; -H1;" +
				"-C4 -M0.4.0 -M0.4.1; -M0.4.0 N0; -N0 M0.4.0; -M0.4.1 N0; -N0 M0.4.1;" +
				"-N0 C0; -N1 C1",
		},
	}
	for _, x := range tests {
		g := ground(t, x.text, x.ask)
		edge.Edges(g)
		var want []string
		for _, c := range strings.Split(x.want, ";") {
			words := strings.Fields(c)
			slices.Sort(words)
			want = append(want, strings.Join(words, " "))
		}
		slices.Sort(want)
		want = slices.Compact(want)
		if got := told(g); !slices.Equal(got, want) {
			t.Errorf("%s%s\n%q\nnot\n%q", x.text, x.ask, got, want)
		}
		for i := range g.Rules() {
			if g.Table().Look(api.Atom{Kind: api.RuleAtom, A: i}) == 0 {
				t.Errorf("%s%s\nthe rule %d has no atom", x.text, x.ask, i)
			}
		}
		if g.Builder().Bad() || g.Table().Full() {
			t.Error("bad, or full")
		}
	}
}

func TestMeet(t *testing.T) {
	text := "package a\nversion 1\nversion 2\nvariant x on off\npackage far\nversion 1\n"
	g := ground(t, text, "root a")
	g.Choices()
	s := api.Spec{Spans: []api.Span{{Lo: "2"}}, Settings: []api.Setting{{Name: "x", Value: "off"}}}
	n := edge.Meet(g, 0, 7, 3, s)
	if a, ok := g.Table().At(n); !ok || a != (api.Atom{Kind: api.MeetAtom, A: 0, B: 7, C: 3}) {
		t.Error(n, a, ok)
	}
	count, atoms := len(g.Builder().Clauses()), g.Table().Len()
	if again := edge.Meet(g, 0, 7, 3, api.Spec{}); again != n || len(g.Builder().Clauses()) != count || g.Table().Len() != atoms {
		t.Error("clauses are built twice")
	}
	for _, p := range []int{1, -1, 2, math.MaxInt, math.MinInt} {
		if edge.Meet(g, p, 0, 0, s) != 0 || g.Table().Len() != atoms {
			t.Errorf("Meet at %d", p)
		}
	}
	if edge.Meet(nil, 0, 0, 0, s) != 0 {
		t.Error("Meet of a nil ground")
	}
	// In each model the atom is so just if the package is there, and as the wish says.
	look := func(kind uint8, b, c int) int { return g.Table().Look(api.Atom{Kind: kind, B: b, C: c}) }
	models := 0
	for bits := range 1 << atoms {
		m := make([]bool, atoms+1)
		for i := range atoms {
			m[i+1] = bits>>i&1 > 0
		}
		if !cnf.Holds(g.Builder().Clauses(), m[1:]) {
			continue
		}
		models++
		if m[n] != (m[look(api.NodeAtom, 0, 0)] && m[look(api.ReleaseAtom, 1, 0)] && m[look(api.ValueAtom, 0, 1)]) {
			t.Error(m)
		}
	}
	if models != 5 {
		t.Errorf("%d models", models)
	}
}

func TestAllVersionsNeedNoHelp(t *testing.T) {
	g := ground(t, "package a\nversion 1\nversion 2\n", "root a")
	edge.Meet(g, 0, 0, 1, api.Spec{Name: "a", Spans: []api.Span{{}}})
	if got := told(g); !slices.Equal(got, []string{"-M0.0.1 N0", "-N0 M0.0.1"}) {
		t.Error(got)
	}
}

// TestLimit: of a small limit clauses with atoms without numbers are left out, and nothing becomes bad.
func TestLimit(t *testing.T) {
	text := "package a\nversion 1\nvariant x on off\ndepends b@1 when x=on\ndepends v\nconflicts @1 with b@2\npackage b\nversion 1\nprovides v\npackage c\nversion 1\nprovides v\n"
	x, q := read(t, text, "root a@1:\nroot v")
	whole := choice.New(x, q, 1000)
	whole.Choices()
	edge.Edges(whole)
	all := whole.Builder().Clauses()
	n := whole.Table().Len()
	for limit := range n + 2 {
		g := choice.New(x, q, limit)
		g.Choices()
		edge.Edges(g)
		if g.Builder().Bad() || g.Table().Full() != (limit < n) {
			t.Errorf("of the limit %d: bad %v, full %v", limit, g.Builder().Bad(), g.Table().Full())
		}
		var want [][]int
		for _, c := range all {
			if cnf.Atoms([][]int{c}) <= limit {
				want = append(want, c)
			}
		}
		if got := g.Builder().Clauses(); !slices.EqualFunc(got, want, slices.Equal) {
			t.Errorf("of the limit %d: %v, not %v", limit, got, want)
		}
	}
}

func TestOthersEnd(t *testing.T) {
	edge.Edges(nil)
	x, q := read(t, "package a\nversion 1\nvariant x on on\nprovides a\ndepends none\ndepends a z=1 when z=1\nconflicts z=1 with none\nconflicts * with v\nprovides v\npackage a\ndepends v@1\n", "root a\nroot none\nroot a z=1\nroot v@2")
	x.Packages[0].Depends = append(x.Packages[0].Depends, api.Depend{}, api.Depend{On: api.Spec{Name: "a", Spans: []api.Span{{Lo: "2", Hi: "1"}}}})
	g := choice.New(x, q, 1000)
	g.Choices()
	edge.Edges(g)
	edge.Edges(g)
	edge.Meet(g, 0, math.MinInt, math.MaxInt, api.Spec{})
	edge.Edges(choice.New(api.Recipe{}, api.Request{}, 10))
}

func TestTheSameEachTime(t *testing.T) {
	text := "package a\nversion 1\ndepends v\ndepends b\ndepends c\npackage b\nversion 1\nprovides v\ndepends c\npackage c\nversion 1\nprovides v\n"
	first := ""
	for range 20 {
		g := ground(t, text, "root a\nroot v")
		g.Choices()
		edge.Edges(g)
		var names []string
		for i := range g.Table().Len() {
			names = append(names, name(g, i+1))
		}
		got := fmt.Sprint(names, g.Builder().Clauses())
		if first == "" {
			first = got
		}
		if got != first {
			t.Fatalf("%s\n%s", first, got)
		}
	}
}
