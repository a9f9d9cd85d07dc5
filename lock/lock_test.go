package lock_test

import (
	"fmt"
	"math/rand"
	"slices"
	"strings"
	"testing"

	"cooper/api"
	"cooper/graph"
	"cooper/lock"
	"cooper/recipe"
	"cooper/request"
)

func set(words ...string) []api.Setting {
	var out []api.Setting
	for _, w := range words {
		name, value, _ := strings.Cut(w, "=")
		out = append(out, api.Setting{Name: name, Value: value})
	}
	return out
}

// some is a graph and its text.
func some() (api.Graph, string) {
	return api.Graph{Nodes: []api.Node{
		{Name: "a", Version: "1.rc", Settings: set("x=on", "n=007"), Needs: []string{"b", "zlib-ng"}},
		{Name: "b", Version: "2"},
		{Name: "zlib-ng", Version: "1.10", Settings: set("x=on")},
	}}, "lock 1\nnode a 1.rc x=on n=007\n  needs b\n  needs zlib-ng\nnode b 2\nnode zlib-ng 1.10 x=on\n"
}

func TestWriteAndParse(t *testing.T) {
	g, text := some()
	if got, ok := lock.Write(g); got != text || !ok {
		t.Errorf("%q, %v", got, ok)
	}
	if got, where, err := lock.Parse(text); !graph.Same(got, g) || where != (api.Where{}) || err != api.OK {
		t.Error(got, where, err)
	}
	if kept, _ := some(); !graph.Same(g, kept) {
		t.Error("what was handed in is changed")
	}
	for text, g := range map[string]api.Graph{
		"lock 1\n":                              {},
		"lock 1\nnode a 1\n":                    {Nodes: []api.Node{{Name: "a", Version: "1"}}},
		"lock 1\nnode a 1 x=1 x=1 b=2\n":        {Nodes: []api.Node{{Name: "a", Version: "1", Settings: set("x=1", "x=1", "b=2")}}},
		"lock 1\nnode a 1\n  needs none\n":      {Nodes: []api.Node{{Name: "a", Version: "1", Needs: []string{"none"}}}},
		"lock 1\nnode needs 1\n  needs needs\n": {Nodes: []api.Node{{Name: "needs", Version: "1", Needs: []string{"needs"}}}},
	} {
		if got, ok := lock.Write(g); got != text || !ok {
			t.Errorf("%q, %v", got, ok)
		}
		if got, where, err := lock.Parse(text); !graph.Same(got, g) || where != (api.Where{}) || err != api.OK {
			t.Errorf("%q: %v, %v, %v", text, got, where, err)
		}
	}
}

// row are n names that rise.
func row(n int) []string {
	var out []string
	for i := range n {
		out = append(out, fmt.Sprintf("p%03d", i))
	}
	return out
}

func wide(n int) api.Graph {
	var g api.Graph
	for _, name := range row(n) {
		g.Nodes = append(g.Nodes, api.Node{Name: name, Version: "1"})
	}
	return g
}

func TestNotWritten(t *testing.T) {
	one := func(n api.Node) api.Graph { return api.Graph{Nodes: []api.Node{n}} }
	tests := map[string]api.Graph{
		"no name":                  one(api.Node{Version: "1"}),
		"a wrong name":             one(api.Node{Name: "A", Version: "1"}),
		"a name of two words":      one(api.Node{Name: "a 1", Version: "x=on"}),
		"a name of two lines":      one(api.Node{Name: "a 1\nnode b", Version: "1"}),
		"no version":               one(api.Node{Name: "a"}),
		"a wrong version":          one(api.Node{Name: "a", Version: "01"}),
		"a version with a setting": one(api.Node{Name: "a", Version: "1 x=on"}),
		"a version with a need":    one(api.Node{Name: "a", Version: "1\n  needs b"}),
		"a wrong setting":          one(api.Node{Name: "a", Version: "1", Settings: set("X=1")}),
		"a wrong value":            one(api.Node{Name: "a", Version: "1", Settings: set("x=1000")}),
		"no value":                 one(api.Node{Name: "a", Version: "1", Settings: set("x")}),
		"two settings in one":      one(api.Node{Name: "a", Version: "1", Settings: set("x=1 y=2")}),
		"five settings":            one(api.Node{Name: "a", Version: "1", Settings: set("a=1", "b=1", "c=1", "d=1", "e=1")}),
		"a wrong need":             one(api.Node{Name: "a", Version: "1", Needs: []string{"B"}}),
		"an empty need":            one(api.Node{Name: "a", Version: "1", Needs: []string{""}}),
		"needs that fall":          one(api.Node{Name: "a", Version: "1", Needs: []string{"c", "b"}}),
		"a need twice":             one(api.Node{Name: "a", Version: "1", Needs: []string{"b", "b"}}),
		"too many needs":           one(api.Node{Name: "a", Version: "1", Needs: row(25)}),
		"names that fall":          {Nodes: []api.Node{{Name: "b", Version: "1"}, {Name: "a", Version: "1"}}},
		"a name twice":             {Nodes: []api.Node{{Name: "a", Version: "1"}, {Name: "a", Version: "1"}}},
		"too many nodes":           wide(25),
	}
	for name, g := range tests {
		if text, ok := lock.Write(g); ok || text != "" {
			t.Errorf("%s is written: %q", name, text)
		}
	}
	for name, g := range map[string]api.Graph{
		"many needs":    one(api.Node{Name: "a", Version: "1", Needs: row(24)}),
		"many nodes":    wide(24),
		"four settings": one(api.Node{Name: "a", Version: "1", Settings: set("a=1", "b=1", "c=1", "d=1")}),
	} {
		text, ok := lock.Write(g)
		back, _, err := lock.Parse(text)
		if !ok || err != api.OK || !graph.Same(back, g) {
			t.Errorf("%s: %v, %v", name, ok, err)
		}
	}
}

func TestWrong(t *testing.T) {
	nodes := ""
	for _, name := range row(24) {
		nodes += "node " + name + " 1\n"
	}
	needs := ""
	for _, name := range row(24) {
		needs += "  needs " + name + "\n"
	}
	tests := []struct {
		text string
		line int
	}{
		{"", 1}, {"\n", 1}, {"lock", 1}, {"lock 2\n", 1}, {"lock 1 \n", 1}, {" lock 1\n", 1}, {"Lock 1\n", 1}, {"lock  1\n", 1}, {"lock 1\r\n", 1}, {"node a 1\n", 1}, {"\nlock 1\n", 1},
		{"lock 1", 2}, {"lock 1\nnode a 1", 3}, {"lock 1\nnode a 1\n  needs b", 4}, {"lock 1\nnode a", 2}, {"lock 1\nn", 2}, {"lock 1\n ", 2}, {"lock 1\nnode a 1\n  needs", 3},
		{"lock 1\n\n", 2}, {"lock 1\nnode a 1\n\n", 3}, {"lock 1\nlock 1\n", 2}, {"lock 1\n  needs a\n", 2}, {"lock 1\nnode\n", 2}, {"lock 1\nnode a\n", 2}, {"lock 1\nnode a \n", 2}, {"lock 1\nnode a 1 \n", 2}, {"lock 1\nnode  a 1\n", 2}, {"lock 1\n node a 1\n", 2}, {"lock 1\nnodes a 1\n", 2},
		{"lock 1\nnode A 1\n", 2}, {"lock 1\nnode a 01\n", 2}, {"lock 1\nnode a 1 x\n", 2}, {"lock 1\nnode a 1 x=\n", 2}, {"lock 1\nnode a 1 x=1000\n", 2}, {"lock 1\nnode a 1 x=1=2\n", 2}, {"lock 1\nnode a 1 X=1\n", 2}, {"lock 1\nnode a 1  x=1\n", 2}, {"lock 1\nnode a 1 a=1 b=1 c=1 d=1 e=1\n", 2}, {"lock 1\nnode a 1 # it\n", 2}, {"lock 1\nnode a 1\tx=1\n", 2},
		{"lock 1\nnode b 1\nnode a 1\n", 3}, {"lock 1\nnode a 1\nnode a 2\n", 3}, {"lock 1\nnode b 1\nnode a 1\nnode !\n", 3},
		{"lock 1\nnode a 1\n needs b\n", 3}, {"lock 1\nnode a 1\n   needs b\n", 3}, {"lock 1\nnode a 1\n  needs\n", 3}, {"lock 1\nnode a 1\n  needs \n", 3}, {"lock 1\nnode a 1\n  needs B\n", 3}, {"lock 1\nnode a 1\n  needs b c\n", 3}, {"lock 1\nnode a 1\n  needs b \n", 3}, {"lock 1\nnode a 1\nneeds b\n", 3},
		{"lock 1\nnode a 1\n  needs b\n  needs b\n", 4}, {"lock 1\nnode a 1\n  needs c\n  needs b\n", 4},
		{"lock 1\n" + nodes + "node q 1\n", 26}, {"lock 1\n" + nodes + "node q 1", 26}, {"lock 1\nnode a 1\n" + needs + "  needs q\n", 27},
		{"lock 1\nnode \xff 1\n", 2}, {"lock 1\x00\n", 1},
	}
	for _, x := range tests {
		g, where, err := lock.Parse(x.text)
		if err != api.ErrParse || where != (api.Where{Line: x.line}) || len(g.Nodes) != 0 {
			t.Errorf("Parse(%.60q): %v, %v, %v, not %d", x.text, g, where, err, x.line)
		}
	}
	if g, _, err := lock.Parse("lock 1\n" + nodes); err != api.OK || len(g.Nodes) != 24 {
		t.Error("as many nodes as may be", err)
	}
}

// TestThereAndBack is P28.2.
func TestThereAndBack(t *testing.T) {
	r := rand.New(rand.NewSource(28))
	pick := func(l ...string) string { return l[r.Intn(len(l))] }
	written := 0
	for range 3000 {
		var g api.Graph
		for _, name := range row(r.Intn(5)) {
			n := api.Node{Name: name, Version: pick("1", "1.rc", "2.10", "0")}
			for range r.Intn(3) {
				n.Settings = append(n.Settings, api.Setting{Name: pick("x", "y", "a-b"), Value: pick("on", "1", "007")})
			}
			for _, need := range row(r.Intn(4)) {
				n.Needs = append(n.Needs, need)
			}
			if r.Intn(40) == 0 {
				slices.Reverse(n.Needs)
			}
			if r.Intn(60) == 0 {
				n.Version = pick("", "01", "1 2", "x=1")
			}
			g.Nodes = append(g.Nodes, n)
		}
		text, ok := lock.Write(g)
		if !ok {
			continue
		}
		written++
		back, where, err := lock.Parse(text)
		if err != api.OK || !graph.Same(back, g) {
			t.Fatalf("%q is read as %v, %v, %v", text, back, where, err)
		}
	}
	if written < 1500 {
		t.Error(written)
	}
}

func FuzzParse(f *testing.F) {
	_, text := some()
	f.Add(text)
	f.Fuzz(func(t *testing.T, text string) {
		g, where, err := lock.Parse(text)
		if err != api.OK {
			if len(g.Nodes) != 0 || where.Line < 1 || where.Col != 0 {
				t.Error(g, where, err)
			}
			return
		}
		if again, ok := lock.Write(g); !ok || again != text {
			t.Errorf("%q is written as %q", text, again)
		}
	})
}

func read(t *testing.T, text, ask string) (api.Recipe, api.Request) {
	t.Helper()
	x, where, err := recipe.Parse(text)
	if err != api.OK {
		t.Fatalf("Parse(%q): %v, %v", text, where, err)
	}
	q, where, err := request.Parse(ask)
	if err != api.OK {
		t.Fatalf("Parse(%q): %v, %v", ask, where, err)
	}
	return x, q
}

// TestAgain is P28.3.
func TestAgain(t *testing.T) {
	text := "package a\nversion 1\nversion 2\nvariant x on off\ndepends b\npackage b\nversion 1\nversion 2\n"
	tests := []struct {
		text, ask, lock string
		breach          api.Breach
		err             api.Errno
	}{
		{text, "root a", "lock 1\nnode a 2 x=on\n  needs b\nnode b 2\n", api.Breach{}, api.OK},
		// What would be better is not found.
		{text, "root a", "lock 1\nnode a 1 x=off\n  needs b\nnode b 1\n", api.Breach{}, api.OK},
		{text, "root a@2", "lock 1\nnode a 1 x=off\n  needs b\nnode b 1\n", api.Breach{Code: api.BreachRoot, Name: "a"}, api.ErrStale},
		{text, "root a", "lock 1\nnode a 3 x=on\n  needs b\nnode b 2\n", api.Breach{Code: api.BreachVersion, Name: "a"}, api.ErrStale},
		{text, "root a", "lock 1\nnode a 2 x=on\nnode b 2\n", api.Breach{Code: api.BreachNeeds, Name: "a"}, api.ErrStale},
		{text, "root a", "lock 1\nnode c 2 x=on\n", api.Breach{Code: api.BreachName, Name: "c"}, api.ErrStale},
		{text, "root a", "lock 1\n", api.Breach{Code: api.BreachRoot, Name: "a"}, api.ErrStale},
		{text, "root a", "", api.Breach{}, api.ErrParse},
		{text, "root a", "lock 1\nnode a 2 x=on\n  needs b\nnode b 2", api.Breach{}, api.ErrParse},
		{text, "root z", "lock 1\nnode a 2 x=on\n  needs b\nnode b 2\n", api.Breach{}, api.ErrForm},
		{text, "", "", api.Breach{}, api.ErrForm},
		{"package a\n", "root a", "lock 2", api.Breach{}, api.ErrForm},
	}
	for _, test := range tests {
		x, q := read(t, test.text, test.ask)
		g, breach, err := lock.Again(x, q, test.lock)
		if err != test.err || breach != test.breach {
			t.Errorf("Again(%q, %q): %v, %v", test.ask, test.lock, breach, err)
		}
		want := api.Graph{}
		if test.err == api.OK {
			want, _, _ = lock.Parse(test.lock)
		}
		if !graph.Same(g, want) {
			t.Errorf("Again(%q, %q) = %v", test.ask, test.lock, g)
		}
	}
}
