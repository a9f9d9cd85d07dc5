package store_test

import (
	"bytes"
	"crypto/sha256"
	"encoding/base32"
	"fmt"
	"math/rand"
	"slices"
	"strings"
	"testing"

	"cooper/api"
	"cooper/graph"
	"cooper/recipe"
	"cooper/request"
	"cooper/store"
)

func TestSum(t *testing.T) {
	for text, want := range map[string]string{
		"":    "e3b0c44298fc1c149afbf4c8996fb92427ae41e4649b934ca495991b7852b855",
		"abc": "ba7816bf8f01cfea414140de5dae2223b00361a396177a9cb410ff61f20015ad",
		"abcdbcdecdefdefgefghfghighijhijkijkljklmklmnlmnomnopnopq": "248d6a61d20638b8e5c026930c3e6039a33ce45964ff2167f6ecedd419db06c1",
	} {
		if got := fmt.Sprintf("%x", store.Sum([]byte(text))); got != want {
			t.Errorf("Sum(%q) = %s", text, got)
		}
	}
	r := rand.New(rand.NewSource(29))
	for n := range 300 {
		b := make([]byte, n, n+100)
		r.Read(b)
		kept := bytes.Clone(b[:n+100])
		if got := store.Sum(b); got != sha256.Sum256(b) {
			t.Errorf("the sum of %d bytes", n)
		}
		if !bytes.Equal(b[:n+100], kept) {
			t.Error("what was handed in is changed")
		}
	}
	if got := store.Sum(nil); got != sha256.Sum256(nil) {
		t.Error("the sum of none")
	}
	great := bytes.Repeat([]byte("0123456789"), 100000)
	if got := store.Sum(great); got != sha256.Sum256(great) {
		t.Error("the sum of many bytes")
	}
}

func TestSigns(t *testing.T) {
	for text, want := range map[string]string{"": "", "f": "my", "fo": "mzxq", "foo": "mzxw6", "foob": "mzxw6yq", "fooba": "mzxw6ytb", "foobar": "mzxw6ytboi", "\x00": "aa", "\xff": "74"} {
		if got := store.Signs([]byte(text)); got != want {
			t.Errorf("Signs(%q) = %q", text, got)
		}
	}
	r := rand.New(rand.NewSource(30))
	for n := range 70 {
		b := make([]byte, n)
		r.Read(b)
		if got, want := store.Signs(b), strings.ToLower(base32.StdEncoding.WithPadding(base32.NoPadding).EncodeToString(b)); got != want {
			t.Errorf("Signs(%x) = %q, not %q", b, got, want)
		}
	}
}

func set(words ...string) []api.Setting {
	var out []api.Setting
	for _, w := range words {
		name, value, _ := strings.Cut(w, "=")
		out = append(out, api.Setting{Name: name, Value: value})
	}
	return out
}

func TestText(t *testing.T) {
	tests := []struct {
		d    api.Derivation
		want string
	}{
		{api.Derivation{}, "8:cooper-10:0:1:01:0"},
		{api.Derivation{Name: "a", Version: "1.10", Path: "not told"}, "8:cooper-11:a4:1.101:01:0"},
		{api.Derivation{Name: "zlib", Version: "1", Settings: set("x=on", "abc=1"), Inputs: []string{"b", "", "b"}}, "8:cooper-14:zlib1:11:21:x2:on3:abc1:11:31:b0:1:b"},
		{api.Derivation{Name: "\xff\x00", Version: strings.Repeat("v", 12)}, "8:cooper-12:\xff\x0012:vvvvvvvvvvvv1:01:0"},
	}
	for _, x := range tests {
		if got := store.Text(x.d); got != x.want {
			t.Errorf("Text(%v) = %q, not %q", x.d, got, x.want)
		}
	}
}

// path is a derivation's path, by the library's means.
func path(d api.Derivation) string {
	sum := sha256.Sum256([]byte(store.Text(d)))
	return fmt.Sprintf("%s-%d-%s-%s", strings.ToLower(base32.StdEncoding.WithPadding(base32.NoPadding).EncodeToString(sum[:])), len(d.Name), d.Name, d.Version)
}

func TestPath(t *testing.T) {
	for _, d := range []api.Derivation{{}, {Name: "a", Version: "1"}, {Name: "zlib-ng", Version: "1.rc", Settings: set("x=on"), Inputs: []string{"p"}, Path: "another one"}, {Name: strings.Repeat("n", 24), Version: "!"}} {
		if got := store.Path(d); got != path(d) {
			t.Errorf("Path(%v) = %q, not %q", d, got, path(d))
		}
	}
	if got := store.Path(api.Derivation{Name: "a", Version: "1"}); len(got) != 52+1+1+1+1+1+1 || !strings.HasSuffix(got, "-1-a-1") {
		t.Error(got)
	}
}

// nodes reads a graph: nodes with a semicolon between, each its name, version, settings, and, behind an arrow, what it needs.
func nodes(text string) api.Graph {
	var g api.Graph
	for _, part := range strings.Split(text, ";") {
		head, needs, _ := strings.Cut(part, ">")
		words := strings.Fields(head)
		if len(words) > 0 {
			g.Nodes = append(g.Nodes, api.Node{Name: words[0], Version: words[1], Settings: set(words[2:]...), Needs: strings.Fields(needs)})
		}
	}
	return g
}

func TestLower(t *testing.T) {
	g := nodes("a 1 x=on y=1 > d c; b 2; c 1 > d; d 3 z=1")
	kept := fmt.Sprint(g)
	got, ok := store.Lower(g)
	if !ok || len(got) != 4 || fmt.Sprint(g) != kept {
		t.Fatal(got, ok)
	}
	b := api.Derivation{Name: "b", Version: "2"}
	b.Path = path(b)
	d := api.Derivation{Name: "d", Version: "3", Settings: set("z=1")}
	d.Path = path(d)
	c := api.Derivation{Name: "c", Version: "1", Inputs: []string{d.Path}}
	c.Path = path(c)
	a := api.Derivation{Name: "a", Version: "1", Settings: set("x=on", "y=1"), Inputs: []string{c.Path, d.Path}}
	slices.Sort(a.Inputs)
	a.Path = path(a)
	if want := []api.Derivation{b, d, c, a}; fmt.Sprint(got) != fmt.Sprint(want) {
		t.Errorf("%v\nnot\n%v", got, want)
	}
	if !store.Closed(got) {
		t.Error("what a graph is lowered to is closed")
	}
	got[1].Settings[0].Name = "q"
	got[3].Inputs[0] = "q"
	if g.Nodes[3].Settings[0].Name != "z" {
		t.Error("what is answered is the memory that was handed in")
	}
	twice, ok := store.Lower(nodes("a 1 > b b; b 1"))
	if !ok || len(twice) != 2 || len(twice[1].Inputs) != 2 || twice[1].Inputs[0] != twice[0].Path || twice[1].Inputs[1] != twice[0].Path {
		t.Error("a path stands as often as it is needed", twice)
	}
	for _, text := range []string{"a 1 > a", "a 1 > b; b 1 > a", "a 1 > z", "a 1; a 1", "a 1; a 2", "b 1; a 1 > b; b 2", "a 1 > b; b 1 > c; c 1 > b; d 1"} {
		if got, ok := store.Lower(nodes(text)); ok || len(got) != 0 {
			t.Errorf("Lower(%q) = %v", text, got)
		}
	}
	if got, ok := store.Lower(api.Graph{}); !ok || len(got) != 0 {
		t.Error(got, ok)
	}
}

func TestClosed(t *testing.T) {
	row := func() []api.Derivation {
		l, ok := store.Lower(nodes("a 1 > b c; b 1 > c; c 1; d 1 x=on > a"))
		if !ok {
			t.Fatal("not lowered")
		}
		return l
	}
	again := func(d *api.Derivation) { d.Path = store.Path(*d) }
	if !store.Closed(row()) || !store.Closed(nil) || !store.Closed(row()[:2]) {
		t.Error("Closed")
	}
	changes := map[string]func([]api.Derivation) []api.Derivation{
		"another path":         func(l []api.Derivation) []api.Derivation { l[0].Path += "x"; return l },
		"another name":         func(l []api.Derivation) []api.Derivation { l[3].Name = "e"; return l },
		"another setting":      func(l []api.Derivation) []api.Derivation { l[3].Settings[0].Value = "off"; return l },
		"one missing":          func(l []api.Derivation) []api.Derivation { return l[1:] },
		"another order":        func(l []api.Derivation) []api.Derivation { l[0], l[1] = l[1], l[0]; return l },
		"one twice":            func(l []api.Derivation) []api.Derivation { return append(l, l[3]) },
		"an input of none":     func(l []api.Derivation) []api.Derivation { l[3].Inputs = []string{"x"}; again(&l[3]); return l },
		"an input that is own": func(l []api.Derivation) []api.Derivation { l[3].Inputs = []string{l[3].Path}; again(&l[3]); return l },
		"an input behind it": func(l []api.Derivation) []api.Derivation {
			l[0].Inputs = []string{l[3].Path}
			again(&l[0])
			return l[:1]
		},
		"no path": func(l []api.Derivation) []api.Derivation { l[0].Path = ""; return l },
		"inputs without a path": func(l []api.Derivation) []api.Derivation {
			l[1].Inputs = append(l[1].Inputs, "")
			again(&l[1])
			return l
		},
	}
	for name, change := range changes {
		if l := change(row()); store.Closed(l) {
			t.Errorf("%s: %v", name, l)
		}
	}
}

// TestApart is P29.3.
func TestApart(t *testing.T) {
	words := []string{"", "a", "1", "1:", ":", "1:a", "a1:", "0:", "1:1", "01:0"}
	seen := map[string]string{}
	tell := func(d api.Derivation) {
		id := fmt.Sprintf("%q", []any{d.Name, d.Version, d.Settings, d.Inputs})
		text := store.Text(d)
		if other, ok := seen[text]; ok && other != id {
			t.Fatalf("%s and %s are both written %q", id, other, text)
		}
		seen[text] = id
	}
	for _, a := range words {
		for _, b := range words {
			tell(api.Derivation{Name: a, Version: b})
			tell(api.Derivation{Inputs: []string{a, b}})
			tell(api.Derivation{Name: a, Inputs: []string{b}})
			tell(api.Derivation{Settings: []api.Setting{{Name: a, Value: b}}})
			for _, c := range words {
				tell(api.Derivation{Settings: []api.Setting{{Name: a, Value: b}}, Inputs: []string{c}})
				tell(api.Derivation{Version: a, Settings: []api.Setting{{Name: b, Value: c}}})
				tell(api.Derivation{Version: a, Inputs: []string{b, c}})
			}
		}
	}
	// Whatever the sums are, of other names or versions paths are not the same: how long the name is stands ahead of it.
	tails := map[string]string{}
	for _, name := range []string{"a", "a-1", "a-1-1", "1", "1-a", "3-a-1"} {
		for _, version := range []string{"1", "1-1", "a", "a-1", "1-a-1"} {
			tail := store.Path(api.Derivation{Name: name, Version: version})[52:]
			if other, ok := tails[tail]; ok {
				t.Errorf("%s-%s and %s are both %q", name, version, other, tail)
			}
			tails[tail] = name + " " + version
		}
	}
}

const some = `package a
version 1
file bin/a
file share/it
depends b
package b
version 1
file bin/b
package c
version 1
provides v
file bin/c
file bin/b
package d
version 1
file bin/d
file bin/b
file a
package e
version 1
`

func TestEnvironment(t *testing.T) {
	tests := []struct {
		ask, g, links, clash string
		ok                   bool
	}{
		{"root a", "a 1 > b; b 1", "bin/a=a bin/b=b share/it=a", "", true},
		{"root b", "a 1 > b; b 1", "bin/b=b", "", true},
		{"root v", "a 1 > b; b 1; c 1", "bin/b=c bin/c=c", "", true},
		{"root e", "a 1 > b; b 1; e 1", "", "", true},
		{"root none", "a 1 > b; b 1", "", "", true},
		{"root a", "", "", "", true},
		{"root e\nroot e", "b 1; e 1 > z; z 1 > b", "bin/b=b", "", true},
		{"root v\nroot a", "a 1 > b; b 1; c 1", "", "bin/b", false},
		{"root v\nroot a\nroot d", "a 1 > b; b 1; c 1; d 1", "", "bin/b", false},
		{"root d\nroot d", "b 1; d 1", "a=d bin/b=d bin/d=d", "", true},
		{"root d\nroot b", "b 1; d 1", "", "bin/b", false},
		{"root a", "a 1 > b", "", "", false},
		{"root a", "a 1 > b; b 1 > a", "", "", false},
		{"root a", "a 1; a 1", "", "", false},
		{"root z", "b 1; z 1 > b", "", "", true},
	}
	for _, test := range tests {
		x, where, err := recipe.Parse(some)
		if err != api.OK {
			t.Fatal(where, err)
		}
		q, where, err := request.Parse(test.ask)
		if err != api.OK {
			t.Fatal(where, err)
		}
		g := nodes(test.g)
		kept := fmt.Sprint(x, q, g)
		links, clash, ok := store.Environment(x, q, g)
		if clash != test.clash || ok != test.ok || fmt.Sprint(x, q, g) != kept {
			t.Errorf("Environment(%q, %q): %q, %v", test.ask, test.g, clash, ok)
		}
		derivations, _ := store.Lower(g)
		var got []string
		for _, l := range links {
			i := slices.IndexFunc(derivations, func(d api.Derivation) bool { return d.Path == l.Path })
			got = append(got, l.File+"="+derivations[i].Name)
		}
		if strings.Join(got, " ") != test.links {
			t.Errorf("Environment(%q, %q) = %q", test.ask, test.g, got)
		}
	}
}

func TestClashIsTheLeastFile(t *testing.T) {
	x, _, _ := recipe.Parse("package a\nversion 1\nfile z\nfile m\nfile k\npackage b\nversion 1\nfile m\nfile z\nfile a\n")
	q, _, _ := request.Parse("root a\nroot b")
	if links, clash, ok := store.Environment(x, q, nodes("a 1; b 1")); len(links) != 0 || clash != "m" || ok {
		t.Error(links, clash, ok)
	}
	// A file that a package has twice is one.
	x.Packages[0].Files = []string{"k", "j", "k"}
	x.Packages[1].Files = nil
	if links, clash, ok := store.Environment(x, q, nodes("a 1; b 1")); len(links) != 2 || links[0].File != "j" || clash != "" || !ok {
		t.Error(links, clash, ok)
	}
}

// TestLowered is P29.2, of graphs that go no way round.
func TestLowered(t *testing.T) {
	r := rand.New(rand.NewSource(31))
	lowered := 0
	for range 1000 {
		n := 1 + r.Intn(6)
		var g api.Graph
		for i := range n {
			node := api.Node{Name: fmt.Sprint("n", i), Version: fmt.Sprint(r.Intn(3))}
			for range r.Intn(3) {
				node.Needs = append(node.Needs, fmt.Sprint("n", r.Intn(n)))
			}
			g.Nodes = append(g.Nodes, node)
		}
		l, ok := store.Lower(g)
		order, fine := graph.Order(g)
		if ok != fine {
			t.Fatal(g, ok)
		}
		if !ok {
			continue
		}
		lowered++
		if len(l) != n || !store.Closed(l) {
			t.Fatal(g, l)
		}
		for i, d := range l {
			node := g.Nodes[order[i]]
			if d.Name != node.Name || d.Version != node.Version || len(d.Inputs) != len(node.Needs) || !slices.IsSorted(d.Inputs) {
				t.Fatal(g, l)
			}
			for _, need := range node.Needs {
				k := slices.IndexFunc(l, func(d api.Derivation) bool { return d.Name == need })
				if k >= i || !slices.Contains(d.Inputs, l[k].Path) {
					t.Fatal(g, l)
				}
			}
		}
	}
	if lowered < 100 {
		t.Error(lowered)
	}
}

// TestAnotherPath: with another version of what it needs a package gets another path, and so do those that need it.
func TestAnotherPath(t *testing.T) {
	one, _ := store.Lower(nodes("a 1 > b; b 1 > zlib; c 1; zlib 1"))
	two, _ := store.Lower(nodes("a 1 > b; b 1 > zlib; c 1; zlib 2"))
	for i, d := range one {
		if (d.Path == two[i].Path) != (d.Name == "c") {
			t.Errorf("%s: %s, %s", d.Name, d.Path, two[i].Path)
		}
	}
}
