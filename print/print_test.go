package print_test

import (
	"math/rand"
	"reflect"
	"slices"
	"strconv"
	"strings"
	"testing"

	"cooper/api"
	"cooper/print"
	"cooper/recipe"
)

const whole = `package app
  version 2
  version 1.rc old
  variant ssl on off
  variant n 1 02 003
  depends zlib@1: shared=on when ssl=on
  depends mpi
  depends zlib@1,2:3 a=1 b=2 when @:1 n=1 ssl=off
  conflicts * with zlib@2.0
  conflicts @1: n=1
  conflicts n=1 ssl=on with b x=1
  file bin/app
  file @=~
package mpich
  version 3
  provides mpi
  provides mpi-3
package bare
prefer mpi mpich openmpi
prefer x a
`

func all() []api.Span { return []api.Span{{}} }

func set(words ...string) []api.Setting {
	var out []api.Setting
	for _, w := range words {
		name, value, _ := strings.Cut(w, "=")
		out = append(out, api.Setting{Name: name, Value: value})
	}
	return out
}

func read(t *testing.T, text string) api.Recipe {
	t.Helper()
	x, where, err := recipe.Parse(text)
	if err != api.OK {
		t.Fatalf("Parse(%q): %v, %v", text, where, err)
	}
	return x
}

func TestRecipe(t *testing.T) {
	if text, ok := print.Recipe(read(t, whole)); !ok || text != whole {
		t.Errorf("%v\n%s", ok, text)
	}
	mixed := "prefer x a # first\n\npackage b\nfile f\nconflicts * with c@2: \n depends  c  when *\nprovides v\nvariant x 1\nversion 1   old\nprefer  y b\nversion 2\npackage a\n"
	want := "package b\n  version 1 old\n  version 2\n  variant x 1\n  provides v\n  depends c\n  conflicts * with c@2:\n  file f\npackage a\nprefer x a\nprefer y b\n"
	x := read(t, mixed)
	kept := read(t, mixed)
	if text, ok := print.Recipe(x); !ok || text != want {
		t.Errorf("%v\n%s", ok, text)
	}
	if !reflect.DeepEqual(x, kept) {
		t.Error("what was handed in is changed")
	}
	if text, ok := print.Recipe(api.Recipe{}); !ok || text != "" {
		t.Errorf("%q, %v", text, ok)
	}
}

func TestNotWritten(t *testing.T) {
	p := func(change func(*api.Package)) api.Recipe {
		x := read(t, "package a\n  version 1\n  variant x on\n  provides v\n  depends b@1 x=on when x=on\n  conflicts * with b@1 x=on\n  file f\nprefer v a\n")
		change(&x.Packages[0])
		return x
	}
	tests := map[string]api.Recipe{
		"a name":                       p(func(p *api.Package) { p.Name = "A" }),
		"no name":                      p(func(p *api.Package) { p.Name = "" }),
		"a name of two lines":          p(func(p *api.Package) { p.Name = "a\n  version 1" }),
		"a version":                    p(func(p *api.Package) { p.Releases[0].Version = "01" }),
		"a version with a word":        p(func(p *api.Package) { p.Releases[0].Version = "1 old" }),
		"a version with a remark":      p(func(p *api.Package) { p.Releases[0].Version = "1 # 2" }),
		"a variant's name":             p(func(p *api.Package) { p.Variants[0].Name = "x on" }),
		"a variant's value":            p(func(p *api.Package) { p.Variants[0].Values[0] = "1000" }),
		"two values in one":            p(func(p *api.Package) { p.Variants[0].Values[0] = "on off" }),
		"no values":                    p(func(p *api.Package) { p.Variants[0].Values = nil }),
		"a name that is provided":      p(func(p *api.Package) { p.Provides[0] = "" }),
		"a file":                       p(func(p *api.Package) { p.Files[0] = "a b" }),
		"a file with a remark":         p(func(p *api.Package) { p.Files[0] = "a#b" }),
		"an empty file":                p(func(p *api.Package) { p.Files[0] = "" }),
		"a long file":                  p(func(p *api.Package) { p.Files[0] = strings.Repeat("f", 61) }),
		"a wish without a name":        p(func(p *api.Package) { p.Depends[0].On.Name = "" }),
		"a wish without spans":         p(func(p *api.Package) { p.Depends[0].On.Spans = nil }),
		"a wish not in its form":       p(func(p *api.Package) { p.Depends[0].On.Spans = []api.Span{{Lo: "2", Hi: "2"}, {Lo: "1", Hi: "1"}} }),
		"a wish of a wrong span":       p(func(p *api.Package) { p.Depends[0].On.Spans = []api.Span{{Lo: "2", Hi: "1"}} }),
		"settings that fall":           p(func(p *api.Package) { p.Depends[0].On.Settings = set("y=1", "x=1") }),
		"a setting twice":              p(func(p *api.Package) { p.Depends[0].On.Settings = set("x=1", "x=1") }),
		"a condition with a name":      p(func(p *api.Package) { p.Depends[0].When.Name = "b" }),
		"the same, of a conflict":      p(func(p *api.Package) { p.Conflicts[0].When.Name = "b" }),
		"a condition without spans":    p(func(p *api.Package) { p.Depends[0].When.Spans = nil }),
		"a condition of a wrong value": p(func(p *api.Package) { p.Conflicts[0].When.Settings = set("x=!") }),
		"forty words and one":          p(func(p *api.Package) { p.Variants[0].Values = slices.Repeat([]string{"on"}, 39) }),
		"a preferred name":             {Prefers: []api.Prefer{{Virtual: "v", Names: []string{"a b"}}}},
		"none preferred":               {Prefers: []api.Prefer{{Virtual: "v"}}},
		"a wrong virtual name":         {Prefers: []api.Prefer{{Virtual: "v v", Names: []string{"a"}}}},
		"too many lines":               {Packages: slices.Repeat([]api.Package{{Name: "a"}}, 2001)},
		"too many bytes":               {Prefers: slices.Repeat([]api.Prefer{{Virtual: "v", Names: slices.Repeat([]string{"aa"}, 38)}}, 600)},
	}
	for name, x := range tests {
		if text, ok := print.Recipe(x); ok || text != "" {
			t.Errorf("%s is written:\n%s", name, text)
		}
	}
	if _, ok := print.Recipe(api.Recipe{Packages: slices.Repeat([]api.Package{{Name: "a"}}, 2000)}); !ok {
		t.Error("two thousand lines are not too many")
	}
	if _, ok := print.Recipe(p(func(p *api.Package) { p.Variants[0].Values = slices.Repeat([]string{"on"}, 38) })); !ok {
		t.Error("forty words are not too many")
	}
}

func TestWishAndCondition(t *testing.T) {
	tests := []struct {
		s               api.Spec
		wish, condition string
	}{
		{api.Spec{Name: "a", Spans: all()}, "a", ""},
		{api.Spec{Spans: all()}, "", "*"},
		{api.Spec{Name: "a", Spans: []api.Span{{Lo: "1", Hi: "1"}, {Lo: "2"}}, Settings: set("x=on", "y=2")}, "a@1,2: x=on y=2", ""},
		{api.Spec{Spans: []api.Span{{Lo: "1", Hi: "1"}, {Lo: "2"}}, Settings: set("x=on", "y=2")}, "", "@1,2: x=on y=2"},
		{api.Spec{Spans: all(), Settings: set("x=on")}, "", "x=on"},
		{api.Spec{Name: "a", Spans: all(), Settings: set("x=on")}, "a x=on", ""},
		{api.Spec{Spans: []api.Span{{Hi: "1"}}}, "", "@:1"},
		{api.Spec{}, "", ""},
		{api.Spec{Name: "a"}, "", ""},
		{api.Spec{Name: "a", Spans: []api.Span{}}, "", ""},
		{api.Spec{Name: "A", Spans: all()}, "", ""},
		{api.Spec{Name: "a b", Spans: all()}, "", ""},
		{api.Spec{Name: "a x=on", Spans: all()}, "", ""},
		{api.Spec{Name: "a@1", Spans: all()}, "", ""},
		{api.Spec{Name: "a", Spans: []api.Span{{}, {}}}, "", ""},
		{api.Spec{Name: "a", Spans: []api.Span{{Lo: "1", Hi: "2"}, {Lo: "2", Hi: "3"}}}, "", ""},
		{api.Spec{Spans: []api.Span{{Lo: "1", Hi: "2"}, {Lo: "2", Hi: "3"}}}, "", ""},
		{api.Spec{Spans: []api.Span{{Lo: "2", Hi: "1"}}}, "", ""},
		{api.Spec{Spans: all(), Settings: set("y=1", "x=1")}, "", ""},
		{api.Spec{Spans: all(), Settings: set("x=1", "x=2")}, "", ""},
		{api.Spec{Spans: all(), Settings: set("x=1 y=2")}, "", ""},
		{api.Spec{Spans: all(), Settings: set("x")}, "", ""},
		{api.Spec{Name: "*", Spans: all()}, "", ""},
	}
	for _, x := range tests {
		if text, ok := print.Wish(x.s); text != x.wish || ok != (x.wish != "") {
			t.Errorf("Wish(%v) = %q, %v", x.s, text, ok)
		}
		if text, ok := print.Condition(x.s); text != x.condition || ok != (x.condition != "") {
			t.Errorf("Condition(%v) = %q, %v", x.s, text, ok)
		}
	}
}

func TestSame(t *testing.T) {
	base := read(t, whole)
	if !print.Same(base, read(t, "\n\n# ahead\n"+strings.ReplaceAll(whole, "package", "\npackage"))) {
		t.Error("lines play a part")
	}
	changes := map[string]func(*api.Recipe){
		"name":       func(x *api.Recipe) { x.Packages[0].Name = "b" },
		"package":    func(x *api.Recipe) { x.Packages = x.Packages[:2] },
		"order":      func(x *api.Recipe) { slices.Reverse(x.Packages) },
		"version":    func(x *api.Recipe) { x.Packages[0].Releases[1].Version = "1" },
		"old":        func(x *api.Recipe) { x.Packages[0].Releases[0].Old = true },
		"release":    func(x *api.Recipe) { x.Packages[0].Releases = nil },
		"variant":    func(x *api.Recipe) { x.Packages[0].Variants[0].Name = "x" },
		"value":      func(x *api.Recipe) { x.Packages[0].Variants[1].Values[2] = "3" },
		"values":     func(x *api.Recipe) { slices.Reverse(x.Packages[0].Variants[0].Values) },
		"provides":   func(x *api.Recipe) { x.Packages[1].Provides = x.Packages[1].Provides[:1] },
		"wish":       func(x *api.Recipe) { x.Packages[0].Depends[0].On.Name = "z" },
		"wish set":   func(x *api.Recipe) { x.Packages[0].Depends[0].On.Spans[0].Hi = "2" },
		"wish value": func(x *api.Recipe) { x.Packages[0].Depends[0].On.Settings[0].Value = "off" },
		"when":       func(x *api.Recipe) { x.Packages[0].Depends[0].When.Settings = nil },
		"when set":   func(x *api.Recipe) { x.Packages[0].Depends[1].When.Spans = nil },
		"when name":  func(x *api.Recipe) { x.Packages[0].Depends[1].When.Name = "a" },
		"conflict":   func(x *api.Recipe) { x.Packages[0].Conflicts[0].When.Spans[0].Lo = "1" },
		"with":       func(x *api.Recipe) { x.Packages[0].Conflicts[0].With = api.Spec{} },
		"file":       func(x *api.Recipe) { x.Packages[0].Files[1] = "x" },
		"virtual":    func(x *api.Recipe) { x.Prefers[0].Virtual = "m" },
		"preferred":  func(x *api.Recipe) { slices.Reverse(x.Prefers[0].Names) },
		"prefers":    func(x *api.Recipe) { x.Prefers = nil },
	}
	for name, change := range changes {
		x := read(t, whole)
		change(&x)
		if print.Same(x, base) || print.Same(base, x) {
			t.Errorf("another %s plays no part", name)
		}
	}
	lines := read(t, whole)
	lines.Packages[0].Line, lines.Packages[0].Depends[0].Line, lines.Packages[0].Conflicts[0].Line, lines.Prefers[0].Line = 9, 9, 9, 9
	if !print.Same(lines, base) || !print.Same(api.Recipe{}, api.Recipe{Packages: []api.Package{}}) {
		t.Error("Same")
	}
	a := api.Spec{Name: "a", Spans: all(), Settings: set("x=1")}
	for _, b := range []api.Spec{{}, {Name: "b", Spans: all(), Settings: set("x=1")}, {Name: "a", Settings: set("x=1")}, {Name: "a", Spans: all()}, {Name: "a", Spans: all(), Settings: set("x=2")}, {Name: "a", Spans: []api.Span{{Lo: "1"}}, Settings: set("x=1")}} {
		if print.SameSpec(a, b) || print.SameSpec(b, a) {
			t.Errorf("%v and %v are the same", a, b)
		}
	}
	if !print.SameSpec(a, api.Spec{Name: "a", Spans: all(), Settings: set("x=1")}) || !print.SameSpec(api.Spec{}, api.Spec{Spans: []api.Span{}, Settings: []api.Setting{}}) {
		t.Error("SameSpec")
	}
}

func random(r *rand.Rand) string {
	var out strings.Builder
	pick := func(l ...string) string { return l[r.Intn(len(l))] }
	condition := func() string {
		return pick("*", "@1", "@:1,2:", "x=on", "@1.rc: x=on y=0", "x=on y=12")
	}
	wish := func() string { return pick("a", "b", "c") + pick("", "@1", "@1:2,3") + pick("", " x=on", " x=off y=1") }
	for i := range r.Intn(4) {
		out.WriteString(pick("", "# remark\n") + "package p" + strconv.Itoa(i) + "\n")
		for range r.Intn(8) {
			out.WriteString(pick("version 1", "version 2 old", "variant x on off", "provides v", "file f", "depends "+wish(), "depends "+wish()+" when "+condition(), "conflicts "+condition(), "conflicts "+condition()+" with "+wish(), "prefer v p0 p1") + "\n")
		}
	}
	return out.String()
}

// TestThereAndBack is P7.2.
func TestThereAndBack(t *testing.T) {
	r := rand.New(rand.NewSource(7))
	for range 2000 {
		x := read(t, random(r))
		text, ok := print.Recipe(x)
		if !ok {
			t.Fatalf("what was read may not be written: %+v", x)
		}
		back := read(t, text)
		if !print.Same(back, x) {
			t.Fatalf("%s\nis read as %+v, not %+v", text, back, x)
		}
		if again, ok := print.Recipe(back); !ok || again != text {
			t.Fatalf("%s\nand\n%s", text, again)
		}
	}
}
