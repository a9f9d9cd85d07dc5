package recipe_test

import (
	"reflect"
	"strings"
	"testing"

	"cooper/api"
	"cooper/recipe"
)

// whole has a line of each kind, and remarks and blanks between.
const whole = `# what there is
prefer mpi mpich openmpi

package app
  version 2
  version 1.rc   old
  variant ssl on off
  variant n 1 02 003
  depends zlib@1: shared=on when ssl=on
  depends mpi
  depends zlib@1,2:3 a=1 b=2 when @:1 n=1 ssl=off
  depends zlib when *
  conflicts * with zlib@2.0
  conflicts @1: n=1
  conflicts ssl=on n=1x # not read
package mpich
`

func all() []api.Span { return []api.Span{{}} }

func set(words ...string) []api.Setting {
	var out []api.Setting
	for _, w := range words {
		name, value, _ := strings.Cut(w, "=")
		out = append(out, api.Setting{Name: name, Value: value})
	}
	return out
}

// flat is a recipe without the difference of nil and empty lists.
func flat(x api.Recipe) api.Recipe {
	spec := func(s api.Spec) api.Spec {
		return api.Spec{Name: s.Name, Spans: append([]api.Span{}, s.Spans...), Settings: append([]api.Setting{}, s.Settings...)}
	}
	out := api.Recipe{Packages: []api.Package{}, Prefers: append([]api.Prefer{}, x.Prefers...)}
	for _, p := range x.Packages {
		q := api.Package{Name: p.Name, Line: p.Line, Releases: append([]api.Release{}, p.Releases...), Variants: append([]api.Variant{}, p.Variants...), Provides: append([]string{}, p.Provides...), Files: append([]string{}, p.Files...), Depends: []api.Depend{}, Conflicts: []api.Conflict{}}
		for _, d := range p.Depends {
			q.Depends = append(q.Depends, api.Depend{On: spec(d.On), When: spec(d.When), Line: d.Line})
		}
		for _, c := range p.Conflicts {
			q.Conflicts = append(q.Conflicts, api.Conflict{When: spec(c.When), With: spec(c.With), Line: c.Line})
		}
		out.Packages = append(out.Packages, q)
	}
	return out
}

func TestParse(t *testing.T) {
	text := strings.Replace(whole, "ssl=on n=1x # not read", "n=1 ssl=on # read", 1) + "  provides mpi\n  provides mpi-3\n  file bin/mpirun\n  version 3\nprefer x a\n  file @=#x\n"
	x, where, err := recipe.Parse(text)
	if err != api.OK || where != (api.Where{}) {
		t.Fatal(where, err)
	}
	want := api.Recipe{
		Packages: []api.Package{
			{
				Name: "app", Line: 4,
				Releases: []api.Release{{Version: "2"}, {Version: "1.rc", Old: true}},
				Variants: []api.Variant{{Name: "ssl", Values: []string{"on", "off"}}, {Name: "n", Values: []string{"1", "02", "003"}}},
				Depends: []api.Depend{
					{On: api.Spec{Name: "zlib", Spans: []api.Span{{Lo: "1"}}, Settings: set("shared=on")}, When: api.Spec{Spans: all(), Settings: set("ssl=on")}, Line: 9},
					{On: api.Spec{Name: "mpi", Spans: all()}, When: api.Spec{Spans: all()}, Line: 10},
					{On: api.Spec{Name: "zlib", Spans: []api.Span{{Lo: "1", Hi: "1"}, {Lo: "2", Hi: "3"}}, Settings: set("a=1", "b=2")}, When: api.Spec{Spans: []api.Span{{Hi: "1"}}, Settings: set("n=1", "ssl=off")}, Line: 11},
					{On: api.Spec{Name: "zlib", Spans: all()}, When: api.Spec{Spans: all()}, Line: 12},
				},
				Conflicts: []api.Conflict{
					{When: api.Spec{Spans: all()}, With: api.Spec{Name: "zlib", Spans: []api.Span{{Lo: "2.0", Hi: "2.0"}}}, Line: 13},
					{When: api.Spec{Spans: []api.Span{{Lo: "1"}}, Settings: set("n=1")}, Line: 14},
					{When: api.Spec{Spans: all(), Settings: set("n=1", "ssl=on")}, Line: 15},
				},
			},
			{Name: "mpich", Line: 16, Provides: []string{"mpi", "mpi-3"}, Releases: []api.Release{{Version: "3"}}, Files: []string{"bin/mpirun", "@="}},
		},
		Prefers: []api.Prefer{{Virtual: "mpi", Names: []string{"mpich", "openmpi"}, Line: 2}, {Virtual: "x", Names: []string{"a"}, Line: 21}},
	}
	if !reflect.DeepEqual(flat(x), flat(want)) {
		t.Errorf("%+v\nnot\n%+v", x, want)
	}
	if x, where, err := recipe.Parse(" # nothing\n\n"); err != api.OK || where != (api.Where{}) || len(x.Packages)+len(x.Prefers) != 0 {
		t.Error(x, where, err)
	}
}

// TestWrong has lines that stand behind "package a", and the byte at which each is wrong.
func TestWrong(t *testing.T) {
	path := strings.Repeat("p", 60)
	tests := []struct {
		line string
		col  int
	}{
		{"", 0},
		{"package", 8}, {"package A", 9}, {"package a b", 11}, {"package a@1", 9}, {"  package", 10}, {"package b ", 0},
		{"Package a", 1}, {"  root a", 3}, {"versions 1", 1}, {"old", 1}, {"when", 1},
		{"version", 8}, {"version 01", 9}, {"version 1 new", 11}, {"version 1 old old", 15}, {"version old", 0}, {"version old old", 0}, {"version 1 2", 11},
		{"variant", 8}, {"variant x", 10}, {"variant X on", 9}, {"variant x on On", 14}, {"variant x 1000", 11}, {"variant x a b c d e f", 0}, {"variant x on on", 0}, {"variant 0 on", 9}, {"variant x a=b", 11},
		{"provides", 9}, {"provides 1", 10}, {"provides m n", 12}, {"provides mpi", 0},
		{"file", 5}, {"file " + path, 0}, {"file " + path + "q", 6}, {"file a b", 8}, {"file @!=~", 0},
		{"prefer", 7}, {"prefer m", 9}, {"prefer m A", 10}, {"prefer m a b=1", 12}, {"prefer m a a m", 0}, {"prefer 1 a", 8},
		{"depends", 8}, {"depends A", 9}, {"depends @1", 9}, {"depends a@", 9}, {"depends a@:", 9}, {"depends a@!", 9}, {"depends a@2,1", 9}, {"depends a@1:1", 9}, {"depends a@1@2", 9}, {"depends a@1=2", 9}, {"depends x=on", 9}, {"depends *", 9},
		{"depends a b", 11}, {"depends a x=on y", 16}, {"depends a x=", 11}, {"depends a =on", 11}, {"depends a x=on x=on", 16}, {"depends a y=on x=on", 16}, {"depends a x=on=on", 11}, {"depends a X=on", 11}, {"depends a x=1000", 11}, {"depends a @1", 11},
		{"depends a when", 15}, {"depends a  when ", 16}, {"depends a when *", 0}, {"depends a when b", 16}, {"depends a when * x=on", 18}, {"depends a when x=on @1", 21}, {"depends a when @1 @2", 19}, {"depends a when @:", 16}, {"depends a when @", 16}, {"depends a when @!", 16}, {"depends a when @1 x=on when", 24}, {"depends a when x=on x=off", 21}, {"depends a when @1=2", 16}, {"depends a when *1", 16}, {"depends a when a@1", 16},
		{"depends when when when=when", 0}, {"depends a when @1", 0},
		{"conflicts", 10}, {"conflicts b", 11}, {"conflicts with b", 11}, {"conflicts * with", 17}, {"conflicts * with B", 18}, {"conflicts * with b", 0}, {"conflicts * b", 13}, {"conflicts * *", 13}, {"conflicts @1: x=on with b@1 y=1", 0}, {"conflicts * with b when x=on", 20}, {"conflicts * when x=on", 13}, {"conflicts @1 with @2", 19}, {"conflicts x=on with b@1 y=1 x=1", 29}, {"conflicts @1 x", 14}, {"conflicts @x1", 11},
	}
	for _, x := range tests {
		for _, ahead := range []string{"package a\n", "package a\n\nprefer v w # more\n"} {
			text := ahead + x.line + "\npackage b\n"
			at := strings.Count(ahead, "\n") + 1
			r, where, err := recipe.Parse(text)
			if x.col == 0 {
				if err != api.OK || where != (api.Where{}) {
					t.Errorf("Parse(%q) is wrong at %v, %v", x.line, where, err)
				}
				continue
			}
			if err != api.ErrParse || where != (api.Where{Line: at, Col: x.col}) || !reflect.DeepEqual(r, api.Recipe{}) {
				t.Errorf("Parse(%q): %v, %v, not at %d", x.line, where, err, x.col)
			}
		}
	}
}

func TestBehindAPackage(t *testing.T) {
	for _, line := range []string{"version 1", "variant x on", "provides m", "depends a", "conflicts *", "file f", "version"} {
		text := "prefer m a\n  " + line + "\npackage a\n"
		x, where, err := recipe.Parse(text)
		if err != api.ErrParse || where != (api.Where{Line: 2, Col: 3}) || !reflect.DeepEqual(x, api.Recipe{}) {
			t.Errorf("%q: %v, %v", text, where, err)
		}
	}
	x, _, err := recipe.Parse("package a\npackage b\nprefer m a\nversion 1\n")
	if err != api.OK || len(x.Packages) != 2 || len(x.Packages[0].Releases) != 0 || len(x.Packages[1].Releases) != 1 {
		t.Error("a line belongs to the last package that began", x, err)
	}
}

func TestTheFirstWrongLine(t *testing.T) {
	if _, where, err := recipe.Parse("package a\nversion 01\nversion 1 2\n"); err != api.ErrParse || where != (api.Where{Line: 2, Col: 9}) {
		t.Error(where, err)
	}
	// What is wrong with the text is told ahead of what is wrong with its words.
	if _, where, err := recipe.Parse("packages\n\tpackage a"); err != api.ErrForm || where != (api.Where{Line: 2, Col: 1}) {
		t.Error(where, err)
	}
	if _, where, err := recipe.Parse(strings.Repeat("x", api.MaxText+1)); err != api.ErrLong || where != (api.Where{}) {
		t.Error(where, err)
	}
	if _, where, err := recipe.Parse(whole); err != api.ErrParse || where != (api.Where{Line: 15, Col: 20}) {
		t.Error(where, err)
	}
}

// words are words as they stand in a line, and where one more would be missing.
func words(line string) ([]api.Word, int) {
	var out []api.Word
	col := 1
	for _, text := range strings.Split(line, " ") {
		if text != "" {
			out = append(out, api.Word{Col: col, Text: text})
		}
		col += len(text) + 1
	}
	return out, len(line) + 1
}

func TestWish(t *testing.T) {
	tests := []struct {
		line  string
		want  api.Spec
		n, at int
	}{
		{"a", api.Spec{Name: "a", Spans: all()}, 1, 0},
		{"a@1: x=on y=2", api.Spec{Name: "a", Spans: []api.Span{{Lo: "1"}}, Settings: set("x=on", "y=2")}, 3, 0},
		{"a x=on when y=2", api.Spec{Name: "a", Spans: all(), Settings: set("x=on")}, 2, 0},
		{"a when x=on", api.Spec{Name: "a", Spans: all()}, 1, 0},
		{"a @1", api.Spec{Name: "a", Spans: all()}, 1, 0},
		{"a A", api.Spec{Name: "a", Spans: all()}, 1, 0},
		{"", api.Spec{}, 0, 1},
		{"A", api.Spec{}, 0, 1},
		{"a  x=on  x=on", api.Spec{}, 0, 10},
		{"a x=on y", api.Spec{Name: "a", Spans: all(), Settings: set("x=on")}, 2, 0},
		{"a b=", api.Spec{}, 0, 3},
		{"a@: b=", api.Spec{}, 0, 1},
		{"*", api.Spec{}, 0, 1},
	}
	for _, x := range tests {
		w, end := words(x.line)
		s, n, at := recipe.Wish(w, end)
		if !sameSpec(s, x.want) || n != x.n || at != x.at {
			t.Errorf("Wish(%q) = %+v, %d, %d", x.line, s, n, at)
		}
	}
	if _, _, at := recipe.Wish(nil, 17); at != 17 {
		t.Error("a wish of no words is wrong at the end:", at)
	}
}

func TestCondition(t *testing.T) {
	tests := []struct {
		line  string
		want  api.Spec
		n, at int
	}{
		{"*", api.Spec{Spans: all()}, 1, 0},
		{"* x=on", api.Spec{Spans: all()}, 1, 0},
		{"@1,3: x=on y=2 with b", api.Spec{Spans: []api.Span{{Lo: "1", Hi: "1"}, {Lo: "3"}}, Settings: set("x=on", "y=2")}, 3, 0},
		{"@1", api.Spec{Spans: []api.Span{{Lo: "1", Hi: "1"}}}, 1, 0},
		{"@1 @2", api.Spec{Spans: []api.Span{{Lo: "1", Hi: "1"}}}, 1, 0},
		{"x=on", api.Spec{Spans: all(), Settings: set("x=on")}, 1, 0},
		{"x=on *", api.Spec{Spans: all(), Settings: set("x=on")}, 1, 0},
		{"", api.Spec{}, 0, 1},
		{"with", api.Spec{}, 0, 1},
		{"@", api.Spec{}, 0, 1},
		{"@:", api.Spec{}, 0, 1},
		{"@!", api.Spec{}, 0, 1},
		{"@1  y=1 x=1", api.Spec{}, 0, 9},
		{"x=", api.Spec{}, 0, 1},
		{"a@1", api.Spec{}, 0, 1},
		{"**", api.Spec{}, 0, 1},
	}
	for _, x := range tests {
		w, end := words(x.line)
		s, n, at := recipe.Condition(w, end)
		if !sameSpec(s, x.want) || n != x.n || at != x.at {
			t.Errorf("Condition(%q) = %+v, %d, %d", x.line, s, n, at)
		}
	}
	if _, _, at := recipe.Condition([]api.Word{}, 5); at != 5 {
		t.Error("a condition of no words is wrong at the end:", at)
	}
}

func sameSpec(a, b api.Spec) bool {
	return a.Name == b.Name && len(a.Spans) == len(b.Spans) && len(a.Settings) == len(b.Settings) &&
		(len(a.Spans) == 0 || reflect.DeepEqual(a.Spans, b.Spans)) && (len(a.Settings) == 0 || reflect.DeepEqual(a.Settings, b.Settings))
}

func TestAnyWordsEnd(t *testing.T) {
	for _, w := range []api.Word{{}, {Col: -5, Text: "a"}, {Col: 0, Text: "x=on"}, {Col: 1 << 62, Text: "\xff=\x00"}, {Text: "a b"}, {Text: "@"}} {
		for _, end := range []int{0, -1, 1 << 62} {
			recipe.Wish([]api.Word{w, w}, end)
			recipe.Condition([]api.Word{w, w, w}, end)
		}
	}
}

func TestWordsAreNotKept(t *testing.T) {
	w, end := words("a@1 x=on")
	kept := append([]api.Word{}, w...)
	s, _, _ := recipe.Wish(w, end)
	if !reflect.DeepEqual(w, kept) {
		t.Error("what was handed in is changed")
	}
	w[1].Text = "y=on"
	if s.Settings[0].Name != "x" {
		t.Error("what was handed in is kept")
	}
}

func TestListsAreApart(t *testing.T) {
	text := "package a\ndepends b\ndepends b x=on when x=on\nconflicts *\n"
	x, _, _ := recipe.Parse(text)
	d := x.Packages[0].Depends
	d[0].On.Spans[0] = api.Span{Lo: "9"}
	d[1].When.Spans[0] = api.Span{Lo: "8"}
	d[1].When.Settings[0].Name = "y"
	if d[0].When.Spans[0] != (api.Span{}) || d[1].On.Spans[0] != (api.Span{}) || d[1].On.Settings[0].Name != "x" || x.Packages[0].Conflicts[0].When.Spans[0] != (api.Span{}) {
		t.Error("lists of one recipe share their memory")
	}
	if y, _, _ := recipe.Parse(text); y.Packages[0].Depends[0].On.Spans[0] != (api.Span{}) {
		t.Error("lists of two recipes share their memory")
	}
}

func FuzzParse(f *testing.F) {
	f.Add(whole)
	f.Add("package a\ndepends a@1 x=1 when *")
	f.Fuzz(func(t *testing.T, text string) {
		x, where, err := recipe.Parse(text)
		if err == api.OK && where != (api.Where{}) || err != api.OK && !reflect.DeepEqual(x, api.Recipe{}) {
			t.Error(x, where, err)
		}
	})
}
