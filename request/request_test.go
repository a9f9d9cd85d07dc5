package request_test

import (
	"math/rand"
	"reflect"
	"slices"
	"strconv"
	"strings"
	"testing"

	"cooper/api"
	"cooper/request"
)

func all() []api.Span { return []api.Span{{}} }

func set(words ...string) []api.Setting {
	var out []api.Setting
	for _, w := range words {
		name, value, _ := strings.Cut(w, "=")
		out = append(out, api.Setting{Name: name, Value: value})
	}
	return out
}

func TestParse(t *testing.T) {
	q, where, err := request.Parse("# asked for\n\nroot a@1: x=on # one\n  root  b\nroot root\nroot a@1,3\n")
	want := []api.Root{
		{Spec: api.Spec{Name: "a", Spans: []api.Span{{Lo: "1"}}, Settings: set("x=on")}, Line: 3},
		{Spec: api.Spec{Name: "b", Spans: all()}, Line: 4},
		{Spec: api.Spec{Name: "root", Spans: all()}, Line: 5},
		{Spec: api.Spec{Name: "a", Spans: []api.Span{{Lo: "1", Hi: "1"}, {Lo: "3", Hi: "3"}}}, Line: 6},
	}
	if err != api.OK || where != (api.Where{}) || !request.Same(q, api.Request{Roots: want}) {
		t.Fatal(q, where, err)
	}
	for i, r := range q.Roots {
		if r.Line != want[i].Line {
			t.Error(r)
		}
	}
	if q, where, err := request.Parse(""); err != api.OK || where != (api.Where{}) || len(q.Roots) != 0 {
		t.Error(q, where, err)
	}
}

func TestWrong(t *testing.T) {
	tests := []struct {
		text string
		at   api.Where
		err  api.Errno
	}{
		{"root", api.Where{Line: 1, Col: 5}, api.ErrParse},
		{"  root ", api.Where{Line: 1, Col: 7}, api.ErrParse},
		{"root a\nroots b", api.Where{Line: 2, Col: 1}, api.ErrParse},
		{"a", api.Where{Line: 1, Col: 1}, api.ErrParse},
		{" Root a", api.Where{Line: 1, Col: 2}, api.ErrParse},
		{"root A", api.Where{Line: 1, Col: 6}, api.ErrParse},
		{"root a b", api.Where{Line: 1, Col: 8}, api.ErrParse},
		{"root a x=on b", api.Where{Line: 1, Col: 13}, api.ErrParse},
		{"root a x=on x=on", api.Where{Line: 1, Col: 13}, api.ErrParse},
		{"root a@: x=on", api.Where{Line: 1, Col: 6}, api.ErrParse},
		{"root a when x=on", api.Where{Line: 1, Col: 8}, api.ErrParse},
		{"root a\n\nroot @1", api.Where{Line: 3, Col: 6}, api.ErrParse},
		{"root A\nroot \t", api.Where{Line: 2, Col: 6}, api.ErrForm},
		{strings.Repeat("root a\n", 2001), api.Where{Line: 2001, Col: 1}, api.ErrLong},
		{strings.Repeat(" ", api.MaxText+1), api.Where{}, api.ErrLong},
	}
	for _, x := range tests {
		q, where, err := request.Parse(x.text)
		if err != x.err || where != x.at || !reflect.DeepEqual(q, api.Request{}) {
			t.Errorf("Parse(%.40q): %v, %v, not %v, %v", x.text, where, err, x.at, x.err)
		}
	}
}

func root(s api.Spec) api.Root { return api.Root{Spec: s} }

// settings are n settings whose names rise.
func settings(n int) []api.Setting {
	var out []api.Setting
	for i := range n {
		out = append(out, api.Setting{Name: "s" + strconv.Itoa(100+i), Value: "1"})
	}
	return out
}

func TestText(t *testing.T) {
	a := root(api.Spec{Name: "a", Spans: all()})
	tests := []struct {
		q    api.Request
		want string
		ok   bool
	}{
		{api.Request{}, "", true},
		{api.Request{Roots: []api.Root{a, a}}, "root a\nroot a\n", true},
		{api.Request{Roots: []api.Root{root(api.Spec{Name: "b", Spans: []api.Span{{Lo: "1"}}, Settings: set("x=on", "y=1")}), a}}, "root b@1: x=on y=1\nroot a\n", true},
		{api.Request{Roots: []api.Root{a, {}}}, "", false},
		{api.Request{Roots: []api.Root{root(api.Spec{Name: "a"})}}, "", false},
		{api.Request{Roots: []api.Root{root(api.Spec{Name: "a\nroot b", Spans: all()})}}, "", false},
		{api.Request{Roots: []api.Root{root(api.Spec{Name: "a", Spans: all(), Settings: set("y=1", "x=1")})}}, "", false},
		{api.Request{Roots: []api.Root{root(api.Spec{Name: "a", Spans: []api.Span{{}, {Lo: "1"}}})}}, "", false},
		{api.Request{Roots: slices.Repeat([]api.Root{a}, 2000)}, strings.Repeat("root a\n", 2000), true},
		{api.Request{Roots: slices.Repeat([]api.Root{a}, 2001)}, "", false},
		{api.Request{Roots: []api.Root{root(api.Spec{Name: "a", Spans: all(), Settings: settings(39)})}}, "", false},
		{api.Request{Roots: slices.Repeat([]api.Root{root(api.Spec{Name: "a", Spans: all(), Settings: settings(38)})}, 300)}, "", false},
	}
	for _, x := range tests {
		if text, ok := request.Text(x.q); text != x.want || ok != x.ok {
			t.Errorf("Text(%.100v) = %.100q, %v", x.q, text, ok)
		}
	}
	if _, ok := request.Text(api.Request{Roots: []api.Root{root(api.Spec{Name: "a", Spans: all(), Settings: settings(38)})}}); !ok {
		t.Error("forty words are not too many")
	}
}

func TestSame(t *testing.T) {
	q, _, _ := request.Parse("root a@1 x=on\nroot b\n")
	lines, _, _ := request.Parse("\n\nroot a@1 x=on\n\nroot b")
	if !request.Same(q, lines) || !request.Same(api.Request{}, api.Request{Roots: []api.Root{}}) {
		t.Error("lines play a part")
	}
	for _, text := range []string{"", "root a@1 x=on", "root b\nroot a@1 x=on", "root a@1 x=on\nroot c", "root a@1: x=on\nroot b", "root a@1 x=off\nroot b", "root a@1\nroot b", "root a@1 x=on\nroot b\nroot b"} {
		if other, _, err := request.Parse(text); err != api.OK || request.Same(q, other) || request.Same(other, q) {
			t.Errorf("%q is the same, or %v", text, err)
		}
	}
}

// TestThereAndBack is P8.2.
func TestThereAndBack(t *testing.T) {
	r := rand.New(rand.NewSource(8))
	pick := func(l ...string) string { return l[r.Intn(len(l))] }
	for range 500 {
		var text strings.Builder
		for range r.Intn(5) {
			text.WriteString("root  " + pick("a", "b-1", "c") + pick("", "@1", "@:1,2:", "@1.rc:3") + pick("", " x=on", "  x=on y=007") + pick("\n", " # it\n\n"))
		}
		q, where, err := request.Parse(text.String())
		if err != api.OK {
			t.Fatal(text.String(), where, err)
		}
		kept, _, _ := request.Parse(text.String())
		written, ok := request.Text(q)
		back, _, err := request.Parse(written)
		if !ok || err != api.OK || !request.Same(back, q) || !reflect.DeepEqual(q, kept) {
			t.Fatalf("%q is written as %q", text.String(), written)
		}
	}
}

func FuzzParse(f *testing.F) {
	f.Add("root a@1: x=on")
	f.Fuzz(func(t *testing.T, text string) {
		q, where, err := request.Parse(text)
		if err != api.OK {
			if len(q.Roots) != 0 {
				t.Error(q, where, err)
			}
			return
		}
		written, ok := request.Text(q)
		back, _, err := request.Parse(written)
		if ok && (err != api.OK || !request.Same(back, q)) {
			t.Errorf("%q is written as %q", text, written)
		}
	})
}
