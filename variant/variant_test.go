package variant_test

import (
	"math/rand"
	"slices"
	"strconv"
	"strings"
	"testing"

	"cooper/api"
	"cooper/variant"
)

func v(name string, values ...string) api.Variant { return api.Variant{Name: name, Values: values} }

// set are settings, each written as name=value.
func set(words ...string) []api.Setting {
	var out []api.Setting
	for _, w := range words {
		name, value, _ := strings.Cut(w, "=")
		out = append(out, api.Setting{Name: name, Value: value})
	}
	return out
}

func TestNamesAndValues(t *testing.T) {
	names := []string{"a", "z", "a0", "a-", "x--9", "zlib-ng", strings.Repeat("a", 24), "a-z", "m0123456789"}
	for _, s := range names {
		if !variant.Name(s) || !variant.Value(s) {
			t.Errorf("%q is a name", s)
		}
	}
	numbers := []string{"0", "9", "00", "007", "10", "999"}
	for _, s := range numbers {
		if variant.Name(s) || !variant.Value(s) {
			t.Errorf("%q may be a value, and is no name", s)
		}
	}
	for _, s := range []string{"", "-", "-a", "0a", "1-", "A", "aB", "a_b", "a b", "a.b", " a", "a\n", "é", "aé", "a=b", "1000", "1.0", "+1", "-1", "1 ", strings.Repeat("a", 25), "\x00", "a\x00", "`", "a{", "a/", "a:", "12é", "@"} {
		if variant.Name(s) || variant.Value(s) {
			t.Errorf("%q is neither", s)
		}
	}
}

func TestMay(t *testing.T) {
	good := [][]api.Variant{
		nil,
		{v("x", "on")},
		{v("x", "on", "off"), v("y", "1", "2")},
		{v("x", "a", "b", "c", "0")},
		{v("d", "1"), v("c", "1"), v("b", "1"), v("a", "1")},
		{v("x", "x"), v("y", "x")},
		{v("x", "0", "00", "000")},
	}
	for _, l := range good {
		if !variant.May(l) {
			t.Errorf("May(%v)", l)
		}
	}
	bad := [][]api.Variant{
		{v("x")},
		{v("", "on")},
		{v("0", "on")},
		{v("x", "")},
		{v("x", "on", "On")},
		{v("x", "on", "off", "on")},
		{v("x", "a", "b", "c", "d", "e")},
		{v("x", "on"), v("y")},
		{v("x", "on"), v("y", "1"), v("x", "on")},
		{v("x", "on"), v("x", "off")},
		{v("a", "1"), v("b", "1"), v("c", "1"), v("d", "1"), v("e", "1")},
		{v("x", "1000")},
	}
	for _, l := range bad {
		if variant.May(l) {
			t.Errorf("May(%v)", l)
		}
		if rows := variant.All(l); len(rows) != 0 {
			t.Errorf("All(%v) = %v", l, rows)
		}
	}
}

func TestUsual(t *testing.T) {
	l := []api.Variant{v("y", "2", "1"), v("none"), v("x", "on", "off"), v("?", "!"), v("x", "off")}
	if s := variant.Usual(l); !slices.Equal(s, set("y=2", "x=on", "?=!", "x=off")) {
		t.Error(s)
	}
	if len(variant.Usual(nil)) != 0 {
		t.Error("the usual settings of none")
	}
}

func TestLegal(t *testing.T) {
	l := []api.Variant{v("x", "on", "off"), v("a", "1", "2")}
	for _, s := range [][]api.Setting{set("x=on", "a=1"), set("x=off", "a=2")} {
		if !variant.Legal(l, s) {
			t.Errorf("Legal(%v)", s)
		}
	}
	for _, s := range [][]api.Setting{nil, set("x=on"), set("a=1", "x=on"), set("x=on", "a=3"), set("x=on", "a=1", "a=1"), set("x=on", "b=1"), set("x=", "a=1"), set("x=on", "x=on"), set("x=1", "a=on")} {
		if variant.Legal(l, s) {
			t.Errorf("Legal(%v)", s)
		}
	}
	if !variant.Legal(nil, nil) || !variant.Legal(nil, []api.Setting{}) || variant.Legal(nil, set("x=on")) || variant.Legal([]api.Variant{v("x")}, set("x=")) {
		t.Error("Legal of none")
	}
}

func TestWish(t *testing.T) {
	for _, s := range [][]api.Setting{nil, set("x=on"), set("a=1", "b=1", "c=x"), set("a=1", "a-=1", "a0=1", "aa=1")} {
		if !variant.Wish(s) {
			t.Errorf("Wish(%v)", s)
		}
	}
	for _, s := range [][]api.Setting{set("b=1", "a=1"), set("a=1", "a=1"), set("a=1", "a=2"), set("A=1"), set("a="), set("=1"), set("a=1000"), set("a=1", "b=?"), set("0=1")} {
		if variant.Wish(s) {
			t.Errorf("Wish(%v)", s)
		}
	}
}

func TestMeets(t *testing.T) {
	s := set("x=on", "a=1")
	for _, w := range [][]api.Setting{nil, set("x=on"), set("a=1"), set("a=1", "x=on")} {
		if !variant.Meets(s, w) {
			t.Errorf("Meets(%v, %v)", s, w)
		}
	}
	for _, w := range [][]api.Setting{set("x=off"), set("a=1", "x=off"), set("a=1", "b=1"), set("on=x"), set("x=1")} {
		if variant.Meets(s, w) {
			t.Errorf("Meets(%v, %v)", s, w)
		}
	}
	if !variant.Meets(nil, nil) || variant.Meets(nil, set("x=on")) {
		t.Error("Meets of none")
	}
}

func TestBothExamples(t *testing.T) {
	tests := []struct {
		a, b, want []api.Setting
		ok         bool
	}{
		{nil, nil, nil, true},
		{set("x=on"), nil, set("x=on"), true},
		{set("x=on"), set("x=on"), set("x=on"), true},
		{set("x=on"), set("x=off"), nil, false},
		{set("b=1", "d=1"), set("a=1", "c=1", "d=1"), set("a=1", "b=1", "c=1", "d=1"), true},
		{set("b=1", "a=1"), nil, nil, false},
		{nil, set("b=1", "a=1"), nil, false},
		{set("x=!"), nil, nil, false},
		{nil, set("X=1"), nil, false},
		{set("a=1", "z=1"), set("z=2"), nil, false},
	}
	for _, x := range tests {
		a, b := slices.Clone(x.a), slices.Clone(x.b)
		out, ok := variant.Both(x.a, x.b)
		if ok != x.ok || !slices.Equal(out, x.want) {
			t.Errorf("Both(%v, %v) = %v, %v", a, b, out, ok)
		}
		for i := range out {
			out[i] = api.Setting{}
		}
		if !slices.Equal(a, x.a) || !slices.Equal(b, x.b) {
			t.Errorf("Both(%v, %v) shares its memory, or changed it", a, b)
		}
	}
}

// TestBoth is P4.2.
func TestBoth(t *testing.T) {
	l := []api.Variant{v("a", "1", "2"), v("b", "1", "2", "3"), v("c", "1", "2")}
	r := rand.New(rand.NewSource(1))
	random := func() []api.Setting {
		var out []api.Setting
		for _, name := range []string{"a", "b", "c", "d"} {
			if r.Intn(3) == 0 {
				out = append(out, api.Setting{Name: name, Value: strconv.Itoa(1 + r.Intn(3))})
			}
		}
		return out
	}
	all := variant.All(l)
	for range 2000 {
		a, b := random(), random()
		both, ok := variant.Both(a, b)
		if ok && !variant.Wish(both) || !ok && len(both) > 0 {
			t.Fatalf("Both(%v, %v) = %v, %v", a, b, both, ok)
		}
		for _, s := range all {
			if want := variant.Meets(s, a) && variant.Meets(s, b); want != (ok && variant.Meets(s, both)) {
				t.Fatalf("Both(%v, %v) = %v, %v: %v", a, b, both, ok, s)
			}
		}
	}
}

func TestAll(t *testing.T) {
	l := []api.Variant{v("x", "on", "off"), v("a", "1", "2", "3")}
	want := [][]api.Setting{set("x=on", "a=1"), set("x=off", "a=1"), set("x=on", "a=2"), set("x=off", "a=2"), set("x=on", "a=3"), set("x=off", "a=3")}
	got := variant.All(l)
	if !slices.EqualFunc(got, want, slices.Equal) {
		t.Errorf("%v, not %v", got, want)
	}
	got[0] = append(got[0][:1], api.Setting{Name: "b", Value: "7"})
	got[1][1].Value = "9"
	if got[2][0] != (api.Setting{Name: "x", Value: "on"}) || !slices.EqualFunc(variant.All(l), want, slices.Equal) {
		t.Error("settings share their memory")
	}
	if rows := variant.All(nil); len(rows) != 1 || len(rows[0]) != 0 {
		t.Errorf("without variants there is one row, of none: %v", rows)
	}
	four := []string{"1", "2", "3", "4"}
	if rows := variant.All([]api.Variant{v("a", four...), v("b", four...), v("c", four...), v("d", four...)}); len(rows) != 256 || !slices.Equal(rows[255], set("a=4", "b=4", "c=4", "d=4")) || !slices.Equal(rows[4], set("a=1", "b=2", "c=1", "d=1")) {
		t.Errorf("%d rows", len(rows))
	}
}

func TestUnusual(t *testing.T) {
	l := []api.Variant{v("x", "on", "off"), v("y", "1", "2"), v("z"), v("x", "auto")}
	tests := []struct {
		s    []api.Setting
		want int
	}{
		{nil, 0},
		{set("x=on", "y=1"), 0},
		{set("x=off", "y=1"), 1},
		{set("x=off", "y=2"), 2},
		{set("x=auto"), 0},
		{set("z="), 1},
		{set("w=1"), 1},
		{set("y=2", "y=2", "y=1"), 2},
		{set("y=on"), 1},
	}
	for _, x := range tests {
		if n := variant.Unusual(l, x.s); n != x.want {
			t.Errorf("Unusual(%v) = %d, not %d", x.s, n, x.want)
		}
	}
	if variant.Unusual(nil, set("x=on")) != 1 || variant.Unusual(nil, nil) != 0 {
		t.Error("Unusual of none")
	}
}
