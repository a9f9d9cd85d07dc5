package spans_test

import (
	"math/rand"
	"slices"
	"strconv"
	"testing"

	"cooper/api"
	"cooper/span"
	"cooper/spans"
)

var versions = []string{"a", "0.rc", "0", "0.1", "1.rc", "1", "1.0", "1.5", "2", "2.0", "3", "4.a", "4", "5", "10", "11"}

func s(lo, hi string) api.Span { return api.Span{Lo: lo, Hi: hi} }

// set is the spans of some bounds: each two of the row one.
func set(bounds ...string) []api.Span {
	var out []api.Span
	for i := 0; i < len(bounds); i += 2 {
		out = append(out, s(bounds[i], bounds[i+1]))
	}
	return out
}

// row is n spans that don't meet: 10, 20, ..
func row(n int) []api.Span {
	var out []api.Span
	for i := range n {
		v := strconv.Itoa(10 * (i + 1))
		out = append(out, s(v, v))
	}
	return out
}

func has(l []api.Span, v string) bool {
	for _, x := range l {
		if span.Has(x, v) {
			return true
		}
	}
	return false
}

func inForm(l []api.Span) bool {
	for i, x := range l {
		if !span.May(x) {
			return false
		}
		for k := range i {
			if span.Joins(l[k], x) || !span.Within(s(x.Lo, ""), s(l[k].Lo, "")) {
				return false
			}
		}
	}
	return len(l) <= api.MaxSpans
}

func random(r *rand.Rand) []api.Span {
	bounds := []string{"", "", "a", "0", "1", "1.0", "2", "3", "4", "5", "10"}
	var out []api.Span
	for range r.Intn(5) {
		x := s(bounds[r.Intn(len(bounds))], bounds[r.Intn(len(bounds))])
		if !span.May(x) && r.Intn(20) > 0 {
			x.Lo, x.Hi = x.Hi, x.Lo
		}
		out = append(out, x)
	}
	return out
}

func allMay(l []api.Span) bool {
	return !slices.ContainsFunc(l, func(x api.Span) bool { return !span.May(x) })
}

func TestForm(t *testing.T) {
	tests := []struct {
		in, want []api.Span
		ok       bool
	}{
		{nil, nil, true},
		{set("1", "2", "2", "3", "5", "5"), set("1", "3", "5", "5"), true},
		{set("5", "5", "2", "3", "1", "2"), set("1", "3", "5", "5"), true},
		{set("1", "2", "2.0", "3"), set("1", "2", "2.0", "3"), true},
		{set("3", "4", "", "1"), set("", "1", "3", "4"), true},
		{set("1", "10", "2", "3", "4", "5"), set("1", "10"), true},
		{set("1", "2", "3", "4", "2", "3"), set("1", "4"), true},
		{set("", "1", "1", ""), set("", ""), true},
		{set("1", "", "", ""), set("", ""), true},
		{set("2", "1"), nil, false},
		{set("1", "2", "x1", ""), nil, false},
		{set("", "", "2", "1"), nil, false},
		{row(16), row(16), true},
		{row(17), nil, false},
		{append(row(17), s("20", "30")), append(append(set("10", "10"), s("20", "30")), row(17)[3:]...), true},
		{append(row(40), s("", "")), set("", ""), true},
	}
	for _, x := range tests {
		kept := slices.Clone(x.in)
		out, ok := spans.Form(x.in)
		if ok != x.ok || !slices.Equal(out, x.want) {
			t.Errorf("Form(%q) = %q, %v, not %q", x.in, out, ok, x.want)
		}
		for i := range out {
			out[i] = s("7", "7")
		}
		if !slices.Equal(x.in, kept) {
			t.Errorf("Form(%q) shares its memory, or changed it", kept)
		}
	}
}

// TestSets is P3.2.
func TestSets(t *testing.T) {
	r := rand.New(rand.NewSource(3))
	for range 4000 {
		a, b := random(r), random(r)
		keptA, keptB := slices.Clone(a), slices.Clone(b)
		form, ok := spans.Form(a)
		union, meet := spans.Union(a, b), spans.Meet(a, b)
		if ok != allMay(a) {
			t.Fatalf("Form(%q): %v", a, ok)
		}
		both := allMay(a) && allMay(b)
		for _, v := range versions {
			inA, inB := has(a, v), has(b, v)
			if spans.Has(a, v) != inA {
				t.Fatalf("Has(%q, %q)", a, v)
			}
			if ok && has(form, v) != inA {
				t.Fatalf("Form(%q) = %q", a, form)
			}
			if has(union, v) != (both && (inA || inB)) {
				t.Fatalf("Union(%q, %q) = %q", a, b, union)
			}
			if has(meet, v) != (both && inA && inB) {
				t.Fatalf("Meet(%q, %q) = %q", a, b, meet)
			}
		}
		if !inForm(form) || !inForm(union) || !inForm(meet) {
			t.Fatalf("%q, %q: %q, %q, %q", a, b, form, union, meet)
		}
		if !both && len(union)+len(meet) > 0 {
			t.Fatalf("%q, %q: %q, %q", a, b, union, meet)
		}
		if !slices.Equal(a, keptA) || !slices.Equal(b, keptB) {
			t.Fatal("what was handed in is changed")
		}
	}
}

func TestWithoutForm(t *testing.T) {
	if l := spans.Union(row(17), set("", "")); len(l) != 0 {
		t.Errorf("a union with a set without a form: %q", l)
	}
	if l := spans.Union(set("", ""), row(17)); len(l) != 0 {
		t.Errorf("a union with a set without a form: %q", l)
	}
	if l := spans.Meet(row(17), set("10", "10")); len(l) != 0 {
		t.Errorf("what is in both: %q", l)
	}
	if l := spans.Meet(set("10", "10"), row(17)); len(l) != 0 {
		t.Errorf("what is in both: %q", l)
	}
	low, high := row(16), row(20)[10:]
	if l := spans.Union(low[:8], high[:8]); len(l) != 16 {
		t.Errorf("a union of 16: %q", l)
	}
	if l := spans.Union(low[:8], high[:9]); len(l) != 0 {
		t.Errorf("a union of 17: %q", l)
	}
	// Two rows of bounds, shifted against each other, have more in common than each has.
	var a, b []api.Span
	for i := range 16 {
		a = append(a, s(strconv.Itoa(10*i), strconv.Itoa(10*i+8)))
		b = append(b, s(strconv.Itoa(10*i+5), strconv.Itoa(10*i+12)))
	}
	if l := spans.Meet(a, b); len(l) != 0 {
		t.Errorf("what is in both: %q", l)
	}
	if l := spans.Meet(a[:8], b[:8]); len(l) != 15 {
		t.Errorf("what is in both: %q", l)
	}
	if spans.Has(set("2", "1"), "1") || !spans.Has(set("2", "1", "1", "1"), "1") || spans.Has(set("", ""), "01") || spans.Has(nil, "1") {
		t.Error("Has")
	}
}

func TestText(t *testing.T) {
	tests := []struct {
		in   []api.Span
		text string
	}{
		{nil, "!"},
		{set("", ""), ":"},
		{set("1", "2", "2", "3", "5", "5"), "1:3,5"},
		{set("5", "", "", "1.rc"), ":1.rc,5:"},
		{set("2", "1"), ""},
		{row(17), ""},
		{row(3), "10,20,30"},
	}
	for _, x := range tests {
		if text := spans.Text(x.in); text != x.text {
			t.Errorf("Text(%q) = %q, not %q", x.in, text, x.text)
		}
	}
}

// TestThereAndBack is P3.3.
func TestThereAndBack(t *testing.T) {
	r := rand.New(rand.NewSource(4))
	for range 2000 {
		l := random(r)
		text := spans.Text(l)
		back, ok := spans.Read(text)
		form, may := spans.Form(l)
		if ok != may || !slices.Equal(back, form) {
			t.Fatalf("Read(%q) = %q, %v", text, back, ok)
		}
		if ok && spans.Text(back) != text {
			t.Fatalf("%q is written as %q", text, spans.Text(back))
		}
	}
	for _, text := range []string{"!", ":", "1", "1,2", "1:2,2.0:3", ":1,1.0:", spans.Text(row(16))} {
		if l, ok := spans.Read(text); !ok || spans.Text(l) != text {
			t.Errorf("Read(%q) = %q, %v", text, l, ok)
		}
	}
	for _, text := range []string{"", ",", "1,", ",1", "2,1", "1,1", "1:2,2:3", "1:2,2", ":,1", "1,:", "!,1", "1,!", "!!", "1:1", "1, 2", "1;2", "1,2,", "x1", "1:3,2", "3:,1", spans.Text(row(16)) + ",500"} {
		if l, ok := spans.Read(text); ok || len(l) != 0 {
			t.Errorf("Read(%q) = %q, %v", text, l, ok)
		}
	}
}

func TestAll(t *testing.T) {
	in := []string{"3", "1", "01", "2", "1", "2.0", ""}
	kept := slices.Clone(in)
	out := spans.All(set("1", "2"), in)
	if !slices.Equal(out, []string{"1", "2", "1"}) {
		t.Error(out)
	}
	out[0] = "x"
	if !slices.Equal(in, kept) {
		t.Error("what was handed in is changed")
	}
	if l := spans.All(set("", ""), in); !slices.Equal(l, []string{"3", "1", "2", "1", "2.0"}) {
		t.Error(l)
	}
	if len(spans.All(nil, in)) != 0 || len(spans.All(set("", ""), nil)) != 0 {
		t.Error("All of none")
	}
}

func TestSame(t *testing.T) {
	tests := []struct {
		a, b []api.Span
		want bool
	}{
		{nil, nil, true},
		{nil, []api.Span{}, true},
		{set("1", "2", "2", "3"), set("1", "3"), true},
		{set("3", "4", "1", "2"), set("1", "2", "3", "4"), true},
		{set("1", "2"), set("1", "3"), false},
		{set("1", "2"), nil, false},
		{set("2", "1"), nil, false},
		{nil, set("2", "1"), false},
		{set("2", "1"), row(17), true},
		{row(17), set("1", "1"), false},
	}
	for _, x := range tests {
		if spans.Same(x.a, x.b) != x.want {
			t.Errorf("Same(%q, %q) = %v", x.a, x.b, !x.want)
		}
	}
}

func TestReadIsNew(t *testing.T) {
	l, _ := spans.Read("1,2")
	l[0] = s("9", "9")
	if again, _ := spans.Read("1,2"); again[0] != s("1", "1") {
		t.Error(again)
	}
	a := set("1", "2")
	u, m := spans.Union(a, nil), spans.Meet(a, a)
	u[0], m[0] = s("9", "9"), s("9", "9")
	if a[0] != s("1", "2") {
		t.Error("what is answered is the memory that was handed in")
	}
}
