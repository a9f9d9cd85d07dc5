package span_test

import (
	"testing"

	"cooper/api"
	"cooper/span"
	"cooper/version"
)

// versions stand in order.
var versions = []string{"a.a", "a", "a.0", "b", "0.rc", "0", "1.rc", "1", "1.0", "1.2", "1.10", "2", "2.0", "10", "999999999"}

// wrong is what is no version.
var wrong = []string{" ", "01", "1.", "A", "1:2", ",", ":", "\xff"}

func some() []api.Span {
	bounds := []string{"", "a", "0", "1.rc", "1", "1.0", "1.10", "2"}
	var out []api.Span
	for _, lo := range bounds {
		for _, hi := range bounds {
			out = append(out, api.Span{Lo: lo, Hi: hi})
		}
	}
	for _, w := range wrong {
		out = append(out, api.Span{Lo: w}, api.Span{Hi: w}, api.Span{Lo: w, Hi: w}, api.Span{Lo: "1", Hi: w}, api.Span{Lo: w, Hi: "2"})
	}
	return out
}

// may and has are said anew here, of the words of the chapter alone.
func may(s api.Span) bool {
	for _, b := range []string{s.Lo, s.Hi} {
		if b != "" && !version.May(b) {
			return false
		}
	}
	return s.Lo == "" || s.Hi == "" || version.Compare(s.Hi, s.Lo) >= 0
}

func has(s api.Span, v string) bool {
	return may(s) && version.May(v) && (s.Lo == "" || version.Compare(v, s.Lo) >= 0) && (s.Hi == "" || version.Compare(s.Hi, v) >= 0)
}

func TestMayAndHas(t *testing.T) {
	for _, s := range some() {
		if span.May(s) != may(s) {
			t.Errorf("May(%q) = %v", s, !may(s))
		}
		for _, v := range append(versions, wrong...) {
			if span.Has(s, v) != has(s, v) {
				t.Errorf("Has(%q, %q) = %v", s, v, !has(s, v))
			}
		}
		if span.Has(s, "") {
			t.Errorf("Has(%q, nothing)", s)
		}
	}
}

func TestExample(t *testing.T) {
	s := api.Span{Lo: "1", Hi: "2"}
	for v, want := range map[string]bool{"1": true, "1.5": true, "2": true, "2.0": false, "1.rc": false, "2.rc": true, "0": false, "3": false} {
		if span.Has(s, v) != want {
			t.Errorf("Has(1:2, %s) = %v", v, !want)
		}
	}
}

// TestMeet is P2.3.
func TestMeet(t *testing.T) {
	for _, a := range some() {
		for _, b := range some() {
			m, ok := span.Meet(a, b)
			if ok != span.Joins(a, b) {
				t.Fatalf("Meet and Joins of %q, %q", a, b)
			}
			if !ok && m != (api.Span{}) {
				t.Fatalf("Meet(%q, %q) = %q, and false", a, b, m)
			}
			both := false
			for _, v := range versions {
				in := has(a, v) && has(b, v)
				both = both || in
				if in != (ok && has(m, v)) {
					t.Fatalf("Meet(%q, %q) = %q, %v: %s", a, b, m, ok, v)
				}
			}
			if both && !ok || ok && !may(m) || ok && (!may(a) || !may(b)) {
				t.Fatalf("Meet(%q, %q) = %q, %v", a, b, m, ok)
			}
		}
	}
	tests := []struct {
		a, b, want api.Span
		ok         bool
	}{
		{api.Span{}, api.Span{}, api.Span{}, true},
		{api.Span{Lo: "1"}, api.Span{Hi: "1"}, api.Span{Lo: "1", Hi: "1"}, true},
		{api.Span{Lo: "1.0"}, api.Span{Hi: "1"}, api.Span{}, false},
		{api.Span{Lo: "1", Hi: "3"}, api.Span{Lo: "2", Hi: "4"}, api.Span{Lo: "2", Hi: "3"}, true},
		{api.Span{Lo: "1", Hi: "4"}, api.Span{Lo: "2", Hi: "3"}, api.Span{Lo: "2", Hi: "3"}, true},
		{api.Span{Lo: "1", Hi: "2"}, api.Span{Lo: "2.0", Hi: "3"}, api.Span{}, false},
		{api.Span{Lo: "2", Hi: "1"}, api.Span{}, api.Span{}, false},
		{api.Span{}, api.Span{Lo: "x1"}, api.Span{}, false},
		{api.Span{}, api.Span{Lo: "1", Hi: "2"}, api.Span{Lo: "1", Hi: "2"}, true},
	}
	for _, x := range tests {
		for range 2 {
			if m, ok := span.Meet(x.a, x.b); m != x.want || ok != x.ok {
				t.Errorf("Meet(%q, %q) = %q, %v", x.a, x.b, m, ok)
			}
			x.a, x.b = x.b, x.a
		}
	}
}

func TestJoin(t *testing.T) {
	tests := []struct{ a, b, want api.Span }{
		{api.Span{Lo: "1", Hi: "2"}, api.Span{Lo: "3", Hi: "4"}, api.Span{Lo: "1", Hi: "4"}},
		{api.Span{Lo: "1", Hi: "4"}, api.Span{Lo: "2", Hi: "3"}, api.Span{Lo: "1", Hi: "4"}},
		{api.Span{Lo: "1", Hi: "10"}, api.Span{Lo: "9", Hi: "9"}, api.Span{Lo: "1", Hi: "10"}},
		{api.Span{Lo: "1"}, api.Span{Hi: "0"}, api.Span{}},
		{api.Span{Lo: "1"}, api.Span{Lo: "0", Hi: "0"}, api.Span{Lo: "0"}},
		{api.Span{Hi: "1"}, api.Span{Lo: "0", Hi: "2"}, api.Span{Hi: "2"}},
		{api.Span{Lo: "2", Hi: "1"}, api.Span{Lo: "0", Hi: "2"}, api.Span{}},
		{api.Span{Lo: "1", Hi: "2"}, api.Span{Lo: "!"}, api.Span{}},
	}
	for _, x := range tests {
		if s := span.Join(x.a, x.b); s != x.want {
			t.Errorf("Join(%q, %q) = %q", x.a, x.b, s)
		}
		if s := span.Join(x.b, x.a); s != x.want {
			t.Errorf("Join(%q, %q) = %q", x.b, x.a, s)
		}
	}
	for _, a := range some() {
		for _, b := range some() {
			s := span.Join(a, b)
			if !may(a) || !may(b) {
				if s != (api.Span{}) {
					t.Fatalf("Join(%q, %q) = %q", a, b, s)
				}
				continue
			}
			if s.Lo != a.Lo && s.Lo != b.Lo || s.Hi != a.Hi && s.Hi != b.Hi || !span.Within(a, s) || !span.Within(b, s) {
				t.Fatalf("Join(%q, %q) = %q", a, b, s)
			}
		}
	}
}

// TestThereAndBack is P2.2.
func TestThereAndBack(t *testing.T) {
	for _, s := range some() {
		text := span.Text(s)
		if !may(s) {
			if text != "" {
				t.Errorf("Text(%q) = %q", s, text)
			}
			continue
		}
		if back, ok := span.Read(text); !ok || back != s {
			t.Errorf("Read(%q) = %q, %v, not %q", text, back, ok, s)
		}
	}
	texts := map[string]api.Span{":": {}, "1": {Lo: "1", Hi: "1"}, "1:": {Lo: "1"}, ":1": {Hi: "1"}, "1:2": {Lo: "1", Hi: "2"}, "1.rc:1": {Lo: "1.rc", Hi: "1"}}
	for text, s := range texts {
		if span.Text(s) != text {
			t.Errorf("Text(%q) = %q", s, span.Text(s))
		}
		if back, ok := span.Read(text); !ok || back != s {
			t.Errorf("Read(%q) = %q, %v", text, back, ok)
		}
	}
}

func TestReadOfOthers(t *testing.T) {
	for _, text := range []string{"", " ", "::", "1:1", "2:1", "1:1.rc", "1::2", "1:2:3", "01", "1:02", "x1:", ":!", "1,2", " 1", "1 ", "1: 2", "\xff", "!"} {
		if s, ok := span.Read(text); ok || s != (api.Span{}) {
			t.Errorf("Read(%q) = %q, %v", text, s, ok)
		}
	}
}

func TestWithin(t *testing.T) {
	for _, a := range some() {
		for _, b := range some() {
			want := may(a) && may(b) &&
				(b.Lo == "" || a.Lo != "" && version.Compare(b.Lo, a.Lo) <= 0) &&
				(b.Hi == "" || a.Hi != "" && version.Compare(b.Hi, a.Hi) >= 0)
			if span.Within(a, b) != want {
				t.Errorf("Within(%q, %q) = %v", a, b, !want)
			}
		}
	}
	if !span.Within(api.Span{Lo: "1", Hi: "2"}, api.Span{Lo: "1", Hi: "2"}) || span.Within(api.Span{}, api.Span{Lo: "1"}) || !span.Within(api.Span{Lo: "1"}, api.Span{}) {
		t.Error("Within")
	}
}

func FuzzRead(f *testing.F) {
	f.Add("1:2")
	f.Add(":")
	f.Fuzz(func(t *testing.T, text string) {
		if s, ok := span.Read(text); ok && span.Text(s) != text {
			t.Errorf("%q is read as %q", text, s)
		}
	})
}
