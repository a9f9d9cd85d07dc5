package version_test

import (
	"slices"
	"strings"
	"testing"

	"cooper/version"
)

func TestCompareStandsInARow(t *testing.T) {
	l := []string{
		"a.a", "a.z", "a", "a.0.a", "a.0", "a.0.0", "ab", "b", "z.9", "zz",
		"0.a", "0", "0.0", "0.1", "1.alpha.beta", "1.alpha", "1.alpha.1", "1.b", "1.bb", "1.rc.b", "1.rc", "1.rc.1", "1",
		"1.0.rc", "1.0", "1.0.0", "1.2", "1.9", "1.10", "1.999999998", "1.999999999",
		"2", "9", "10", "99", "100", "999999999.z", "999999999", "999999999.999999999.999999999.999999999",
	}
	for i, a := range l {
		if !version.May(a) {
			t.Errorf("May(%q)", a)
		}
		for k, b := range l {
			want := 0
			if i < k {
				want = -1
			} else if i > k {
				want = 1
			}
			if n := version.Compare(a, b); n != want {
				t.Errorf("Compare(%q, %q) = %d, not %d", a, b, n, want)
			}
		}
	}
}

func TestMayEdges(t *testing.T) {
	good := []string{"0", "a", "1.2.3.4.5.6.7.8", "a.b.c.d.e.f.g.h", "999999999", "rc", strings.Repeat("a", 40), "1." + strings.Repeat("b", 38), "1.0.0"}
	for _, s := range good {
		if !version.May(s) || version.Compare(s, s) != 0 || strings.Join(version.Parts(s), ".") != s {
			t.Errorf("%q is a version", s)
		}
	}
	bad := []string{"", ".", "..", "1.", ".1", "1..2", "00", "01", "1.01", "1000000000", "9999999999", "99999999999999999999", "A", "aB", "1a", "a1", "1 2", " 1", "1\n", "1-2", "-1", "+1", "1,2", "1:2", "é", "a.b.c.d.e.f.g.h.i", "1.1.1.1.1.1.1.1.1", strings.Repeat("a", 41), "1." + strings.Repeat("b", 39), "\x00", "\xff", "`", "{", "/", ":"}
	for _, s := range bad {
		if version.May(s) {
			t.Errorf("May(%q)", s)
		}
		if l := version.Parts(s); len(l) != 0 {
			t.Errorf("Parts(%q) = %q", s, l)
		}
		if version.Compare(s, "a.a.a.a.a.a.a.a") != -1 || version.Compare("a.a.a.a.a.a.a.a", s) != 1 {
			t.Errorf("%q does not stand ahead of all versions", s)
		}
		for _, other := range bad {
			if version.Compare(s, other) != 0 {
				t.Errorf("%q is not like %q", s, other)
			}
		}
	}
}

func TestPartsAreNew(t *testing.T) {
	l := version.Parts("1.rc.20")
	if !slices.Equal(l, []string{"1", "rc", "20"}) {
		t.Fatal(l)
	}
	l[0] = "9"
	if again := version.Parts("1.rc.20"); again[0] != "1" {
		t.Error(again)
	}
}

func TestNewest(t *testing.T) {
	in := []string{"1", "!", "2.rc", "10", "1", "", "2", "1.a", "?"}
	kept := slices.Clone(in)
	out := version.Newest(in)
	if want := []string{"10", "2", "2.rc", "1", "1", "1.a", "!", "", "?"}; !slices.Equal(out, want) {
		t.Errorf("%q, not %q", out, want)
	}
	if !slices.Equal(in, kept) {
		t.Error("what was handed in is changed")
	}
	out[0] = "x"
	if !slices.Equal(in, kept) {
		t.Error("what is answered is the memory that was handed in")
	}
	if len(version.Newest(nil)) != 0 || len(version.Newest([]string{})) != 0 {
		t.Error("newest of none")
	}
	one := []string{"1"}
	version.Newest(one)[0] = "2"
	if one[0] != "1" {
		t.Error("one text is handed back as it came")
	}
}

// smallVersions are all versions of at most three parts out of a few.
func smallVersions() []string {
	parts := []string{"a", "ab", "b", "0", "1", "2", "10"}
	out := slices.Clone(parts)
	for _, a := range parts {
		for _, b := range parts {
			out = append(out, a+"."+b)
		}
		out = append(out, a+".a.1", a+".1.a", a+".1.1")
	}
	return out
}

// TestARow is P1.2.
func TestARow(t *testing.T) {
	l := smallVersions()
	for _, a := range l {
		for _, b := range l {
			ab := version.Compare(a, b)
			if ab != -version.Compare(b, a) || ab < -1 || ab > 1 {
				t.Fatalf("%q, %q: %d", a, b, ab)
			}
			if (ab == 0) != (a == b) {
				t.Fatalf("%q and %q are alike", a, b)
			}
			for _, c := range l {
				if ab < 0 && version.Compare(b, c) < 0 && version.Compare(a, c) >= 0 {
					t.Fatalf("%q, %q, %q are in no row", a, b, c)
				}
			}
		}
	}
}

func FuzzVersions(f *testing.F) {
	f.Add("1.rc", "1")
	f.Add("01", ".")
	f.Fuzz(func(t *testing.T, a, b string) {
		n := version.Compare(a, b)
		if n != -version.Compare(b, a) {
			t.Error(a, b)
		}
		if version.May(a) && n == 0 && a != b {
			t.Error(a, b)
		}
		version.Newest([]string{a, b})
	})
}
