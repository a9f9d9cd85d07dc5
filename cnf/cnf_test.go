package cnf_test

import (
	"fmt"
	"math"
	"math/rand"
	"slices"
	"testing"

	"cooper/api"
	"cooper/cnf"
)

func same(a, b [][]int) bool { return slices.EqualFunc(a, b, slices.Equal[[]int]) }

func TestForm(t *testing.T) {
	tests := []struct {
		in, want []int
		ok       bool
	}{
		{nil, nil, true},
		{[]int{3}, []int{3}, true},
		{[]int{3, -1, 2}, []int{-1, 2, 3}, true},
		{[]int{-10, 9, -10, 9, 1}, []int{1, 9, -10}, true},
		{[]int{-2, -3, -1}, []int{-1, -2, -3}, true},
		{[]int{math.MaxInt, 1}, []int{1, math.MaxInt}, true},
		{[]int{-math.MaxInt, 1}, []int{1, -math.MaxInt}, true},
		{[]int{1, -1}, nil, false},
		{[]int{2, 1, 3, -2}, nil, false},
		{[]int{-2, 2, 2}, nil, false},
		{[]int{0}, nil, false},
		{[]int{1, 0, 2}, nil, false},
		{[]int{math.MinInt}, nil, false},
		{[]int{1, math.MinInt}, nil, false},
	}
	for _, x := range tests {
		kept := slices.Clone(x.in)
		out, ok := cnf.Form(x.in)
		if ok != x.ok || !slices.Equal(out, x.want) {
			t.Errorf("Form(%v) = %v, %v", kept, out, ok)
		}
		for i := range out {
			out[i] = 77
		}
		if !slices.Equal(x.in, kept) {
			t.Errorf("Form(%v) shares its memory, or changed it", kept)
		}
	}
}

func TestHolds(t *testing.T) {
	model := []bool{true, false}
	tests := []struct {
		clauses [][]int
		want    bool
	}{
		{nil, true},
		{[][]int{{1}}, true},
		{[][]int{{-1}}, false},
		{[][]int{{2}}, false},
		{[][]int{{-2}}, true},
		{[][]int{{2, 1}, {-2}}, true},
		{[][]int{{1}, {2}}, false},
		{[][]int{{}}, false},
		{[][]int{{1}, {}}, false},
		{[][]int{{3}}, false},
		{[][]int{{-3}}, true},
		{[][]int{{math.MaxInt}}, false},
		{[][]int{{-math.MaxInt}}, true},
		{[][]int{{1, -1}}, true},
		{[][]int{{0}}, false},
	}
	for _, x := range tests {
		if cnf.Holds(x.clauses, model) != x.want {
			t.Errorf("Holds(%v) = %v", x.clauses, !x.want)
		}
	}
	if cnf.Holds([][]int{{1}}, nil) || !cnf.Holds([][]int{{-1}}, nil) {
		t.Error("an atom that a model does not tell is not so")
	}
	cnf.Holds([][]int{{math.MinInt}, {math.MinInt, 0}}, model)
}

func TestAtoms(t *testing.T) {
	tests := []struct {
		clauses [][]int
		want    int
	}{
		{nil, 0}, {[][]int{{}}, 0}, {[][]int{{1, -7}, {3}}, 7}, {[][]int{{-2}, {1}}, 2}, {[][]int{{-math.MaxInt}}, math.MaxInt}, {[][]int{{0}}, 0},
	}
	for _, x := range tests {
		if n := cnf.Atoms(x.clauses); n != x.want {
			t.Errorf("Atoms(%v) = %d", x.clauses, n)
		}
	}
	cnf.Atoms([][]int{{math.MinInt}})
}

func TestText(t *testing.T) {
	tests := []struct {
		atoms   int
		clauses [][]int
		want    string
	}{
		{0, nil, "p cnf 0 0\n"},
		{3, [][]int{{1, -2}, {}, {3}}, "p cnf 3 3\n1 -2 0\n0\n3 0\n"},
		{12, [][]int{{-12, 11, 11}}, "p cnf 12 1\n-12 11 11 0\n"},
	}
	for _, x := range tests {
		if text := cnf.Text(x.atoms, x.clauses); text != x.want {
			t.Errorf("Text(%d, %v) = %q", x.atoms, x.clauses, text)
		}
		if atoms, clauses, ok := cnf.Read(x.want); !ok || atoms != x.atoms || !same(clauses, x.clauses) {
			t.Errorf("Read(%q) = %d, %v, %v", x.want, atoms, clauses, ok)
		}
	}
}

func TestReadOfOthers(t *testing.T) {
	for _, text := range []string{
		"", "\n", "p cnf", "p cnf 0 0", "p cnf 0 0\n\n", " p cnf 0 0\n", "p cnf 0 0 \n", "p  cnf 0 0\n", "p cnf 00 0\n", "p cnf +0 0\n", "p cnf -1 0\n", "p cnf 0\n", "p cnf 0 0 0\n", "p dnf 0 0\n", "P cnf 0 0\n", "cnf 0 0\n", "0 0\n",
		"p cnf 2 1\n", "p cnf 2 0\n1 0\n", "p cnf 2 1\n1 0", "p cnf 2 1\n1\n", "p cnf 2 1\n1 \n", "p cnf 2 1\n1 0 \n", "p cnf 2 1\n 1 0\n", "p cnf 2 1\n1  0\n", "p cnf 2 1\n1 0\n\n", "p cnf 2 1\n\n",
		"p cnf 2 1\n3 0\n", "p cnf 2 1\n-3 0\n", "p cnf 2 1\n1 0 2 0\n", "p cnf 2 1\n0 0\n", "p cnf 2 1\n+1 0\n", "p cnf 2 1\n01 0\n", "p cnf 2 1\n-0 0\n", "p cnf 2 1\nx 0\n", "p cnf 2 1\n1 -0\n", "p cnf 2 2\n1 0 2 0\n", "p cnf 2 1\r\n1 0\n", "p cnf 2 1\n1 1\n",
		"p cnf 99999999999999999999 0\n", "p cnf 9223372036854775807 1\n-9223372036854775808 0\n", "p cnf 2 99999999999999999999\n", "p cnf 1 1\n99999999999999999999 0\n", "c it\np cnf 0 0\n",
	} {
		if atoms, clauses, ok := cnf.Read(text); ok || atoms != 0 || len(clauses) != 0 {
			t.Errorf("Read(%q) = %d, %v, %v", text, atoms, clauses, ok)
		}
	}
	if atoms, clauses, ok := cnf.Read("p cnf 9223372036854775807 1\n-9223372036854775807 0\n"); !ok || atoms != math.MaxInt || !same(clauses, [][]int{{-math.MaxInt}}) {
		t.Error(atoms, clauses, ok)
	}
}

// TestThereAndBack is P12.2.
func TestThereAndBack(t *testing.T) {
	r := rand.New(rand.NewSource(12))
	for range 500 {
		n := r.Intn(30)
		var clauses [][]int
		for range r.Intn(10) {
			var c []int
			for range r.Intn(5) {
				if n > 0 {
					c = append(c, (1+r.Intn(n))*(1-2*r.Intn(2)))
				}
			}
			clauses = append(clauses, c)
		}
		text := cnf.Text(n, clauses)
		atoms, back, ok := cnf.Read(text)
		if !ok || atoms != n || !same(back, clauses) {
			t.Fatalf("%q is read as %d, %v, %v", text, atoms, back, ok)
		}
	}
}

func FuzzRead(f *testing.F) {
	f.Add("p cnf 2 2\n1 -2 0\n0\n")
	f.Fuzz(func(t *testing.T, text string) {
		atoms, clauses, ok := cnf.Read(text)
		if ok && (cnf.Text(atoms, clauses) != text || cnf.Atoms(clauses) > atoms) {
			t.Errorf("%q is read as %d, %v", text, atoms, clauses)
		}
	})
}

// built is what a builder has when something was done with it.
func built(do func(*cnf.Builder)) string {
	b := cnf.New()
	do(b)
	return fmt.Sprint(b.Clauses(), b.Bad(), b.Full())
}

func TestBuilder(t *testing.T) {
	tests := []struct {
		do   func(*cnf.Builder)
		want string
	}{
		{func(b *cnf.Builder) {}, "[] false false"},
		{func(b *cnf.Builder) { b.Add() }, "[[]] false false"},
		{func(b *cnf.Builder) { b.Add(3, -1, 3); b.Add(2); b.Add(2) }, "[[-1 3] [2] [2]] false false"},
		{func(b *cnf.Builder) { b.Add(1, -1); b.Add(2) }, "[[2]] false false"},
		{func(b *cnf.Builder) { b.Add(1, 0); b.Add(2) }, "[[2]] true false"},
		{func(b *cnf.Builder) { b.Add(0) }, "[] true false"},
		{func(b *cnf.Builder) { b.Add(math.MinInt, 4) }, "[] true false"},
		{func(b *cnf.Builder) { b.Add(1, -1, 0) }, "[] true false"},
		{func(b *cnf.Builder) { b.Most() }, "[] false false"},
		{func(b *cnf.Builder) { b.Most(1) }, "[] false false"},
		{func(b *cnf.Builder) { b.Most(3, 2, -1) }, "[[-2 -3] [1 -3] [1 -2]] false false"},
		{func(b *cnf.Builder) { b.Most(1, 2, 3, 4) }, "[[-1 -2] [-1 -3] [-1 -4] [-2 -3] [-2 -4] [-3 -4]] false false"},
		{func(b *cnf.Builder) { b.Most(1, 1) }, "[[-1]] false false"},
		{func(b *cnf.Builder) { b.Most(1, -1, 2) }, "[[-1 -2] [1 -2]] false false"},
		{func(b *cnf.Builder) { b.Most(1, 2, 0) }, "[[-1 -2]] true false"},
		{func(b *cnf.Builder) { b.Most(1, math.MinInt) }, "[] true false"},
		{func(b *cnf.Builder) { b.One() }, "[[]] false false"},
		{func(b *cnf.Builder) { b.One(5) }, "[[5]] false false"},
		{func(b *cnf.Builder) { b.One(1, 2) }, "[[1 2] [-1 -2]] false false"},
		{func(b *cnf.Builder) { b.One(3, -1, 2) }, "[[-1 2 3] [1 -3] [-2 -3] [1 -2]] false false"},
		{func(b *cnf.Builder) { b.All(9) }, "[[9]] false false"},
		{func(b *cnf.Builder) { b.All(9, 3, -1) }, "[[3 -9] [-1 -9] [1 -3 9]] false false"},
		{func(b *cnf.Builder) { b.All(-1, 2) }, "[[1 2] [-1 -2]] false false"},
		{func(b *cnf.Builder) { b.All(9, 3, 0) }, "[[3 -9]] true false"},
		{func(b *cnf.Builder) { b.Any(9) }, "[[-9]] false false"},
		{func(b *cnf.Builder) { b.Any(9, 3, -1) }, "[[-1 3 -9] [-3 9] [1 9]] false false"},
		{func(b *cnf.Builder) { b.Any(9, 0, 3) }, "[[-3 9]] true false"},
		{func(b *cnf.Builder) { b.Any(math.MinInt, 3) }, "[] true false"},
	}
	for i, x := range tests {
		if got := built(x.do); got != x.want {
			t.Errorf("%d: %s, not %s", i, got, x.want)
		}
	}
}

func TestBuilderMeans(t *testing.T) {
	l := []int{1, -2, 3}
	so := func(x int, m []bool) bool { return m[max(x, -x)-1] == (x > 0) }
	most, one, all, any := cnf.New(), cnf.New(), cnf.New(), cnf.New()
	most.Most(l...)
	one.One(l...)
	all.All(-4, l...)
	any.Any(-4, l...)
	for bits := range 16 {
		m := []bool{bits&1 > 0, bits&2 > 0, bits&4 > 0, bits&8 > 0}
		n := 0
		for _, x := range l {
			if so(x, m) {
				n++
			}
		}
		if cnf.Holds(most.Clauses(), m) != (n <= 1) || cnf.Holds(one.Clauses(), m) != (n == 1) || cnf.Holds(all.Clauses(), m) != (so(-4, m) == (n == 3)) || cnf.Holds(any.Clauses(), m) != (so(-4, m) == (n > 0)) {
			t.Error(m)
		}
	}
}

func TestFull(t *testing.T) {
	b := cnf.New()
	for i := range api.MaxClauses {
		b.Add(i + 1)
	}
	if b.Full() || b.Bad() || len(b.Clauses()) != api.MaxClauses {
		t.Fatal("full too early")
	}
	b.Add(7)
	l := b.Clauses()
	if !b.Full() || b.Bad() || len(l) != api.MaxClauses || l[api.MaxClauses-1][0] != api.MaxClauses {
		t.Error("a clause too much")
	}
	b.Add(0)
	if !b.Bad() || !b.Full() {
		t.Error("a full builder may be bad")
	}
	wide := cnf.New()
	row := make([]int, 100000)
	for i := range row {
		row[i] = i + 1
	}
	wide.Most(row...)
	if l := wide.Clauses(); !wide.Full() || wide.Bad() || len(l) != api.MaxClauses || !slices.Equal(l[1], []int{-1, -3}) {
		t.Error("a wide row")
	}
}

func TestBuilderKeepsNothing(t *testing.T) {
	b := cnf.New()
	row := []int{2, 1}
	b.Add(row...)
	b.Most(row...)
	b.One(row...)
	b.All(5, row...)
	b.Any(5, row...)
	if !slices.Equal(row, []int{2, 1}) {
		t.Error("what was handed in is changed")
	}
	before := fmt.Sprint(b.Clauses())
	row[0] = 9
	l := b.Clauses()
	l[0][0] = 8
	l[1] = nil
	if fmt.Sprint(b.Clauses()) != before {
		t.Error("clauses share their memory")
	}
}

func TestNil(t *testing.T) {
	var b *cnf.Builder
	b.Add(1)
	b.Most(1, 2)
	b.One(1, 2)
	b.All(1, 2)
	b.Any(1, 2)
	if len(b.Clauses()) != 0 || !b.Bad() {
		t.Error("a nil builder takes nothing, and is bad")
	}
	b.Full()
}
