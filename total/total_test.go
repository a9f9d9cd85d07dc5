package total_test

import (
	"fmt"
	"math"
	"math/rand"
	"slices"
	"testing"

	"cooper/api"
	"cooper/atoms"
	"cooper/cnf"
	"cooper/total"
)

// table is one with n atoms.
func table(n, limit int) *atoms.Table {
	t := atoms.New(limit)
	for i := range n {
		t.Number(api.Atom{Kind: api.NodeAtom, A: i})
	}
	return t
}

func TestOne(t *testing.T) {
	for _, l := range []int{1, -1, 7} {
		for _, most := range []int{1, 2, math.MaxInt} {
			x, b := table(1, 10), cnf.New()
			row := []int{l}
			got := total.Count(x, b, row, most)
			if !slices.Equal(got, []int{l}) || x.Len() != 1 || len(b.Clauses()) != 0 {
				t.Errorf("a count of %d is %v", l, got)
			}
			got[0] = 9
			if row[0] != l {
				t.Error("what is answered is the memory that was handed in")
			}
		}
	}
}

func TestNone(t *testing.T) {
	for _, most := range []int{0, -1, math.MinInt} {
		x, b := table(3, 10), cnf.New()
		if got := total.Count(x, b, []int{1, 2, 3}, most); len(got) != 0 || x.Len() != 3 || len(b.Clauses()) != 0 || x.Full() {
			t.Errorf("up to %d: %v", most, got)
		}
	}
	x, b := table(3, 10), cnf.New()
	for _, row := range [][]int{nil, {}, {0}, {1, 0, 2}, {1, 2, 3, 0}} {
		if got := total.Count(x, b, row, 3); len(got) != 0 || b.Bad() {
			t.Errorf("Count(%v) = %v", row, got)
		}
	}
	if got := total.Count(nil, b, []int{1, 2}, 2); len(got) != 0 {
		t.Error(got)
	}
	if got := total.Count(x, nil, []int{1, 2}, 2); len(got) != 0 {
		t.Error(got)
	}
	total.Count(nil, nil, nil, 0)
}

func TestFull(t *testing.T) {
	// Four places need so many atoms, and with one less there is no count.
	free, b := table(4, 1000), cnf.New()
	if len(total.Count(free, b, []int{1, 2, 3, 4}, 4)) != 4 {
		t.Fatal("four places")
	}
	need := free.Len()
	for limit := 4; limit <= need; limit++ {
		x, b := table(4, limit), cnf.New()
		got := total.Count(x, b, []int{1, 2, 3, 4}, 4)
		if (len(got) == 4) != (limit == need) || x.Full() != (limit < need) || len(got) != 0 && len(got) != 4 || b.Bad() {
			t.Errorf("of the limit %d of %d: %v, %v", limit, need, got, x.Full())
		}
	}
	wide, b := table(1, 1000), cnf.New()
	if got := total.Count(wide, b, slices.Repeat([]int{1}, 100000), math.MaxInt); len(got) != 0 || !wide.Full() {
		t.Error("a wide row")
	}
}

func TestManyClausesEnd(t *testing.T) {
	x, b := table(4000, api.MaxAtoms), cnf.New()
	row := make([]int, 4000)
	for i := range row {
		row[i] = i + 1
	}
	total.Count(x, b, row, math.MaxInt)
	if !b.Full() || b.Bad() {
		t.Error("full")
	}
}

// TestAsMany is P23.1, over all models.
func TestAsMany(t *testing.T) {
	r := rand.New(rand.NewSource(23))
	cases := [][]int{{1, 2}, {1, -1}, {1, 1}, {-2, 1, -3}, {1, 2, 3, 3}, {2, 2, 2}, {1, -2, 3, -1}, {1, 2, 3, -1, -1}}
	for range 12 {
		var row []int
		for range 2 + r.Intn(4) {
			row = append(row, (1+r.Intn(3))*(1-2*r.Intn(2)))
		}
		cases = append(cases, row)
	}
	for _, row := range cases {
		for _, most := range []int{1, 2, 3, len(row), len(row) + 5} {
			asMany(t, row, most)
		}
	}
}

func asMany(t *testing.T, row []int, most int) {
	t.Helper()
	x, b := table(3, 1000), cnf.New()
	kept := slices.Clone(row)
	count := total.Count(x, b, row, most)
	if len(count) != min(len(row), most) || !slices.Equal(row, kept) || b.Bad() || x.Full() {
		t.Fatalf("Count(%v, %d) = %v", row, most, count)
	}
	for i := 3; i < x.Len(); i++ {
		if a, _ := x.At(i + 1); a != (api.Atom{Kind: api.HelpAtom, A: i - 3}) {
			t.Fatalf("%d is %v", i+1, a)
		}
	}
	clauses := b.Clauses()
	choices := map[int]bool{}
	for bits := range 1 << x.Len() {
		model := make([]bool, x.Len())
		for i := range model {
			model[i] = bits>>i&1 > 0
		}
		if !cnf.Holds(clauses, model) {
			continue
		}
		choices[bits&7] = true
		so := func(l int) bool { return model[max(l, -l)-1] == (l > 0) }
		n := 0
		for _, l := range row {
			if so(l) {
				n++
			}
		}
		for i, l := range count {
			if so(l) != (n >= i+1) {
				t.Fatalf("Count(%v, %d): %d are so, and %v in %v", row, most, n, count, model)
			}
		}
	}
	if len(choices) != 8 {
		t.Fatalf("Count(%v, %d): just %v have a model", row, most, choices)
	}
}

func TestShared(t *testing.T) {
	// The atoms and clauses come behind those that are there.
	x, b := table(2, 100), cnf.New()
	b.Add(1, 2)
	x.Help()
	count := total.Count(x, b, []int{1, 2}, 2)
	l := b.Clauses()
	if len(l) < 2 || fmt.Sprint(l[0]) != "[1 2]" || slices.Min(count) != 4 || x.Len() < 5 {
		t.Error(l, count, x.Len())
	}
}

func TestRepeat(t *testing.T) {
	tests := []struct {
		row, weights, want []int
	}{
		{nil, nil, nil},
		{[]int{1, 2}, nil, nil},
		{nil, []int{1, 2}, nil},
		{[]int{5, -6, 7}, []int{2, 1, 3}, []int{5, 5, -6, 7, 7, 7}},
		{[]int{5, -6, 7}, []int{0, -3, 1}, []int{7}},
		{[]int{5, 6, 7}, []int{1, 2}, []int{5, 6, 6}},
		{[]int{5}, []int{1, 2}, []int{5}},
		{[]int{0, math.MinInt}, []int{1, 1}, []int{0, math.MinInt}},
		{[]int{5, 6}, []int{math.MinInt, 2}, []int{6, 6}},
		{[]int{5, 6}, []int{1001, 1}, append(slices.Repeat([]int{5}, 1000), 6)},
		{[]int{5, 6}, []int{1000, math.MaxInt}, append(slices.Repeat([]int{5}, 1000), slices.Repeat([]int{6}, 1000)...)},
	}
	for _, x := range tests {
		row, weights := slices.Clone(x.row), slices.Clone(x.weights)
		if got := total.Repeat(x.row, x.weights); !slices.Equal(got, x.want) {
			t.Errorf("Repeat(%v, %v): %d", row, weights, len(got))
		}
		if !slices.Equal(row, x.row) || !slices.Equal(weights, x.weights) {
			t.Error("what was handed in is changed")
		}
	}
	many := slices.Repeat([]int{3}, 150)
	if got := total.Repeat(many, slices.Repeat([]int{999}, 150)); len(got) != 100000 {
		t.Errorf("%d in all", len(got))
	}
	if got := total.Repeat(slices.Repeat([]int{3}, 100), slices.Repeat([]int{1000}, 100)); len(got) != 100000 {
		t.Errorf("%d in all", len(got))
	}
}
