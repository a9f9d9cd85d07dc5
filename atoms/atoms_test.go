package atoms_test

import (
	"math"
	"math/rand"
	"testing"

	"cooper/api"
	"cooper/atoms"
)

func node(n int) api.Atom { return api.Atom{Kind: api.NodeAtom, A: n} }

func help(n int) api.Atom { return api.Atom{Kind: api.HelpAtom, A: n} }

func TestNumbers(t *testing.T) {
	table := atoms.New(10)
	if table.Len() != 0 || table.Full() {
		t.Error("a new table is not empty")
	}
	row := []api.Atom{node(7), {Kind: api.ReleaseAtom, A: 7, B: 1}, {Kind: api.ReleaseAtom, A: 7, B: 1, C: 1}, node(-1), {}, {Kind: 255, A: math.MinInt, B: math.MaxInt, C: 3}}
	for i, a := range row {
		if table.Look(a) != 0 {
			t.Errorf("%v has a number ahead of being asked for", a)
		}
		if n := table.Number(a); n != i+1 {
			t.Errorf("Number(%v) = %d", a, n)
		}
		if n := table.Number(row[0]); n != 1 {
			t.Errorf("asked again, it is %d", n)
		}
	}
	for i, a := range row {
		if table.Look(a) != i+1 {
			t.Errorf("Look(%v) = %d", a, table.Look(a))
		}
		if got, ok := table.At(i + 1); got != a || !ok {
			t.Errorf("At(%d) = %v, %v", i+1, got, ok)
		}
	}
	if table.Look(node(8)) != 0 || table.Len() != len(row) || table.Full() {
		t.Error("Look gives numbers")
	}
	for _, n := range []int{0, -1, len(row) + 1, math.MaxInt, math.MinInt} {
		if a, ok := table.At(n); a != (api.Atom{}) || ok {
			t.Errorf("At(%d) = %v, %v", n, a, ok)
		}
	}
}

func TestHelp(t *testing.T) {
	table := atoms.New(20)
	table.Number(help(1))
	table.Number(help(4))
	table.Number(api.Atom{Kind: api.HelpAtom, A: 2, B: 1})
	table.Number(node(3))
	want := []api.Atom{help(0), help(2), help(3), help(5), help(6)}
	for i, a := range want {
		n := table.Help()
		if got, ok := table.At(n); n != 5+i || got != a || !ok {
			t.Errorf("Help() = %d: %v", n, got)
		}
	}
	if n := table.Number(help(7)); n != 10 {
		t.Error(n)
	}
	if n := table.Help(); n != 11 || table.Look(help(8)) != 11 {
		t.Error(n)
	}
}

func TestLimit(t *testing.T) {
	table := atoms.New(2)
	if table.Number(node(1)) != 1 || table.Help() != 2 || table.Full() {
		t.Error("the limit is met too early")
	}
	if table.Number(node(1)) != 1 || table.Look(node(2)) != 0 || table.Full() {
		t.Error("what has a number is not refused")
	}
	if table.Number(node(2)) != 0 || !table.Full() || table.Len() != 2 {
		t.Error("a number too much")
	}
	if table.Help() != 0 || table.Number(node(1)) != 1 || table.Number(help(0)) != 2 || table.Look(node(2)) != 0 || !table.Full() {
		t.Error("a full table")
	}
	for _, limit := range []int{0, -1, math.MinInt} {
		if empty := atoms.New(limit); empty.Full() || empty.Help() != 0 || !empty.Full() || empty.Number(node(0)) != 0 || empty.Len() != 0 {
			t.Errorf("a table of the limit %d", limit)
		}
	}
	for _, limit := range []int{api.MaxAtoms, api.MaxAtoms + 1, math.MaxInt} {
		large := atoms.New(limit)
		for i := range api.MaxAtoms {
			if large.Number(node(i)) != i+1 {
				t.Fatalf("a table of the limit %d refuses %d", limit, i)
			}
		}
		if large.Full() || large.Number(node(-1)) != 0 || !large.Full() || large.Len() != api.MaxAtoms {
			t.Errorf("a table of the limit %d", limit)
		}
	}
}

func TestNil(t *testing.T) {
	var table *atoms.Table
	if table.Number(node(1)) != 0 || table.Help() != 0 || table.Look(node(1)) != 0 || table.Len() != 0 {
		t.Error("a nil table gives numbers")
	}
	if a, ok := table.At(1); a != (api.Atom{}) || ok {
		t.Error("a nil table has an atom")
	}
	table.Full()
}

// TestRows holds rows of calls against a table that is kept as a plain list.
func TestRows(t *testing.T) {
	r := rand.New(rand.NewSource(11))
	for range 300 {
		limit := r.Intn(12)
		table := atoms.New(limit)
		var list []api.Atom
		full := false
		look := func(a api.Atom) int {
			for i, b := range list {
				if a == b {
					return i + 1
				}
			}
			return 0
		}
		number := func(a api.Atom) int {
			if n := look(a); n != 0 {
				return n
			}
			if len(list) == limit {
				full = true
				return 0
			}
			list = append(list, a)
			return len(list)
		}
		for range 40 {
			a := api.Atom{Kind: uint8(8 + r.Intn(2)), A: r.Intn(5), B: r.Intn(8) / 7}
			switch r.Intn(4) {
			case 0, 1:
				if got, want := table.Number(a), number(a); got != want {
					t.Fatalf("Number(%v) = %d, not %d", a, got, want)
				}
			case 2:
				free := 0
				for look(help(free)) != 0 {
					free++
				}
				if got, want := table.Help(), number(help(free)); got != want {
					t.Fatalf("Help() = %d, not %d", got, want)
				}
			case 3:
				if got, want := table.Look(a), look(a); got != want {
					t.Fatalf("Look(%v) = %d, not %d", a, got, want)
				}
			}
			if table.Len() != len(list) || table.Full() != full {
				t.Fatal(table.Len(), table.Full(), len(list), full)
			}
		}
	}
}
