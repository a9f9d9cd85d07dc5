package luby_test

import (
	"math"
	"math/rand"
	"slices"
	"testing"

	"cooper/luby"
)

func TestRow(t *testing.T) {
	want := []int{1, 1, 2, 1, 1, 2, 4, 1, 1, 2, 1, 1, 2, 4, 8, 1, 1, 2, 1, 1, 2, 4, 1, 1, 2, 1, 1, 2, 4, 8, 16, 1}
	for i, n := range want {
		if got := luby.Row(i + 1); got != n {
			t.Errorf("Row(%d) = %d, not %d", i+1, got, n)
		}
	}
	for _, n := range []int{0, -1, math.MinInt} {
		if got := luby.Row(n); got != 0 {
			t.Errorf("Row(%d) = %d", n, got)
		}
	}
	for k := 1; k <= 63; k++ {
		n := 1<<k - 1
		if k == 63 {
			n = math.MaxInt
		}
		if got := luby.Row(n); got != 1<<(k-1) {
			t.Errorf("Row(%d) = %d", n, got)
		}
		if k > 1 {
			if got := luby.Row(n - 1); got != 1<<(k-2) {
				t.Errorf("Row(%d) = %d", n-1, got)
			}
			if got := luby.Row(1 << (k - 1)); got != 1 {
				t.Errorf("Row(%d) = %d", 1<<(k-1), got)
			}
		}
	}
}

func note(number, size, levels int) luby.Note {
	return luby.Note{Number: number, Size: size, Levels: levels}
}

func locked(n luby.Note) luby.Note {
	n.Locked = true
	return n
}

func TestForget(t *testing.T) {
	tests := []struct {
		name string
		l    []luby.Note
		want []int
	}{
		{"none", nil, nil},
		{"one", []luby.Note{note(1, 9, 9)}, nil},
		{"that of more levels", []luby.Note{note(1, 9, 3), note(2, 4, 4)}, []int{2}},
		{"that of more literals", []luby.Note{note(1, 5, 4), note(2, 6, 4)}, []int{2}},
		{"that of the lower number", []luby.Note{note(7, 5, 4), note(3, 5, 4)}, []int{3}},
		{"rounded down", []luby.Note{note(1, 5, 5), note(2, 5, 6), note(3, 5, 7)}, []int{3}},
		{"rising", []luby.Note{note(9, 5, 9), note(4, 5, 8), note(5, 5, 7), note(6, 5, 6)}, []int{4, 9}},
		{"short ones stay", []luby.Note{note(1, 2, 9), note(2, 1, 9), note(3, 9, 2), note(4, 9, 1), note(5, 3, 3)}, nil},
		{"short ones are not counted", []luby.Note{note(1, 2, 9), note(2, 9, 2), note(3, 3, 3), note(4, 3, 3)}, []int{3}},
		{"locked ones stay", []luby.Note{locked(note(1, 9, 9)), locked(note(2, 9, 9)), note(3, 3, 3), note(4, 3, 4)}, []int{4}},
		{"odd numbers", []luby.Note{note(-5, math.MaxInt, math.MaxInt), note(math.MinInt, math.MaxInt, math.MaxInt), note(0, math.MinInt, math.MinInt)}, []int{math.MinInt}},
	}
	for _, x := range tests {
		kept := slices.Clone(x.l)
		if got := luby.Forget(x.l); !slices.Equal(got, x.want) {
			t.Errorf("%s: %v, not %v", x.name, got, x.want)
		}
		if !slices.Equal(x.l, kept) {
			t.Errorf("%s: what was handed in is changed", x.name)
		}
	}
}

func TestForgetMany(t *testing.T) {
	r := rand.New(rand.NewSource(20))
	worse := func(a, b luby.Note) bool {
		if a.Levels != b.Levels {
			return a.Levels > b.Levels
		}
		if a.Size != b.Size {
			return a.Size > b.Size
		}
		return a.Number < b.Number
	}
	for range 300 {
		var l, may []luby.Note
		for i := range r.Intn(20) {
			n := luby.Note{Number: i, Size: r.Intn(7), Levels: r.Intn(6), Locked: r.Intn(5) == 0}
			l = append(l, n)
			if n.Size > 2 && n.Levels > 2 && !n.Locked {
				may = append(may, n)
			}
		}
		r.Shuffle(len(l), func(i, k int) { l[i], l[k] = l[k], l[i] })
		var want []int
		for _, n := range may {
			ahead := 0
			for _, o := range may {
				if worse(o, n) {
					ahead++
				}
			}
			if ahead < len(may)/2 {
				want = append(want, n.Number)
			}
		}
		if got := luby.Forget(l); !slices.Equal(got, want) {
			t.Fatalf("Forget(%v) = %v, not %v", l, got, want)
		}
	}
}

// TestTurns: a turn is over where it should be, for some units.
func TestTurns(t *testing.T) {
	for _, unit := range []int{1, 2, 3, 10, 0, -7, math.MinInt} {
		p := luby.New(unit, 1000)
		for turn := 1; turn <= 40; turn++ {
			n := max(unit, 1) * luby.Row(turn)
			for i := 1; i <= n; i++ {
				anew, forget := p.Conflict(0)
				want := turn - 1
				if i == n {
					want = turn
				}
				if anew != (i == n) || forget || p.Restarts() != want {
					t.Fatalf("unit %d, turn %d, conflict %d of %d: %v, %v, %d", unit, turn, i, n, anew, forget, p.Restarts())
				}
			}
		}
	}
	p := luby.New(math.MaxInt, 1)
	for range 1000 {
		if anew, _ := p.Conflict(1); anew || p.Restarts() != 0 {
			t.Fatal("a turn of very many conflicts is over")
		}
	}
}

func TestKeeping(t *testing.T) {
	p := luby.New(1000, 10)
	// What is kept: 10, 16, 25, 38.
	for i, x := range []struct {
		learnt int
		want   bool
	}{{10, false}, {11, true}, {16, false}, {17, true}, {25, false}, {5, false}, {-1, false}, {26, true}, {38, false}, {1000, true}, {58, false}, {59, true}} {
		if anew, forget := p.Conflict(x.learnt); anew || forget != x.want {
			t.Errorf("%d: Conflict(%d): %v", i, x.learnt, forget)
		}
	}
	for _, keep := range []int{1, 0, -3, math.MinInt} {
		p := luby.New(1000, keep)
		for i, x := range []struct {
			learnt int
			want   bool
		}{{0, false}, {1, false}, {2, true}, {2, false}, {3, true}, {4, false}, {5, true}} {
			if _, forget := p.Conflict(x.learnt); forget != x.want {
				t.Errorf("keep %d, %d: Conflict(%d): %v", keep, i, x.learnt, forget)
			}
		}
	}
	great := luby.New(1000, math.MaxInt-1)
	if _, forget := great.Conflict(math.MaxInt); !forget {
		t.Error("there are more than are kept")
	}
	for _, learnt := range []int{0, math.MinInt, math.MaxInt} {
		if _, forget := great.Conflict(learnt); forget {
			t.Errorf("%d are not more than are kept", learnt)
		}
	}
	both := luby.New(1, 1)
	if anew, forget := both.Conflict(9); !anew || !forget {
		t.Error("both may be")
	}
}

func TestNil(t *testing.T) {
	var p *luby.Pace
	if anew, forget := p.Conflict(math.MaxInt); anew || forget || p.Restarts() != 0 {
		t.Error("a nil pace")
	}
}
