package learn_test

import (
	"fmt"
	"math"
	"math/rand"
	"slices"
	"testing"

	"cooper/cnf"
	"cooper/learn"
	"cooper/prop"
)

// trail is one of n atoms and some clauses.
func trail(n int, clauses ...[]int) *prop.Trail {
	t := prop.New(n)
	for _, c := range clauses {
		t.Add(c)
	}
	return t
}

func TestExample(t *testing.T) {
	x := trail(2, []int{-1, 2}, []int{-1, -2})
	x.Decide(1)
	lesson, ok := learn.From(x, x.Follow())
	if !ok || fmt.Sprint(lesson) != "{[-1] 0 [1 2]}" {
		t.Error(lesson, ok)
	}
}

func TestFrom(t *testing.T) {
	tests := []struct {
		name    string
		clauses [][]int
		zero    []int // so at the level 0
		decide  []int
		want    string
	}{
		{"down to what was decided", [][]int{{-1, -2, 3}, {-2, -3, 4}, {-3, -4}}, nil, []int{1, 2}, "{[-2 -1] 1 [1 2 3 4]}"},
		{"a first literal that was not decided", [][]int{{-2, 3}, {-3, -1, 4}, {-3, 5}, {-4, -5}}, nil, []int{1, 2}, "{[-3 -1] 1 [1 3 4 5]}"},
		{"literals of the level 0 are left out", [][]int{{-5, -1, 2}, {-1, -2, -5}}, []int{5}, []int{1}, "{[-1] 0 [1 2]}"},
		{"and of all others, too", [][]int{{-2, -5, 3}, {-2, -5, -1, 4}, {-3, -4, -5}}, []int{5}, []int{1, 2}, "{[-2 -1] 1 [1 2 3 4]}"},
		{"levels between are left", [][]int{{-4, -1, 5}, {-4, -3, 6}, {-5, -6}}, nil, []int{1, 2, 3, 4}, "{[-4 -1 -3] 3 [1 3 4 5 6]}"},
	}
	for _, test := range tests {
		x := trail(6, test.clauses...)
		for _, l := range test.zero {
			x.Set(l, -1)
		}
		conflict := x.Follow()
		for _, l := range test.decide {
			if conflict != -1 {
				t.Fatal(test.name, conflict)
			}
			x.Decide(l)
			conflict = x.Follow()
		}
		if got, ok := learn.From(x, conflict); !ok || fmt.Sprint(got) != test.want {
			t.Errorf("%s: %v, %v, not %s", test.name, got, ok, test.want)
		}
		plainly(t, x, conflict)
	}
}

func TestShorter(t *testing.T) {
	// 2 comes of 1, and both stand in the conflict.
	y := prop.New(5)
	a := y.Add([]int{-1, 2})
	b := y.Add([]int{-3, 4})
	c := y.Add([]int{-4, -1, -2})
	y.Decide(1)
	y.Set(2, a)
	y.Decide(3)
	y.Set(4, b)
	if lesson, ok := learn.From(y, c); !ok || fmt.Sprint(lesson) != "{[-4 -1] 1 [1 2 4]}" {
		t.Error(lesson, ok)
	}
	// All at once: of a chain each goes whose reason was there, also where that goes.
	z := prop.New(6)
	a = z.Add([]int{-1, 2})
	b = z.Add([]int{-2, 3})
	c = z.Add([]int{-5, -1, -2, -3})
	z.Decide(1)
	z.Set(2, a)
	z.Set(3, b)
	z.Decide(5)
	if lesson, ok := learn.From(z, c); !ok || fmt.Sprint(lesson) != "{[-5 -1] 1 [1 2 3 5]}" {
		t.Error(lesson, ok)
	}
	// Not deeper: 3 comes of 2, that isn't there, and comes of 1.
	d := z.Add([]int{-5, -1, -3})
	if lesson, ok := learn.From(z, d); !ok || fmt.Sprint(lesson) != "{[-5 -1 -3] 1 [1 3 5]}" {
		t.Error(lesson, ok)
	}
}

func TestBack(t *testing.T) {
	x := prop.New(9)
	x.Decide(1)
	x.Decide(2)
	x.Decide(3)
	x.Decide(4)
	for _, test := range []struct {
		clause []int
		want   string
	}{
		{[]int{-1, -2, -4}, "{[-4 -1 -2] 2 [1 2 4]}"},
		{[]int{-3, -1}, "{[-3 -1] 1 [1 3]}"},
		{[]int{-2}, "{[-2] 0 [2]}"},
		{[]int{-4, -3, -2, -1}, "{[-4 -1 -2 -3] 3 [1 2 3 4]}"},
	} {
		if lesson, ok := learn.From(x, x.Add(test.clause)); !ok || fmt.Sprint(lesson) != test.want {
			t.Errorf("%v: %v, %v", test.clause, lesson, ok)
		}
	}
}

func TestNoConflict(t *testing.T) {
	x := trail(4, []int{-1, 2}, []int{3, 4}, []int{-1, -2})
	zero := func(n int) {
		t.Helper()
		if lesson, ok := learn.From(x, n); ok || lesson.Back != 0 || len(lesson.Clause)+len(lesson.Atoms) != 0 {
			t.Errorf("From(%d) = %v, %v", n, lesson, ok)
		}
	}
	for _, n := range []int{-1, 0, 1, 2, 3, math.MaxInt, math.MinInt} {
		zero(n)
	}
	x.Decide(1)
	x.Set(2, 0)
	zero(0)
	zero(1)
	if lesson, ok := learn.From(x, 2); !ok || fmt.Sprint(lesson) != "{[-1] 0 [1 2]}" {
		t.Error(lesson, ok)
	}
	x.Drop(0)
	zero(2)
	x.Drop(2)
	zero(2)
	// Two literals of one level, the last one without a reason.
	y := trail(3, []int{-1, -2})
	y.Decide(1)
	y.Set(2, -1)
	if lesson, ok := learn.From(y, 0); ok || len(lesson.Clause) != 0 {
		t.Error(lesson, ok)
	}
	// Reasons that go round end.
	z := trail(4, []int{1, -3}, []int{2, -3}, []int{3, -1, -2}, []int{-1, -2})
	z.Decide(-4)
	z.Set(1, 0)
	z.Set(2, 1)
	z.Set(3, 2)
	learn.From(z, 3)
	learn.Why(z, 1)
}

func TestLevelZero(t *testing.T) {
	x := trail(3, []int{1}, []int{-1, 2}, []int{-1, -2})
	lesson, ok := learn.From(x, x.Follow())
	if !ok || lesson.Back != 0 || len(lesson.Clause)+len(lesson.Atoms) != 0 {
		t.Error(lesson, ok)
	}
}

func TestLevels(t *testing.T) {
	x := trail(6, []int{-1, 2})
	x.Set(6, -1)
	x.Decide(1)
	x.Follow()
	x.Decide(-3)
	x.Set(4, -1)
	for _, test := range []struct {
		clause []int
		want   int
	}{
		{nil, 0}, {[]int{5}, 0}, {[]int{1, 2}, 1}, {[]int{-1, -2, 5}, 1}, {[]int{6}, 1}, {[]int{6, -1, 3}, 3}, {[]int{3, -4, -2}, 2}, {[]int{0, 7, math.MinInt, math.MaxInt}, 0}, {[]int{1, 1, -1}, 1},
	} {
		if n := learn.Levels(x, test.clause); n != test.want {
			t.Errorf("Levels(%v) = %d", test.clause, n)
		}
	}
}

func TestWhy(t *testing.T) {
	x := trail(9, []int{-1, 2}, []int{-2, -4, 5}, []int{9}, []int{-9, -4, 6}, []int{-5, -6, 7})
	x.Follow()
	x.Decide(1)
	x.Follow()
	x.Decide(-3)
	x.Decide(4)
	x.Follow()
	for _, test := range []struct {
		literal int
		want    []int
	}{
		{1, []int{1}}, {2, []int{1}}, {-3, []int{-3}}, {5, []int{1, 4}}, {6, []int{4}}, {7, []int{1, 4}}, {9, nil}, {-9, nil}, {-1, nil}, {3, nil}, {8, nil}, {-8, nil}, {0, nil}, {10, nil}, {math.MinInt, nil}, {math.MaxInt, nil},
	} {
		if got := learn.Why(x, test.literal); !slices.Equal(got, test.want) {
			t.Errorf("Why(%d) = %v, not %v", test.literal, got, test.want)
		}
	}
	y := prop.New(5)
	n := y.Add([]int{-1, -2, 3})
	y.Set(5, -1)
	y.Decide(-4)
	y.Set(2, -1)
	y.Set(1, -1)
	y.Set(3, n)
	if got := learn.Why(y, 3); !slices.Equal(got, []int{1, 2}) {
		t.Error("what was set comes of nothing:", got)
	}
	if got := learn.Why(y, 5); len(got) != 0 {
		t.Error("what is of the level 0 comes of nothing that was decided:", got)
	}
}

// plainly learns by the words of the chapter, and holds that against what is answered.
func plainly(t *testing.T, x *prop.Trail, conflict int) learn.Lesson {
	t.Helper()
	place := map[int]int{}
	for i, l := range x.List() {
		place[-l] = i
	}
	levelOf := func(l int) int { level, _ := x.At(max(l, -l)); return level }
	reasonOf := func(l int) []int { _, r := x.At(max(l, -l)); return x.Clause(r) }
	top := 0
	for _, l := range x.Clause(conflict) {
		top = max(top, levelOf(l))
	}
	now := map[int]bool{}
	met := map[int]bool{}
	take := func(c []int, but int) {
		for _, l := range c {
			if l != but && levelOf(l) > 0 {
				now[l] = true
				met[max(l, -l)] = true
			}
		}
	}
	take(x.Clause(conflict), 0)
	first := 0
	for top > 0 {
		n, last := 0, 0
		for l := range now {
			if levelOf(l) == top {
				n++
				if last == 0 || place[l] > place[last] {
					last = l
				}
			}
		}
		first = last
		if n == 1 {
			break
		}
		delete(now, last)
		take(reasonOf(last), -last)
	}
	var want learn.Lesson
	for l := range now {
		goes := l != first && len(reasonOf(l)) > 0
		for _, o := range reasonOf(l) {
			goes = goes && (o == -l || levelOf(o) == 0 || now[o])
		}
		if !goes && l != first {
			want.Clause = append(want.Clause, l)
			want.Back = max(want.Back, levelOf(l))
		}
	}
	slices.SortFunc(want.Clause, func(a, b int) int { return max(a, -a) - max(b, -b) })
	if first != 0 {
		want.Clause = append([]int{first}, want.Clause...)
	}
	for a := range met {
		want.Atoms = append(want.Atoms, a)
	}
	slices.Sort(want.Atoms)
	got, ok := learn.From(x, conflict)
	if !ok || fmt.Sprint(got) != fmt.Sprint(want) {
		t.Fatalf("%v, %v, not %v", got, ok, want)
	}
	return got
}

// TestLearning is P19.1 to P19.3, for clauses that are gone through by deciding, following and learning.
func TestLearning(t *testing.T) {
	r := rand.New(rand.NewSource(19))
	conflicts, shorter := 0, 0
	for range 600 {
		n := 3 + r.Intn(7)
		x := prop.New(n)
		var clauses [][]int
		for range 2*n + r.Intn(3*n) {
			var c []int
			for range 2 + r.Intn(2) {
				c = append(c, (1+r.Intn(n))*(1-2*r.Intn(2)))
			}
			if x.Add(c) >= 0 {
				clauses = append(clauses, c)
			}
		}
		for range 40 {
			conflict := x.Follow()
			if conflict < 0 {
				l := 0
				for a := 1; a <= n; a++ {
					if x.Value(a) == 0 {
						l = a * (1 - 2*r.Intn(2))
						break
					}
				}
				if l == 0 {
					break
				}
				if !slices.Equal(learn.Why(x, l), nil) {
					t.Fatal("Why of an open literal")
				}
				x.Decide(l)
				if !slices.Equal(learn.Why(x, l), []int{l}) {
					t.Fatal("Why of a decided literal")
				}
				continue
			}
			conflicts++
			before := fmt.Sprint(x.List(), x.Level(), x.Clauses())
			lesson := plainly(t, x, conflict)
			if fmt.Sprint(x.List(), x.Level(), x.Clauses()) != before {
				t.Fatal("what was handed in is changed")
			}
			shorter += len(lesson.Atoms) - len(lesson.Clause)
			follows(t, n, clauses, lesson.Clause)
			if len(lesson.Clause) == 0 {
				break
			}
			x.Back(lesson.Back)
			for i, l := range lesson.Clause {
				if v := x.Value(l); i == 0 && v != 0 || i > 0 && v != -1 {
					t.Fatalf("%v does not assert at the level %d", lesson.Clause, lesson.Back)
				}
			}
			x.Add(lesson.Clause)
		}
	}
	if conflicts < 500 || shorter < 100 {
		t.Errorf("just %d conflicts", conflicts)
	}
}

// follows fails, if there is a model of clauses in which another clause doesn't hold.
func follows(t *testing.T, n int, clauses [][]int, clause []int) {
	t.Helper()
	for bits := range 1 << n {
		model := make([]bool, n)
		for i := range model {
			model[i] = bits>>i&1 > 0
		}
		if cnf.Holds(clauses, model) && !cnf.Holds([][]int{clause}, model) {
			t.Fatalf("%v does not follow of %v: %v", clause, clauses, model)
		}
	}
}

func TestAnswersAreNew(t *testing.T) {
	x := trail(5, []int{-1, -2, 3}, []int{-2, -3, 4}, []int{-3, -4})
	x.Decide(1)
	x.Decide(2)
	conflict := x.Follow()
	a, _ := learn.From(x, conflict)
	want := fmt.Sprint(a)
	a.Clause[0], a.Atoms[0] = 99, 99
	if b, _ := learn.From(x, conflict); fmt.Sprint(b) != want {
		t.Error(b)
	}
}

func TestNil(t *testing.T) {
	if lesson, ok := learn.From(nil, 0); ok || len(lesson.Clause) != 0 || learn.Levels(nil, []int{1}) != 0 || len(learn.Why(nil, 1)) != 0 {
		t.Error("a nil trail teaches something")
	}
}
