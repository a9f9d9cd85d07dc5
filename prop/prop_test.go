package prop_test

import (
	"fmt"
	"math"
	"math/rand"
	"slices"
	"testing"

	"cooper/prop"
)

func TestExample(t *testing.T) {
	trail := prop.New(3)
	if trail.Add([]int{-1, 2}) != 0 || trail.Add([]int{3, -2}) != 1 {
		t.Error("numbers of clauses")
	}
	if !trail.Decide(1) || trail.Follow() != -1 || !slices.Equal(trail.List(), []int{1, 2, 3}) {
		t.Error(trail.List())
	}
	for atom, want := range map[int][2]int{1: {1, -1}, 2: {1, 0}, 3: {1, 1}} {
		if level, reason := trail.At(atom); level != want[0] || reason != want[1] {
			t.Errorf("At(%d) = %d, %d", atom, level, reason)
		}
	}
}

func TestNew(t *testing.T) {
	for n, want := range map[int]int{0: 0, -5: 0, math.MinInt: 0, 7: 7, 65536: 65536, 65537: 65536, math.MaxInt: 65536} {
		trail := prop.New(n)
		if want > 0 && (!trail.Decide(want) || trail.Value(want) != 1 || trail.Add([]int{-want}) != 0) {
			t.Errorf("New(%d) has no atom %d", n, want)
		}
		if trail.Decide(want+1) || trail.Decide(-want-1) || trail.Set(want+1, -1) || trail.Add([]int{1, want + 1}) != -1 || trail.Value(want+1) != 0 {
			t.Errorf("New(%d) has an atom %d", n, want+1)
		}
	}
}

func TestAdd(t *testing.T) {
	trail := prop.New(4)
	for _, c := range [][]int{{0}, {1, -1}, {5}, {-5, 1}, {1, 0}, {math.MinInt}, {math.MaxInt}, {-math.MaxInt}} {
		if n := trail.Add(c); n != -1 || trail.Clauses() != 0 {
			t.Errorf("Add(%v) = %d", c, n)
		}
	}
	c := []int{3, -1, 3}
	if trail.Add(c) != 0 || !slices.Equal(c, []int{3, -1, 3}) {
		t.Error("what was handed in is changed")
	}
	c[0] = 2
	if got := trail.Clause(0); !slices.Equal(got, []int{-1, 3}) {
		t.Error(got)
	}
	trail.Clause(0)[0] = 4
	if got := trail.Clause(0); !slices.Equal(got, []int{-1, 3}) || trail.Clauses() != 1 {
		t.Error("a clause is changed from outside")
	}
	for _, n := range []int{-1, 1, math.MaxInt, math.MinInt} {
		trail.Drop(n)
		if len(trail.Clause(n)) != 0 {
			t.Errorf("Clause(%d)", n)
		}
	}
	trail.Drop(0)
	trail.Drop(0)
	if len(trail.Clause(0)) != 0 || trail.Clauses() != 1 || trail.Add([]int{4}) != 1 {
		t.Error("a number is given again")
	}
}

func TestDecideSetBack(t *testing.T) {
	trail := prop.New(5)
	for _, l := range []int{0, 6, -6, math.MinInt, math.MaxInt} {
		if trail.Decide(l) || trail.Set(l, -1) || trail.Value(l) != 0 || trail.Level() != 0 {
			t.Errorf("Decide(%d)", l)
		}
		if level, reason := trail.At(l); level != -1 || reason != -1 {
			t.Errorf("At(%d) = %d, %d", l, level, reason)
		}
	}
	if !trail.Set(-5, 17) || !trail.Decide(1) || !trail.Decide(-2) || !trail.Set(3, -1) || trail.Level() != 2 {
		t.Error("Set, Decide")
	}
	for _, l := range []int{1, -1, 2, -2, 3, -3, 5, -5} {
		if trail.Decide(l) || trail.Set(l, 0) || trail.Level() != 2 {
			t.Errorf("%d was open", l)
		}
	}
	at := func() string {
		var out []string
		for l := -5; l <= 5; l++ {
			level, reason := trail.At(l)
			out = append(out, fmt.Sprint(l, trail.Value(l), level, reason))
		}
		return fmt.Sprint(trail.List(), trail.Level(), out)
	}
	if got := fmt.Sprint(trail.List()); got != "[-5 1 -2 3]" {
		t.Error(got)
	}
	for atom, want := range map[int][3]int{5: {-1, 0, 17}, 1: {1, 1, -1}, 2: {-1, 2, -1}, 3: {1, 2, -1}, 4: {0, -1, -1}} {
		level, reason := trail.At(atom)
		if trail.Value(atom) != want[0] || trail.Value(-atom) != -want[0] || level != want[1] || reason != want[2] {
			t.Errorf("%d: %d, %d, %d", atom, trail.Value(atom), level, reason)
		}
	}
	before := at()
	trail.Back(2)
	trail.Back(math.MaxInt)
	trail.List()[0] = 4
	if got := at(); got != before {
		t.Errorf("%s, not %s", got, before)
	}
	trail.Back(1)
	if fmt.Sprint(trail.List(), trail.Level()) != "[-5 1] 1" || trail.Value(2) != 0 || trail.Value(3) != 0 {
		t.Error(at())
	}
	trail.Decide(4)
	trail.Back(math.MinInt)
	if fmt.Sprint(trail.List(), trail.Level()) != "[-5] 0" {
		t.Error(at())
	}
}

func TestConflicts(t *testing.T) {
	trail := prop.New(3)
	trail.Add([]int{-1, 2})
	trail.Add([]int{-1, -2})
	trail.Decide(1)
	if c := trail.Follow(); c != 0 && c != 1 {
		t.Error(c)
	}
	if c := trail.Follow(); c != 0 && c != 1 {
		t.Error("a conflict stays one as long as nothing goes:", c)
	}
	trail.Back(0)
	if trail.Follow() != -1 {
		t.Error("a conflict stays where it isn't any more")
	}
	n := trail.Add(nil)
	if n != 2 || trail.Follow() != 2 || trail.Follow() != 2 {
		t.Error("the empty clause is always a conflict")
	}
	trail.Drop(2)
	if trail.Follow() != -1 {
		t.Error("what was dropped is a conflict")
	}
	trail.Add([]int{3})
	trail.Add([]int{-3})
	if c := trail.Follow(); c != 3 && c != 4 || trail.Value(3) == 0 {
		t.Error(c, trail.List())
	}
}

func TestLate(t *testing.T) {
	// What follows of a clause that is added late is so at the level now, and again where that has gone.
	trail := prop.New(4)
	trail.Decide(1)
	trail.Decide(2)
	trail.Decide(3)
	n := trail.Add([]int{-1, 4})
	trail.Follow()
	if level, reason := trail.At(4); level != 3 || reason != n {
		t.Error(level, reason)
	}
	trail.Back(2)
	if trail.Value(4) != 0 {
		t.Error("what went is so")
	}
	trail.Follow()
	if level, reason := trail.At(4); level != 2 || reason != n {
		t.Error(level, reason)
	}
	trail.Drop(n)
	if level, reason := trail.At(4); level != 2 || reason != n || trail.Value(4) != 1 {
		t.Error("what has a dropped clause as reason stays")
	}
	trail.Back(1)
	trail.Follow()
	if trail.Value(4) != 0 {
		t.Error("a dropped clause makes something so")
	}
}

// watchdog holds a trail against the words of the chapter.
type watchdog struct {
	t       *testing.T
	trail   *prop.Trail
	n       int
	clauses map[int][]int
}

func (w *watchdog) all(c []int, value int) bool {
	for _, l := range c {
		if w.trail.Value(l) != value {
			return false
		}
	}
	return true
}

// follow calls Follow, and looks at what it put on the trail and what it answers.
func (w *watchdog) follow() {
	before := w.trail.List()
	level := w.trail.Level()
	conflict := w.trail.Follow()
	after := w.trail.List()
	if !slices.Equal(after[:len(before)], before) || w.trail.Level() != level {
		w.t.Fatal("Follow takes something back")
	}
	ahead := map[int]bool{}
	for i, l := range after {
		if i >= len(before) {
			at, reason := w.trail.At(max(l, -l))
			c, ok := w.clauses[reason]
			if at != level || !ok || !slices.Contains(c, l) {
				w.t.Fatalf("%d has the reason %d: %v", l, reason, c)
			}
			for _, x := range c {
				if x != l && !ahead[-x] {
					w.t.Fatalf("%d does not follow of %v behind %v", l, c, after[:i])
				}
			}
		}
		ahead[l] = true
	}
	if conflict >= 0 {
		if c, ok := w.clauses[conflict]; !ok || !w.all(c, -1) {
			w.t.Fatalf("%d is no conflict: %v", conflict, c)
		}
		return
	}
	if conflict != -1 {
		w.t.Fatal(conflict)
	}
	for n, c := range w.clauses {
		open, so := 0, false
		for _, l := range c {
			switch w.trail.Value(l) {
			case 0:
				open++
			case 1:
				so = true
			}
		}
		if !so && open < 2 {
			w.t.Fatalf("something follows of %d, %v: %v", n, c, after)
		}
	}
}

// TestAllThatFollows is P18.2, and P18.1, for rows of calls.
func TestAllThatFollows(t *testing.T) {
	r := rand.New(rand.NewSource(18))
	for range 3000 {
		n := 1 + r.Intn(9)
		w := &watchdog{t: t, trail: prop.New(n), n: n, clauses: map[int][]int{}}
		literal := func() int { return (1 + r.Intn(n)) * (1 - 2*r.Intn(2)) }
		count := 0
		for range 60 {
			switch r.Intn(12) {
			case 0, 1, 2, 3:
				var c []int
				for range 1 + r.Intn(4) {
					if l := literal(); !slices.Contains(c, l) && !slices.Contains(c, -l) {
						c = append(c, l)
					}
				}
				if got := w.trail.Add(c); got != count || w.trail.Clauses() != count+1 {
					t.Fatal(got, count)
				}
				w.clauses[count] = c
				count++
			case 4:
				if count > 0 && r.Intn(2) == 0 {
					k := r.Intn(count)
					w.trail.Drop(k)
					delete(w.clauses, k)
				}
			case 5, 6:
				l := literal()
				open := w.trail.Value(l) == 0
				level := w.trail.Level()
				if got := w.trail.Decide(l); got != open || open && (w.trail.Level() != level+1 || w.trail.Value(l) != 1) {
					t.Fatalf("Decide(%d) = %v", l, got)
				}
			case 7:
				l := literal()
				open := w.trail.Value(l) == 0
				if got := w.trail.Set(l, -1); got != open {
					t.Fatalf("Set(%d) = %v", l, got)
				}
			case 8:
				to := r.Intn(w.trail.Level() + 2)
				var want []int
				for _, l := range w.trail.List() {
					if level, _ := w.trail.At(max(l, -l)); level <= to {
						want = append(want, l)
					}
				}
				level := min(to, w.trail.Level())
				w.trail.Back(to)
				if !slices.Equal(w.trail.List(), want) || w.trail.Level() != level {
					t.Fatalf("Back(%d): %v, not %v", to, w.trail.List(), want)
				}
			default:
				w.follow()
			}
		}
	}
}

// TestAgain: a row of calls comes to the same each time.
func TestAgain(t *testing.T) {
	first := ""
	for range 10 {
		r := rand.New(rand.NewSource(1))
		trail := prop.New(20)
		for range 60 {
			trail.Add([]int{1 + r.Intn(20), -1 - r.Intn(20), 1 + r.Intn(20)})
		}
		got := ""
		for atom := 1; atom <= 20; atom++ {
			trail.Decide(-atom)
			got += fmt.Sprint(trail.Follow(), trail.List())
		}
		if first == "" {
			first = got
		}
		if got != first {
			t.Fatal("another row")
		}
	}
}

func TestNil(t *testing.T) {
	var trail *prop.Trail
	trail.Drop(0)
	trail.Back(0)
	level, reason := trail.At(1)
	if trail.Add([]int{1}) != -1 || trail.Add(nil) != -1 || trail.Follow() != -1 || trail.Decide(1) || trail.Set(1, -1) || trail.Value(1) != 0 || trail.Level() != 0 || level != -1 || reason != -1 || len(trail.List()) != 0 || len(trail.Clause(0)) != 0 || trail.Clauses() != 0 {
		t.Error("a nil trail has something")
	}
}
