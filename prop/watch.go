package prop

import "math"

// clause is a clause that is there, and the places of two of its literals that it watches: as long as both aren't not so, nothing follows of it. (Where one is not so, and that was looked at, the other is so, and stays so as long as that counts as looked at.)
type clause struct {
	form          []int
	first, second int // -1: none
}

// spot is a literal's place in the watches.
func spot(l int) int {
	if l < 0 {
		return -2*l + 1
	}
	return 2 * l
}

// examine looks at a clause as a whole, and chooses what it watches; it answers the clause, if it is a conflict, else -1.
func (t *Trail) examine(n int) int {
	c := &t.clauses[n]
	if c.form == nil {
		return -1
	}
	first, second := t.latest(c.form)
	if first < 0 || t.value(c.form[first]) < 0 {
		return n
	}
	l := c.form[first]
	if t.value(l) == 0 && (second < 0 || t.value(c.form[second]) < 0) {
		t.push(l, n)
	}
	if second < 0 {
		return -1
	}
	for _, place := range []int{first, second} {
		if place != c.first && place != c.second {
			t.watch(n, c.form[place])
		}
	}
	c.first, c.second = first, second
	return -1
}

// latest are the places of the two literals of a form that are not so last: going back, they are open again first.
func (t *Trail) latest(form []int) (int, int) {
	first, second := -1, -1
	for i := range form {
		switch {
		case first < 0 || t.lasts(form[i]) > t.lasts(form[first]):
			first, second = i, first
		case second < 0 || t.lasts(form[i]) > t.lasts(form[second]):
			second = i
		}
	}
	return first, second
}

// lasts tells how late a literal became not so.
func (t *Trail) lasts(l int) int {
	if t.value(l) >= 0 {
		return math.MaxInt
	}
	return t.atoms[atomOf(l)].place
}

func (t *Trail) watch(n, l int) { t.watches[spot(l)] = append(t.watches[spot(l)], n) }

// visit looks at the clauses that watch a literal that isn't so; it answers a conflict, or -1.
func (t *Trail) visit(l int) int {
	row := t.watches[spot(l)]
	kept := row[:0]
	for i, n := range row {
		stays, conflict := t.look(n, l)
		if stays {
			kept = append(kept, n)
		}
		if conflict {
			t.watches[spot(l)] = append(kept, row[i+1:]...)
			return n
		}
	}
	t.watches[spot(l)] = kept
	return -1
}

// look looks at a clause for which a literal isn't so any more: whether it still watches that, and whether it is a conflict.
func (t *Trail) look(n, l int) (stays, conflict bool) {
	c := &t.clauses[n]
	if c.form == nil {
		return false, false
	}
	if c.form[c.first] != l {
		c.first, c.second = c.second, c.first
	}
	if c.form[c.first] != l {
		// It watches others since it was examined again.
		return false, false
	}
	other := c.form[c.second]
	if t.value(other) > 0 {
		return true, false
	}
	for i, x := range c.form {
		if i != c.second && t.value(x) >= 0 {
			c.first = i
			t.watch(n, x)
			return false, false
		}
	}
	if t.value(other) < 0 {
		return true, true
	}
	t.push(other, n)
	return true, false
}
