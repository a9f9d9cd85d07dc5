package promises

// search goes through the models of clauses.
type search struct {
	where [][]int // of each literal the clauses that have its opposite
	all   [][]int
	value []int8
	set   []int
}

func spot(l int) int {
	if l > 0 {
		return 2 * l
	}
	return -2*l + 1
}

func newSearch(n int, clauses [][]int) (*search, bool) {
	s := &search{where: make([][]int, 2*n+2), all: clauses, value: make([]int8, n+1)}
	for i, c := range clauses {
		for _, l := range c {
			s.where[spot(-l)] = append(s.where[spot(-l)], i)
		}
	}
	for _, c := range clauses {
		if len(c) == 0 || len(c) == 1 && !s.assign(c[0]) {
			return s, false
		}
	}
	return s, true
}

func (s *search) so(l int) int8 {
	if l > 0 {
		return s.value[l]
	}
	return -s.value[-l]
}

// assign sets a literal and what follows of it; it tells whether no clause is broken.
func (s *search) assign(l int) bool {
	if v := s.so(l); v != 0 {
		return v > 0
	}
	from := len(s.set)
	s.push(l)
	for i := from; i < len(s.set); i++ {
		for _, c := range s.where[spot(s.set[i])] {
			open, n, done := 0, 0, false
			for _, k := range s.all[c] {
				switch s.so(k) {
				case 1:
					done = true
				case 0:
					open = k
					n++
				}
			}
			if done || n > 1 {
				continue
			}
			if n == 0 {
				return false
			}
			s.push(open)
		}
	}
	return true
}

func (s *search) push(l int) {
	s.set = append(s.set, l)
	if l > 0 {
		s.value[l] = 1
	} else {
		s.value[-l] = -1
	}
}

func (s *search) back(n int) {
	for len(s.set) > n {
		l := s.set[len(s.set)-1]
		s.value[max(l, -l)] = 0
		s.set = s.set[:len(s.set)-1]
	}
}

// each finds all values of the atoms in over for which there is a model, and hands out one model for each.
func (s *search) each(over []int, rest int, found func([]bool)) bool {
	for len(over) > 0 && s.value[over[0]] != 0 {
		over = over[1:]
	}
	at := rest
	if len(over) > 0 {
		at = over[0]
	} else {
		for at < len(s.value) && s.value[at] != 0 {
			at++
		}
	}
	if at >= len(s.value) {
		model := make([]bool, len(s.value)-1)
		for i := range model {
			model[i] = s.value[i+1] > 0
		}
		found(model)
		return true
	}
	some := false
	for _, l := range []int{at, -at} {
		n := len(s.set)
		ok := s.assign(l) && s.each(over, 1, found)
		s.back(n)
		some = some || ok
		if ok && len(over) == 0 {
			return true
		}
	}
	return some
}

// models hands out, for all values of the atoms in over for which there is one, a model in which clauses hold.
func models(n int, clauses [][]int, over []int, found func([]bool)) {
	if s, ok := newSearch(n, clauses); ok {
		s.each(over, 1, found)
	}
}

// upTo are the atoms 1 to n.
func upTo(n int) []int {
	var out []int
	for i := range n {
		out = append(out, i+1)
	}
	return out
}
