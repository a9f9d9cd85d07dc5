package rup

// follows tells whether there is a conflict when the opposites of a clause are so, and what follows of these.
func (c *checker) follows(clause []int) bool {
	defer func() {
		for _, l := range c.set {
			c.values[max(l, -l)] = 0
		}
		c.set = c.set[:0]
	}()
	for _, l := range clause {
		if !c.assign(-l) {
			return true
		}
	}
	for _, number := range c.short {
		form := c.clauses[number]
		if len(form) == 0 || !c.assign(form[0]) {
			return true
		}
	}
	for i := 0; i < len(c.set); i++ {
		if !c.visit(-c.set[i]) {
			return true
		}
	}
	return false
}

// assign makes a literal so; it tells whether its opposite isn't.
func (c *checker) assign(l int) bool {
	switch c.value(l) {
	case -1:
		return false
	case 0:
		c.set = append(c.set, l)
		if l < 0 {
			c.values[-l] = -1
		} else {
			c.values[l] = 1
		}
	}
	return true
}

func (c *checker) value(l int) int8 {
	if l < 0 {
		return -c.values[-l]
	}
	return c.values[l]
}

// visit looks at the clauses that watch a literal that isn't so; it tells whether none is a conflict.
func (c *checker) visit(l int) bool {
	row := c.watches[spot(l)]
	kept := row[:0]
	for i, number := range row {
		stays, fine := c.look(number, l)
		if stays {
			kept = append(kept, number)
		}
		if !fine {
			c.watches[spot(l)] = append(kept, row[i+1:]...)
			return false
		}
	}
	c.watches[spot(l)] = kept
	return true
}

// look looks at a clause for which a literal isn't so: whether it still watches that, and whether it is no conflict.
func (c *checker) look(number, l int) (stays, fine bool) {
	form := c.clauses[number]
	if form == nil {
		return false, true
	}
	if form[0] == l {
		form[0], form[1] = form[1], form[0]
	}
	if c.value(form[0]) > 0 {
		return true, true
	}
	for i := 2; i < len(form); i++ {
		if c.value(form[i]) >= 0 {
			form[1], form[i] = form[i], form[1]
			c.watches[spot(form[1])] = append(c.watches[spot(form[1])], number)
			return false, true
		}
	}
	return true, c.assign(form[0])
}
