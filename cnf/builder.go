package cnf

import (
	"slices"

	"cooper/api"
)

// Builder builds clauses.
type Builder struct {
	clauses [][]int
	bad     bool
	full    bool
}

// New is a builder without clauses.
func New() *Builder { return &Builder{} }

// Add adds a clause.
func (b *Builder) Add(l ...int) {
	if b == nil {
		return
	}
	form, ok := Form(l)
	switch {
	case !ok:
		b.bad = b.bad || !allLiterals(l)
	case len(b.clauses) >= api.MaxClauses:
		b.full = true
	default:
		b.clauses = append(b.clauses, form)
	}
}

// Most adds that at most one is so.
func (b *Builder) Most(l ...int) {
	if b == nil {
		return
	}
	for i := range l {
		for k := i + 1; k < len(l); k++ {
			b.Add(-l[i], -l[k])
		}
		// A full builder takes no more, however many pairs there are.
		if b.full {
			return
		}
	}
}

// One adds that just one is so.
func (b *Builder) One(l ...int) {
	b.Add(l...)
	b.Most(l...)
}

// All adds that a literal is so just if all are.
func (b *Builder) All(x int, l ...int) {
	last := []int{x}
	for _, y := range l {
		b.Add(-x, y)
		last = append(last, -y)
	}
	b.Add(last...)
}

// Any adds that a literal is so just if one is.
func (b *Builder) Any(x int, l ...int) {
	b.Add(slices.Concat([]int{-x}, l)...)
	for _, y := range l {
		b.Add(-y, x)
	}
}

// Clauses are the clauses.
func (b *Builder) Clauses() [][]int {
	if b == nil {
		return nil
	}
	out := make([][]int, 0, len(b.clauses))
	for _, c := range b.clauses {
		out = append(out, slices.Clone(c))
	}
	return out
}

// Bad tells whether there was a literal 0.
func (b *Builder) Bad() bool { return b == nil || b.bad }

// Full tells whether there were too many.
func (b *Builder) Full() bool { return b != nil && b.full }
