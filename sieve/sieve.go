// Package sieve adds clauses to a builder, but for those that have an atom without a number (a literal 0): the table of their atoms is full then, and the builder shall not become bad of it.
package sieve

import (
	"slices"

	"cooper/cnf"
)

// Add adds a clause.
func Add(b *cnf.Builder, l ...int) {
	if !slices.Contains(l, 0) {
		b.Add(l...)
	}
}

// All adds that a literal is so just if all are.
func All(b *cnf.Builder, x int, l ...int) {
	last := []int{x}
	for _, y := range l {
		Add(b, -x, y)
		last = append(last, -y)
	}
	Add(b, last...)
}

// Any adds that a literal is so just if one is.
func Any(b *cnf.Builder, x int, l ...int) {
	Add(b, slices.Concat([]int{-x}, l)...)
	for _, y := range l {
		Add(b, -y, x)
	}
}

// Choice adds that of a row just one is so if a literal is, and none if not.
func Choice(b *cnf.Builder, x int, l ...int) {
	Add(b, slices.Concat([]int{-x}, l)...)
	b.Most(numbered(l)...)
	for _, y := range l {
		Add(b, -y, x)
	}
}

// numbered are the literals of a row whose atoms have numbers.
func numbered(l []int) []int {
	var out []int
	for _, x := range l {
		if x != 0 {
			out = append(out, x)
		}
	}
	return out
}
