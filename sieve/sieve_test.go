package sieve_test

import (
	"fmt"
	"testing"

	"cooper/cnf"
	"cooper/sieve"
)

func TestLeftOut(t *testing.T) {
	tests := []struct {
		do   func(*cnf.Builder)
		want string
	}{
		{func(b *cnf.Builder) { sieve.Add(b, 1, -2); sieve.Add(b, 1, 0); sieve.Add(b) }, "[[1 -2] []]"},
		{func(b *cnf.Builder) { sieve.All(b, 1, 2, 3) }, "[[-1 2] [-1 3] [1 -2 -3]]"},
		{func(b *cnf.Builder) { sieve.All(b, 1, 2, 0) }, "[[-1 2]]"},
		{func(b *cnf.Builder) { sieve.All(b, 0, 2, 3) }, "[]"},
		{func(b *cnf.Builder) { sieve.Any(b, 1, 2, 3) }, "[[-1 2 3] [1 -2] [1 -3]]"},
		{func(b *cnf.Builder) { sieve.Any(b, 1, 2, 0) }, "[[1 -2]]"},
		{func(b *cnf.Builder) { sieve.Choice(b, 1, 2, 3) }, "[[-1 2 3] [-2 -3] [1 -2] [1 -3]]"},
		{func(b *cnf.Builder) { sieve.Choice(b, 1, 2, 3, 0) }, "[[-2 -3] [1 -2] [1 -3]]"},
	}
	for i, x := range tests {
		b := cnf.New()
		x.do(b)
		if got := fmt.Sprint(b.Clauses()); got != x.want || b.Bad() {
			t.Errorf("%d: %s, not %s", i, got, x.want)
		}
	}
}
