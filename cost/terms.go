package cost

import (
	"cooper/api"
	"cooper/formula"
	"cooper/needs"
)

// Terms are the terms of a sum.
func Terms(f *formula.Formula, sum int) []api.Term {
	if f == nil {
		return nil
	}
	g := f.Ground()
	w := &weigher{f: f, x: g.Recipe()}
	isRoot := roots(w.x, g.Request())
	for _, p := range g.Places() {
		switch sum {
		case oldSum:
			w.releases(p, func(r api.Release) int { return b2i(r.Old) })
		case rootSum, otherSum:
			if isRoot(p) == (sum == rootSum) {
				w.releases(p, func(r api.Release) int { return needs.Rank(w.x.Packages[p], r.Version) })
			}
		case unusualSum:
			w.values(p)
		case nodeSum:
			w.add(f.Number(api.Atom{Kind: api.NodeAtom, A: p}), 1)
		}
	}
	if sum == virtualSum {
		w.virtuals(needs.Names(w.x, g.Request()))
	}
	return w.terms
}

// weigher gathers terms.
type weigher struct {
	f     *formula.Formula
	x     api.Recipe
	terms []api.Term
}

func (w *weigher) add(literal, weight int) {
	if literal != 0 && weight > 0 {
		w.terms = append(w.terms, api.Term{Literal: literal, Weight: weight})
	}
}

// releases adds the releases of the package at a place, each by its weight.
func (w *weigher) releases(p int, weight func(api.Release) int) {
	for i, r := range w.x.Packages[p].Releases {
		w.add(w.f.Number(api.Atom{Kind: api.ReleaseAtom, A: p, B: i}), weight(r))
	}
}

// values adds the values of the package at a place that aren't the usual ones.
func (w *weigher) values(p int) {
	for i, v := range w.x.Packages[p].Variants {
		for k := 1; k < len(v.Values); k++ {
			w.add(w.f.Number(api.Atom{Kind: api.ValueAtom, A: p, B: i, C: k}), 1)
		}
	}
}

// virtuals adds, of each virtual name, what provides it and isn't the one that is preferred.
func (w *weigher) virtuals(names []string) {
	g := w.f.Ground()
	for n, name := range names {
		for _, t := range needs.Targets(w.x, name) {
			rank := needs.Prefer(w.x, name, w.x.Packages[t].Name)
			if rank == 0 {
				continue
			}
			// Of a full table it has no number, and no clauses.
			if help := g.Table().Help(); help != 0 {
				g.Builder().All(help, w.f.Number(api.Atom{Kind: api.NeedAtom, A: n}), w.f.Number(api.Atom{Kind: api.NodeAtom, A: t}))
				w.add(help, rank)
			}
		}
	}
}

func b2i(b bool) int {
	if b {
		return 1
	}
	return 0
}
