// Package copies copies what is made of lists of lists, so that no two share their memory.
package copies

import (
	"slices"

	"cooper/api"
)

// Recipe is a copy of a recipe.
func Recipe(x api.Recipe) api.Recipe {
	return api.Recipe{Packages: each(x.Packages, pack), Prefers: each(x.Prefers, prefer)}
}

// Request is a copy of a request.
func Request(q api.Request) api.Request {
	return api.Request{Roots: each(q.Roots, root)}
}

// each are copies of the things of a list.
func each[T any](l []T, one func(T) T) []T {
	out := make([]T, 0, len(l))
	for _, t := range l {
		out = append(out, one(t))
	}
	return out
}

func pack(p api.Package) api.Package {
	p.Releases = slices.Clone(p.Releases)
	p.Variants = each(p.Variants, variant)
	p.Provides = slices.Clone(p.Provides)
	p.Depends = each(p.Depends, depend)
	p.Conflicts = each(p.Conflicts, conflict)
	p.Files = slices.Clone(p.Files)
	return p
}

func variant(v api.Variant) api.Variant {
	v.Values = slices.Clone(v.Values)
	return v
}

func depend(d api.Depend) api.Depend {
	d.On, d.When = spec(d.On), spec(d.When)
	return d
}

func conflict(c api.Conflict) api.Conflict {
	c.When, c.With = spec(c.When), spec(c.With)
	return c
}

func spec(s api.Spec) api.Spec {
	s.Spans, s.Settings = slices.Clone(s.Spans), slices.Clone(s.Settings)
	return s
}

func prefer(f api.Prefer) api.Prefer {
	f.Names = slices.Clone(f.Names)
	return f
}

func root(r api.Root) api.Root {
	r.Spec = spec(r.Spec)
	return r
}
