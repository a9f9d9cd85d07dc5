package edge

import (
	"slices"

	"cooper/api"
	"cooper/sieve"
	"cooper/spans"
)

// meet is the MeetAtom of a wish or condition at a package; its clauses are built with its number.
func (b *part) meet(p, rule, c int, s api.Spec) int {
	if !b.g.Has(p) {
		return 0
	}
	atom := api.Atom{Kind: api.MeetAtom, A: p, B: rule, C: c}
	if n := b.g.Table().Look(atom); n != 0 {
		return n
	}
	meet := b.g.Number(atom)
	row := []int{b.number(api.NodeAtom, p, 0)}
	if !hasAll(s.Spans) {
		row = append(row, b.set(p, s.Spans))
	}
	for _, setting := range s.Settings {
		value, ok := b.value(p, setting)
		if !ok {
			// Such a package can't be as the wish says.
			b.add(-meet)
			return meet
		}
		row = append(row, value)
	}
	sieve.All(b.g.Builder(), meet, row...)
	return meet
}

// set is a HelpAtom that is so just if the package has a release that is in the set.
func (b *part) set(p int, l []api.Span) int {
	help := b.g.Table().Help()
	var row []int
	for i, r := range b.x.Packages[p].Releases {
		if spans.Has(l, r.Version) {
			row = append(row, b.number(api.ReleaseAtom, p, i))
		}
	}
	sieve.Any(b.g.Builder(), help, row...)
	return help
}

// value is the atom of a setting of a package, if it has such a one.
func (b *part) value(p int, s api.Setting) (int, bool) {
	for i, v := range b.x.Packages[p].Variants {
		if k := slices.Index(v.Values, s.Value); v.Name == s.Name && k >= 0 {
			return b.g.Number(api.Atom{Kind: api.ValueAtom, A: p, B: i, C: k}), true
		}
	}
	return 0, false
}

// hasAll tells whether a set is that of all versions.
func hasAll(l []api.Span) bool {
	form, ok := spans.Form(l)
	return ok && len(form) == 1 && form[0] == api.Span{}
}
