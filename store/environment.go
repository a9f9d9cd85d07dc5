package store

import (
	"slices"
	"strings"

	"cooper/api"
	"cooper/check"
	"cooper/graph"
	"cooper/needs"
)

// Environment are the links of a graph.
func Environment(x api.Recipe, q api.Request, g api.Graph) ([]api.Link, string, bool) {
	derivations, ok := Lower(g)
	if !ok {
		return nil, "", false
	}
	reached := reachedFrom(g, roots(x, q, g))
	var links []api.Link
	for _, d := range derivations {
		if place := check.Find(x, d.Name); place >= 0 && reached[graph.Find(g, d.Name)] {
			for _, file := range once(x.Packages[place].Files) {
				links = append(links, api.Link{File: file, Path: d.Path})
			}
		}
	}
	slices.SortFunc(links, func(a, b api.Link) int { return strings.Compare(a.File, b.File) })
	for i := 1; i < len(links); i++ {
		if links[i].File == links[i-1].File {
			return nil, links[i].File, false
		}
	}
	return links, "", true
}

// once are files, rising, each once.
func once(files []string) []string {
	out := slices.Clone(files)
	slices.Sort(out)
	return slices.Compact(out)
}

// roots are the places of the nodes whose packages a root names, or that provide the virtual name that it names.
func roots(x api.Recipe, q api.Request, g api.Graph) []int {
	var out []int
	for i, n := range g.Nodes {
		p := check.Find(x, n.Name)
		if slices.ContainsFunc(q.Roots, func(root api.Root) bool {
			return slices.Contains(needs.Targets(x, root.Spec.Name), p)
		}) {
			out = append(out, i)
		}
	}
	return out
}

// reachedFrom tells of each node whether it is one of some, or a way leads to it from one of them.
func reachedFrom(g api.Graph, places []int) []bool {
	out := make([]bool, len(g.Nodes))
	for len(places) > 0 {
		p := places[0]
		places = places[1:]
		if out[p] {
			continue
		}
		out[p] = true
		for _, name := range g.Nodes[p].Needs {
			places = append(places, graph.Find(g, name))
		}
	}
	return out
}
