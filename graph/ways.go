package graph

import (
	"slices"

	"cooper/api"
)

// ways are where nodes lead to by what they need, by their places.
type ways [][]int

func newWays(g api.Graph) ways {
	// The first node of a name is the one that counts.
	places := map[string]int{}
	for i, n := range slices.Backward(g.Nodes) {
		places[n.Name] = i
	}
	w := make(ways, len(g.Nodes))
	for i, n := range g.Nodes {
		for _, name := range n.Needs {
			if t, ok := places[name]; ok {
				w[i] = append(w[i], t)
			}
		}
	}
	return w
}

// next is the lowest place that isn't done, but all that it leads to is; -1, if there is none.
func (w ways) next(done []bool) int {
	for i := range w {
		if !done[i] && !slices.ContainsFunc(w[i], func(t int) bool { return !done[t] }) {
			return i
		}
	}
	return -1
}

// from are the places to which a way leads from some places.
func (w ways) from(places []int) []bool {
	reached := make([]bool, len(w))
	work := slices.Clone(places)
	for len(work) > 0 {
		p := work[0]
		work = work[1:]
		for _, t := range w[p] {
			if !reached[t] {
				reached[t] = true
				work = append(work, t)
			}
		}
	}
	return reached
}
