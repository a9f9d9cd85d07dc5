package graph

import (
	"slices"

	"cooper/api"
	"cooper/check"
	"cooper/cost"
	"cooper/needs"
	"cooper/variant"
)

// checker looks for breaches of a graph.
type checker struct {
	x       api.Recipe
	q       api.Request
	g       api.Graph
	ways    ways
	isRoot  []bool // by the places of nodes
	reached []bool // from a root
}

func newChecker(x api.Recipe, q api.Request, g api.Graph) *checker {
	c := &checker{x: x, q: q, g: g, ways: newWays(g), isRoot: make([]bool, len(g.Nodes))}
	var roots []int
	for i, n := range g.Nodes {
		p := check.Find(x, n.Name)
		c.isRoot[i] = slices.ContainsFunc(q.Roots, func(root api.Root) bool {
			return slices.Contains(needs.Targets(x, root.Spec.Name), p)
		})
		if c.isRoot[i] {
			roots = append(roots, i)
		}
	}
	c.reached = c.ways.from(roots)
	return c
}

// eachNode looks for the first node with which something is wrong.
func (c *checker) eachNode(code uint8, wrong func(place int) bool) func() api.Breach {
	return func() api.Breach {
		for i, n := range c.g.Nodes {
			if wrong(i) {
				return api.Breach{Code: code, Name: n.Name}
			}
		}
		return api.Breach{}
	}
}

// pack is the package of the node at a place; an empty one, if there is none.
func (c *checker) pack(place int) api.Package {
	if p := check.Find(c.x, c.g.Nodes[place].Name); p >= 0 {
		return c.x.Packages[p]
	}
	return api.Package{}
}

// active are the depends of the node at a place whose conditions hold.
func (c *checker) active(place int) []api.Depend {
	var out []api.Depend
	for _, d := range c.pack(place).Depends {
		if cost.Holds(c.g.Nodes[place], d.When) {
			out = append(out, d)
		}
	}
	return out
}

// meets tells whether there is a node of a wish's name that is as it says.
func (c *checker) meets(s api.Spec) bool {
	place := Find(c.g, s.Name)
	return place >= 0 && cost.Holds(c.g.Nodes[place], s)
}

// isPackage tells whether a name is a package's.
func (c *checker) isPackage(name string) bool { return check.Find(c.x, name) >= 0 }

func (c *checker) wrongName(place int) bool {
	name := c.g.Nodes[place].Name
	return !c.isPackage(name) || place > 0 && c.g.Nodes[place-1].Name >= name
}

func (c *checker) wrongVersion(place int) bool {
	return needs.Rank(c.pack(place), c.g.Nodes[place].Version) < 0
}

func (c *checker) wrongSettings(place int) bool {
	return !variant.Legal(c.pack(place).Variants, c.g.Nodes[place].Settings)
}

func (c *checker) roots() api.Breach {
	for _, root := range c.q.Roots {
		if c.isPackage(root.Spec.Name) && !c.meets(root.Spec) {
			return api.Breach{Code: api.BreachRoot, Name: root.Spec.Name}
		}
	}
	return api.Breach{}
}

func (c *checker) wrongDepend(place int) bool {
	return slices.ContainsFunc(c.active(place), func(d api.Depend) bool {
		return c.isPackage(d.On.Name) && !c.meets(d.On)
	})
}

func (c *checker) virtuals() api.Breach {
	for _, name := range needs.Names(c.x, c.q) {
		if c.isNeeded(name) && c.providers(name) != 1 {
			return api.Breach{Code: api.BreachVirtual, Name: name}
		}
	}
	return api.Breach{}
}

// isNeeded tells whether a root names a name, or a depend of a node whose condition holds.
func (c *checker) isNeeded(name string) bool {
	if slices.ContainsFunc(c.q.Roots, func(root api.Root) bool { return root.Spec.Name == name }) {
		return true
	}
	for i := range c.g.Nodes {
		if slices.ContainsFunc(c.active(i), func(d api.Depend) bool { return d.On.Name == name }) {
			return true
		}
	}
	return false
}

// providers is how many nodes provide a name.
func (c *checker) providers(name string) int {
	n := 0
	for i := range c.g.Nodes {
		if slices.Contains(c.pack(i).Provides, name) {
			n++
		}
	}
	return n
}

func (c *checker) inConflict(place int) bool {
	return slices.ContainsFunc(c.pack(place).Conflicts, func(f api.Conflict) bool {
		return cost.Holds(c.g.Nodes[place], f.When) && (f.With.Name == "" || c.meets(f.With))
	})
}

func (c *checker) wrongNeeds(place int) bool {
	var want []string
	for _, d := range c.active(place) {
		for _, t := range needs.Targets(c.x, d.On.Name) {
			if name := c.x.Packages[t].Name; Find(c.g, name) >= 0 {
				want = append(want, name)
			}
		}
	}
	slices.Sort(want)
	return !slices.Equal(c.g.Nodes[place].Needs, slices.Compact(want))
}

func (c *checker) inCircle(place int) bool { return c.ways.from([]int{place})[place] }

func (c *checker) unreached(place int) bool { return !c.isRoot[place] && !c.reached[place] }
