package promises

import (
	"fmt"
	"math"
	"math/rand"
	"testing"

	"cooper/api"
	"cooper/check"
	"cooper/choice"
	"cooper/concrete"
	"cooper/core"
	"cooper/cost"
	"cooper/descent"
	"cooper/edge"
	"cooper/formula"
	"cooper/graph"
	"cooper/lock"
	"cooper/needs"
	"cooper/order"
	"cooper/print"
	"cooper/recipe"
	"cooper/request"
	"cooper/spans"
	"cooper/store"
	"cooper/variant"
)

// odd makes values that no text has.
type odd struct{ *rand.Rand }

func (o odd) text() string {
	return pick(o.Rand, "", "a", "b", "c", "v", "1", "2", "01", "on", "*", "@", "a b", "\xff\n", "x")
}

func (o odd) number() int {
	l := []int{0, 1, 2, -1, 25, math.MaxInt, math.MinInt}
	return l[o.Intn(len(l))]
}

// list is some of what is made.
func list[T any](o odd, most int, one func() T) []T {
	var out []T
	for range o.Intn(most + 1) {
		out = append(out, one())
	}
	return out
}

func (o odd) span() api.Span { return api.Span{Lo: o.text(), Hi: o.text()} }

func (o odd) setting() api.Setting { return api.Setting{Name: o.text(), Value: o.text()} }

func (o odd) spec() api.Spec {
	return api.Spec{Name: o.text(), Spans: list(o, 3, o.span), Settings: list(o, 2, o.setting)}
}

func (o odd) variant() api.Variant {
	return api.Variant{Name: o.text(), Values: list(o, 3, o.text)}
}

func (o odd) pack() api.Package {
	return api.Package{
		Name: o.text(), Line: o.number(),
		Releases: list(o, 3, func() api.Release { return api.Release{Version: o.text(), Old: o.Intn(2) == 0} }),
		Variants: list(o, 3, o.variant),
		Provides: list(o, 3, o.text),
		Depends:  list(o, 4, func() api.Depend { return api.Depend{On: o.spec(), When: o.spec(), Line: o.number()} }),
		Conflicts: list(o, 3, func() api.Conflict {
			return api.Conflict{When: o.spec(), With: o.spec(), Line: o.number()}
		}),
		Files: list(o, 3, o.text),
	}
}

func (o odd) recipe() api.Recipe {
	return api.Recipe{Packages: list(o, 6, o.pack), Prefers: list(o, 3, func() api.Prefer {
		return api.Prefer{Virtual: o.text(), Names: list(o, 3, o.text), Line: o.number()}
	})}
}

func (o odd) request() api.Request {
	return api.Request{Roots: list(o, 3, func() api.Root { return api.Root{Spec: o.spec(), Line: o.number()} })}
}

func (o odd) graph() api.Graph {
	return api.Graph{Nodes: list(o, 5, func() api.Node {
		return api.Node{Name: o.text(), Version: o.text(), Settings: list(o, 2, o.setting), Needs: list(o, 3, o.text)}
	})}
}

// TestOddValues is R1 and R3: at values that no text has calls end, and change nothing.
func TestOddValues(t *testing.T) {
	o := odd{rand.New(rand.NewSource(1))}
	for range 3000 {
		x, q, g := o.recipe(), o.request(), o.graph()
		kept := fmt.Sprintf("%q %q %q", fmt.Sprint(x), fmt.Sprint(q), fmt.Sprint(g))
		everyCall(o, x, q, g)
		if now := fmt.Sprintf("%q %q %q", fmt.Sprint(x), fmt.Sprint(q), fmt.Sprint(g)); now != kept {
			t.Fatalf("%s\n%s", kept, now)
		}
	}
}

func everyCall(o odd, x api.Recipe, q api.Request, g api.Graph) {
	check.Recipe(x)
	check.Request(x, q)
	check.Find(x, o.text())
	check.Providers(x, o.text())
	check.Virtual(x, o.text())
	print.Recipe(x)
	print.Wish(o.spec())
	print.Condition(o.spec())
	print.Same(x, o.recipe())
	request.Text(q)
	request.Same(q, o.request())
	recipe.Wish([]api.Word{{Col: o.number(), Text: o.text()}, {Col: o.number(), Text: o.text()}}, o.number())
	recipe.Condition([]api.Word{{Col: o.number(), Text: o.text()}, {Col: o.number(), Text: o.text()}}, o.number())
	needs.Closure(x, q)
	needs.Names(x, q)
	needs.Rank(o.pack(), o.text())
	needs.Prefer(x, o.text(), o.text())
	needs.Targets(x, o.text())
	l := list(o, 3, o.variant)
	variant.Legal(l, list(o, 3, o.setting))
	variant.Both(list(o, 2, o.setting), list(o, 2, o.setting))
	variant.Unusual(l, list(o, 3, o.setting))
	spans.Union(list(o, 4, o.span), list(o, 4, o.span))
	spans.Meet(list(o, 4, o.span), list(o, 4, o.span))

	ground := choice.New(x, q, 200)
	ground.Choices()
	edge.Edges(ground)
	edge.Meet(ground, o.number(), o.number(), o.number(), o.spec())
	order.Orders(ground)
	formula.Build(x, q, 200)
	cost.Of(x, q, g)
	cost.Holds(api.Node{Name: o.text(), Version: o.text()}, o.spec())
	descent.Best(x, q, 200, 10)
	core.Why(x, q, 200, 10)
	core.Admits(x, q, []int{o.number(), o.number()}, 200, 10)
	graph.Check(x, q, g)
	graph.Order(g)
	lock.Write(g)
	lock.Again(x, q, o.text())
	store.Lower(g)
	store.Environment(x, q, g)
	concrete.Report(api.Outcome{Kind: uint8(o.Intn(9)), In: 9, Err: api.Errno(o.number()), Graph: g})
}
