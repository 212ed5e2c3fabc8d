package tests

import (
	"fmt"
	"math"
	"slices"
	"testing"

	"loop.example/g01089/impl"
)

// From this number of nodes on, the tests do not ask how many nodes a formula has.
const manyNodes = 60

// A pair has two models between which there are links.
type pair struct{ m, n impl.Model }

// linkWhere returns the link of the worlds for which holds is true.
func (p pair) linkWhere(holds func(x, y int) bool) []int64 {
	link := make([]int64, p.m.Frame.Worlds)
	for x := range link {
		for y := range int(p.n.Frame.Worlds) {
			if holds(x, y) {
				link[x] += 1 << y
			}
		}
	}
	return link
}

func (p pair) allLinks() []int64 { return p.linkWhere(func(_, _ int) bool { return true }) }

// everyLink ranges over all links between the models. There are few enough worlds for it.
func (p pair) everyLink(yield func(link []int64) bool) {
	for number := range int64(1) << (p.m.Frame.Worlds * p.n.Frame.Worlds) {
		link := p.linkWhere(func(x, y int) bool { return number>>(int64(x)*p.n.Frame.Worlds+int64(y))&1 == 1 })
		if !yield(link) {
			return
		}
	}
}

// variableAt tells whether a variable is true at a world.
func variableAt(m impl.Model, v int, w int) bool { return relates(m.Values, v, w) }

// worldsSeen returns the worlds that a world sees, in ascending order.
func worldsSeen(m impl.Model, w int) []int {
	var seen []int
	for next := range int(m.Frame.Worlds) {
		if relates(m.Frame.Arrows, w, next) {
			seen = append(seen, next)
		}
	}
	return seen
}

func (p pair) haveSameVariables(x, y int) bool {
	for v := range impl.MaxVariables {
		if variableAt(p.m, v, x) != variableAt(p.n, v, y) {
			return false
		}
	}
	return true
}

// aloneBeside returns the least world that x sees and that is linked to no world that y sees, or -1.
func (p pair) aloneBeside(link []int64, x, y int) int {
	for _, next := range worldsSeen(p.m, x) {
		isLinked := func(other int) bool { return relates(link, next, other) }
		if !slices.ContainsFunc(worldsSeen(p.n, y), isLinked) {
			return next
		}
	}
	return -1
}

func (p pair) turned() pair { return pair{p.n, p.m} }

// turnedLink returns the same link from the worlds of n to those of m.
func (p pair) turnedLink(link []int64) []int64 {
	return p.turned().linkWhere(func(y, x int) bool { return relates(link, x, y) })
}

// zigzags tells whether each world that x sees is linked to a world that y sees, and the other way
// round.
func (p pair) zigzags(link []int64, x, y int) bool {
	return p.aloneBeside(link, x, y) < 0 && p.turned().aloneBeside(p.turnedLink(link), y, x) < 0
}

func (p pair) isBisimulation(link []int64) bool {
	return contains(p.linkWhere(func(x, y int) bool { return p.haveSameVariables(x, y) && p.zigzags(link, x, y) }), link)
}

// followers returns the link of the worlds x and y for which a simulation may link x to y, if it has
// no other links than those of a link.
func (p pair) followers(link []int64) []int64 {
	return p.linkWhere(func(x, y int) bool {
		for v := range impl.MaxVariables {
			if variableAt(p.m, v, x) && !variableAt(p.n, v, y) {
				return false
			}
		}
		return p.aloneBeside(link, x, y) < 0
	})
}

func (p pair) isSimulation(link []int64) bool { return contains(p.followers(link), link) }

// rounds returns at each k the link of the k-bisimilar worlds. The last one has those of the
// bisimilar worlds, since there are more rounds than worlds.
func (p pair) rounds() [][]int64 {
	links := [][]int64{p.linkWhere(p.haveSameVariables)}
	for k := range impl.MaxRounds + 4 {
		links = append(links, p.linkWhere(func(x, y int) bool { return p.haveSameVariables(x, y) && p.zigzags(links[k], x, y) }))
	}
	return links
}

func lastOf(links [][]int64) []int64 { return links[len(links)-1] }

// toldApart returns the least k for which two worlds are not k-bisimilar, or -1.
func toldApart(rounds [][]int64, x, y int) int {
	return slices.IndexFunc(rounds, func(link []int64) bool { return !relates(link, x, y) })
}

// joinAllTrees returns what JoinAll does.
func joinAllTrees(kind int64, trees []tree) tree {
	none := atomTree(impl.KindFalse, 0)
	if len(trees) == 0 && kind == impl.KindAnd {
		return joinTrees(impl.KindImply, none, none)
	}
	if len(trees) == 0 {
		return none
	}
	joined := trees[0]
	for _, x := range trees[1:] {
		joined = joinTrees(kind, joined, x)
	}
	return joined
}

// literalTree returns a variable or its negation, whichever is true at a world.
func literalTree(m impl.Model, v, w int) tree {
	x := atomTree(impl.KindVariable, int64(v))
	if variableAt(m, v, w) {
		return x
	}
	return joinTrees(impl.KindImply, x, atomTree(impl.KindFalse, 0))
}

// telling returns the telling formula of two worlds, and whether it has less than manyNodes nodes.
func (p pair) telling(rounds [][]int64, x, y int) (tree, bool) {
	k := toldApart(rounds, x, y)
	if k == 0 {
		v := 0
		for variableAt(p.m, v, x) == variableAt(p.n, v, y) {
			v++
		}
		return literalTree(p.m, v, x), true
	}
	outer, inner := int64(impl.KindDiamond), int64(impl.KindAnd)
	first, second := []int{p.aloneBeside(rounds[k-1], x, y)}, worldsSeen(p.n, y)
	if first[0] < 0 {
		outer, inner = impl.KindBox, impl.KindOr
		first, second = worldsSeen(p.m, x), []int{p.turned().aloneBeside(p.turnedLink(rounds[k-1]), y, x)}
	}
	var parts []tree
	for _, next := range first {
		for _, other := range second {
			part, isSmall := p.telling(rounds, next, other)
			if !isSmall {
				return tree{}, false
			}
			parts = append(parts, part)
		}
	}
	whole := joinTrees(outer, joinAllTrees(inner, parts))
	return whole, len(whole.nodes()) < manyNodes
}

// worldTrees returns, for each world, the formula that WorldFormula returns, and whether it has less
// than manyNodes nodes.
func worldTrees(t *testing.T, m impl.Model, k, variables int) ([]tree, []bool) {
	t.Helper()
	trees, small := make([]tree, m.Frame.Worlds), make([]bool, m.Frame.Worlds)
	var before []tree
	var wereSmall []bool
	if k > 0 {
		before, wereSmall = worldTrees(t, m, k-1, variables)
	}
	for w := range trees {
		var list []tree
		for v := range variables {
			list = append(list, literalTree(m, v, w))
		}
		small[w] = true
		if k > 0 {
			var seen []tree
			for _, next := range worldsSeen(m, w) {
				seen = append(seen, before[next])
				small[w] = small[w] && wereSmall[next]
			}
			if !small[w] {
				continue
			}
			seen = inOrder(seen)
			for _, x := range seen {
				list = append(list, joinTrees(impl.KindDiamond, x))
			}
			list = append(list, joinTrees(impl.KindBox, joinAllTrees(impl.KindOr, seen)))
		}
		trees[w] = joinAllTrees(impl.KindAnd, list)
		small[w] = len(trees[w].nodes()) < manyNodes
	}
	return trees, small
}

// inOrder returns the trees of a list in ascending order of their texts, each once.
func inOrder(trees []tree) []tree {
	byText := map[string]tree{}
	var texts []string
	for _, x := range trees {
		text := x.text()
		if _, known := byText[text]; !known {
			texts = append(texts, text)
		}
		byText[text] = x
	}
	slices.Sort(texts)
	var sorted []tree
	for _, text := range texts {
		sorted = append(sorted, byText[text])
	}
	return sorted
}

// text returns the text of a formula of any size. It has what WorldFormula needs: truth, False,
// variables, their negations, boxes and diamonds, conjunctions of these and of literals, and
// disjunctions below boxes.
func (x tree) text() string {
	below := func(part tree) string {
		if part.node.Kind == impl.KindAnd || part.node.Kind == impl.KindOr {
			return "(" + part.text() + ")"
		}
		return part.text()
	}
	switch x.node.Kind {
	case impl.KindVariable:
		return "pqrstu"[x.node.Symbol : x.node.Symbol+1]
	case impl.KindFalse:
		return "F"
	case impl.KindAnd:
		return x.parts[0].text() + "&" + x.parts[1].text()
	case impl.KindOr:
		return x.parts[0].text() + "|" + x.parts[1].text()
	case impl.KindBox:
		return "[]" + below(x.parts[0])
	case impl.KindDiamond:
		return "<>" + below(x.parts[0])
	}
	if x.parts[0].node.Kind == impl.KindFalse {
		return "T"
	}
	return "~" + below(x.parts[0])
}

// inflated returns a model that has for each world of m one or more that are bisimilar to it.
func inflated(seed *uint64, m impl.Model, worlds int64) impl.Model {
	var origins []int64
	for w := range max(worlds, m.Frame.Worlds) {
		origin := w
		if w >= m.Frame.Worlds {
			origin = nextNumber(seed) % m.Frame.Worlds
		}
		origins = slices.Insert(origins, int(nextNumber(seed)%(w+1)), origin)
	}
	grown := modelWith(frameWith(make([]int64, len(origins))...))
	for w, origin := range origins {
		for next := range m.Frame.Worlds {
			if !relates(m.Frame.Arrows, int(origin), int(next)) {
				continue
			}
			for copied := nextNumber(seed); grown.Frame.Arrows[w]&maskWhere(origins, next) == 0; copied = nextNumber(seed) {
				grown.Frame.Arrows[w] |= copied & maskWhere(origins, next)
			}
		}
		for v := range m.Values {
			if variableAt(m, v, int(origin)) {
				grown.Values[v] += 1 << w
			}
		}
	}
	return grown
}

// maskWhere returns the mask of the indices at which a list has a number.
func maskWhere(list []int64, number int64) int64 {
	var mask int64
	for i, other := range list {
		if other == number {
			mask += 1 << i
		}
	}
	return mask
}

// sparseModel returns a model in which at most some of the variables are true anywhere.
func sparseModel(seed *uint64, worlds int, variables int64) impl.Model {
	m := modelWith(irregularFrame(seed, worlds, 1+int(nextNumber(seed)%4)))
	for v := range variables {
		m.Values[v] = nextNumber(seed) & nextNumber(seed) & (1<<worlds - 1)
	}
	return m
}

// withArrow returns the model with one arrow more or less.
func withArrow(m impl.Model, x, y int64) impl.Model {
	arrows := slices.Clone(m.Frame.Arrows)
	arrows[x] ^= 1 << y
	return impl.Model{Frame: frameWith(arrows...), Values: m.Values}
}

// longestPair returns two models of 8 worlds and p, a cycle and one behind a world: their worlds 0
// are told apart in 14 rounds.
func longestPair() pair {
	return pair{modelWith(frameWith(2, 4, 8, 16, 32, 64, 128, 1), 128), modelWith(frameWith(2, 4, 8, 16, 32, 64, 128, 2), 128)}
}

// samplePairs returns pairs of models of all sizes: unrelated ones, models on named frames, a model
// and one with worlds that are bisimilar to its worlds, and such ones of which one arrow is changed.
func samplePairs() []pair {
	seed := uint64(83)
	var pairs []pair
	for i := range 9 * 9 * 8 {
		worlds, others := i%9, i/9%9
		m, n := sparseModel(&seed, worlds, int64(i%4)), sparseModel(&seed, others, int64(i%3))
		if kind := nextNumber(&seed) % 4; worlds > 0 && kind > 0 {
			n = inflated(&seed, m, int64(others))
			if kind > 1 && i%2 == 0 {
				m = inflated(&seed, m, int64(others))
			}
			if kind == 2 {
				n = withArrow(n, nextNumber(&seed)%n.Frame.Worlds, nextNumber(&seed)%n.Frame.Worlds)
			}
		}
		pairs = append(pairs, pair{m, n})
	}
	pairs = append(pairs, longestPair(), longestPair().turned())
	named := namedFrames()
	for i, f := range named {
		g := named[(i+1)%len(named)]
		all := int64(1)<<f.Worlds - 1
		pairs = append(pairs, pair{modelWith(f), modelWith(f)}, pair{modelWith(f), modelWith(g)}, pair{modelWith(f, all/2), modelWith(f, all&5)}, pair{modelWith(f, 0, all), modelWith(f, 0, all&^4)})
	}
	return pairs
}

// smallModels returns all models of at most 2 worlds in which at most p is true.
func smallModels() []impl.Model {
	var models []impl.Model
	for worlds := range 3 {
		for _, r := range allRelations(worlds) {
			models = append(models, searched(frameWith(r...), []int64{0})...)
		}
	}
	return models
}

// exampleModel is the model of the examples of the chapter.
func exampleModel() impl.Model { return modelWith(frameWith(2, 0)) }

func TestRoundConstant(t *testing.T) {
	if impl.MaxRounds != 16 {
		t.Errorf("MaxRounds = %d", impl.MaxRounds)
	}
}

// expectKinds expects what the definitions say of a link, and returns it.
func (p pair) expectKinds(t *testing.T, link []int64) (bool, bool) {
	t.Helper()
	what := fmt.Sprint(" of ", p, link)
	wantBoth, wantOne := p.isBisimulation(link), p.isSimulation(link)
	both, code := impl.IsBisimulation(p.m, p.n, link)
	expectBool(t, "IsBisimulation"+what, both, code, wantBoth)
	one, code := impl.IsSimulation(p.m, p.n, link)
	expectBool(t, "IsSimulation"+what, one, code, wantOne)
	return wantBoth, wantOne
}

// expectGreatest expects that the greatest links have just what all bisimulations and all
// simulations have.
func (p pair) expectGreatest(t *testing.T) {
	t.Helper()
	bisimilar, simulated := make([]int64, p.m.Frame.Worlds), make([]int64, p.m.Frame.Worlds)
	for link := range p.everyLink {
		both, one := p.expectKinds(t, link)
		for x, linked := range link {
			if both {
				bisimilar[x] |= linked
			}
			if one {
				simulated[x] |= linked
			}
		}
	}
	got, code := impl.GreatestBisimulation(p.m, p.n)
	expectList(t, fmt.Sprint("GreatestBisimulation of ", p), got, code, bisimilar...)
	got, code = impl.GreatestSimulation(p.m, p.n)
	expectList(t, fmt.Sprint("GreatestSimulation of ", p), got, code, simulated...)
}

func TestAllLinksOfSmallModels(t *testing.T) {
	models := smallModels()
	for _, m := range models {
		for _, n := range models {
			pair{m, n}.expectGreatest(t)
		}
	}
}

func TestAllLinksOfThreeWorlds(t *testing.T) {
	seed := uint64(89)
	for i := range 120 {
		m := sparseModel(&seed, i%4, int64(i%3))
		n := sparseModel(&seed, 3, 1)
		if i%2 == 0 && m.Frame.Worlds > 0 {
			n = inflated(&seed, m, 3)
		}
		pair{m, n}.expectGreatest(t)
		pair{n, m}.expectGreatest(t)
	}
}

// expectChanged expects what the definitions say of links that differ from a link in one place.
func (p pair) expectChanged(t *testing.T, seed *uint64, link []int64) {
	t.Helper()
	p.expectKinds(t, link)
	if p.m.Frame.Worlds == 0 || p.n.Frame.Worlds == 0 {
		return
	}
	for range 6 {
		changed := slices.Clone(link)
		changed[nextNumber(seed)%p.m.Frame.Worlds] ^= 1 << (nextNumber(seed) % p.n.Frame.Worlds)
		p.expectKinds(t, changed)
	}
}

func TestLinksOfLargerModels(t *testing.T) {
	seed := uint64(97)
	kinds := map[string]int{}
	for _, p := range samplePairs() {
		none := make([]int64, p.m.Frame.Worlds)
		for _, link := range [][]int64{none, p.allLinks(), p.linkWhere(func(x, y int) bool { return x == y }), p.linkWhere(func(_, _ int) bool { return nextNumber(&seed)%5 == 0 })} {
			both, one := p.expectKinds(t, link)
			kinds[fmt.Sprint(slices.Equal(link, none), both, one)]++
		}
		bisimilar := lastOf(p.rounds())
		got, code := impl.GreatestBisimulation(p.m, p.n)
		expectList(t, fmt.Sprint("GreatestBisimulation of ", p), got, code, bisimilar...)
		simulated := p.allLinks()
		for !p.isSimulation(simulated) {
			fewer := p.followers(simulated)
			simulated = p.linkWhere(func(x, y int) bool { return relates(simulated, x, y) && relates(fewer, x, y) })
		}
		got, code = impl.GreatestSimulation(p.m, p.n)
		expectList(t, fmt.Sprint("GreatestSimulation of ", p), got, code, simulated...)
		p.expectChanged(t, &seed, bisimilar)
		p.expectChanged(t, &seed, simulated)
		if both, _ := p.expectKinds(t, bisimilar); !both || !contains(simulated, bisimilar) {
			t.Errorf("the bisimilar worlds of %v are %v, and the simulated ones %v", p, bisimilar, simulated)
		}
	}
	for _, kind := range []string{"true true true", "false true true", "false false true", "false false false"} {
		if kinds[kind] == 0 {
			t.Errorf("the samples are of kinds %v", kinds)
		}
	}
}

func TestNamedLinks(t *testing.T) {
	m, none, loop := exampleModel(), modelWith(frameWith()), modelWith(frameWith(1))
	eight, chain := modelWith(namedFrames()[1]), modelWith(namedFrames()[5])
	full := slices.Repeat([]int64{255}, 8)
	for _, c := range []struct {
		m, n      impl.Model
		link      []int64
		both, one bool
	}{
		{m, m, []int64{1, 2}, true, true}, {m, m, []int64{3, 3}, false, false}, {m, m, []int64{0, 0}, true, true}, {m, m, []int64{1, 3}, false, true}, {m, m, []int64{1, 0}, false, false}, {m, m, []int64{0, 2}, true, true}, {m, m, []int64{0, 1}, false, true},
		{none, none, nil, true, true}, {none, none, []int64{}, true, true}, {none, eight, nil, true, true}, {eight, none, make([]int64, 8), true, true},
		{loop, eight, []int64{255}, true, true}, {loop, eight, []int64{128}, false, true}, {eight, loop, slices.Repeat([]int64{1}, 8), true, true}, {eight, eight, full, true, true},
		{chain, loop, slices.Repeat([]int64{1}, 8), false, true}, {loop, chain, []int64{255}, false, false}, {chain, chain, full, false, false}, {chain, chain, []int64{1, 2, 4, 8, 16, 32, 64, 128}, true, true},
		// What is true at y may be more for a simulation, not for a bisimulation, and never less.
		{modelWith(frameWith(0)), modelWith(frameWith(0), 0, 1), []int64{1}, false, true}, {modelWith(frameWith(0), 0, 1), modelWith(frameWith(0)), []int64{1}, false, false}, {modelWith(frameWith(0), 0, 0, 0, 0, 0, 1), modelWith(frameWith(0), 0, 0, 0, 0, 0, 1), []int64{1}, true, true},
	} {
		what := fmt.Sprint(" of ", c.m, c.n, c.link)
		both, code := impl.IsBisimulation(c.m, c.n, c.link)
		expectBool(t, "IsBisimulation"+what, both, code, c.both)
		one, code := impl.IsSimulation(c.m, c.n, c.link)
		expectBool(t, "IsSimulation"+what, one, code, c.one)
	}
	got, code := impl.GreatestSimulation(m, m)
	expectList(t, "GreatestSimulation of the example", got, code, 1, 3)
	got, code = impl.GreatestBisimulation(m, m)
	expectList(t, "GreatestBisimulation of the example", got, code, 1, 2)
	got, code = impl.GreatestSimulation(chain, loop)
	expectList(t, "GreatestSimulation of a chain and a loop", got, code, slices.Repeat([]int64{1}, 8)...)
	got, code = impl.GreatestBisimulation(eight, eight)
	expectList(t, "GreatestBisimulation of worlds that see all", got, code, full...)
	got, code = impl.GreatestSimulation(none, eight)
	expectList(t, "GreatestSimulation without worlds", got, code)
	got, code = impl.GreatestBisimulation(eight, none)
	expectList(t, "GreatestBisimulation to no worlds", got, code, make([]int64, 8)...)
}

func TestBoundedBisimulation(t *testing.T) {
	for _, p := range append(samplePairs(), pair{exampleModel(), exampleModel()}) {
		rounds := p.rounds()
		for k := range int64(impl.MaxRounds + 1) {
			got, code := impl.BoundedBisimulation(p.m, p.n, k)
			expectList(t, fmt.Sprint("BoundedBisimulation of ", p, k), got, code, rounds[k]...)
		}
		for _, k := range []int64{-1, impl.MaxRounds + 1, impl.MaxRounds + 2, 64, 1 << 32, math.MinInt64, math.MaxInt64} {
			got, code := impl.BoundedBisimulation(p.m, p.n, k)
			expectNoList(t, fmt.Sprint("BoundedBisimulation of ", p, k), got, code, impl.ErrRange)
		}
	}
	m := exampleModel()
	for k, want := range [][]int64{{3, 3}, {1, 2}, {1, 2}} {
		got, code := impl.BoundedBisimulation(m, m, int64(k))
		expectList(t, fmt.Sprint("BoundedBisimulation of the example, ", k), got, code, want...)
	}
	chain, loop := modelWith(namedFrames()[5]), modelWith(frameWith(1))
	for k := range int64(impl.MaxRounds + 1) {
		want := make([]int64, 8)
		for x := range max(8-k, 0) {
			want[x] = 1
		}
		got, code := impl.BoundedBisimulation(chain, loop, k)
		expectList(t, fmt.Sprint("BoundedBisimulation of a chain and a loop, ", k), got, code, want...)
	}
}

// expectTelling expects what the definitions say of two worlds, and returns the number of rounds, or
// -1, and the number of nodes of the telling formula.
func (p pair) expectTelling(t *testing.T, rounds [][]int64, x, y int) (int, int) {
	t.Helper()
	what := fmt.Sprint(" of ", p, x, y)
	k, code := impl.RoundsToTell(p.m, int64(x), p.n, int64(y))
	a, codeA := impl.TellingFormula(p.m, int64(x), p.n, int64(y))
	want := toldApart(rounds, x, y)
	if want < 0 {
		if k != 0 || code != impl.ErrNotFound {
			t.Errorf("RoundsToTell%s = %d, code %d", what, k, code)
		}
		expectNoNodes(t, "TellingFormula"+what, a, codeA, impl.ErrNotFound)
		return want, 0
	}
	expectNumber(t, "RoundsToTell"+what, k, code, int64(want))
	formula, isSmall := p.telling(rounds, x, y)
	if !isSmall {
		expectNoNodes(t, "TellingFormula"+what, a, codeA, impl.ErrLimit)
		return want, manyNodes
	}
	nodes := formula.nodes()
	if len(nodes) > impl.MaxNodes {
		expectNoNodes(t, "TellingFormula"+what, a, codeA, impl.ErrLimit)
	} else {
		expectNodes(t, "TellingFormula"+what, a, codeA, nodes)
		p.expectTold(t, a, x, y, int64(want))
	}
	return want, len(nodes)
}

// expectTold expects a formula to be true at x and not at y, and its modal depth to be k.
func (p pair) expectTold(t *testing.T, a []impl.Node, x, y int, k int64) {
	t.Helper()
	atX, code := impl.IsTrueAt(p.m, int64(x), a)
	atY, code2 := impl.IsTrueAt(p.n, int64(y), a)
	_, depth, _ := impl.DepthsOf(a)
	if !atX || atY || depth != k || code != impl.ErrNone || code2 != impl.ErrNone {
		t.Errorf("%s is %v at %d and %v at %d of %v, codes %d, %d, and has the depth %d", polish(a), atX, x, atY, y, p, code, code2, depth)
	}
}

func TestTellingFormulas(t *testing.T) {
	found, sizes := map[int]int{}, map[int]int{}
	for _, p := range samplePairs() {
		rounds := p.rounds()
		for x := range int(p.m.Frame.Worlds) {
			for y := range int(p.n.Frame.Worlds) {
				k, size := p.expectTelling(t, rounds, x, y)
				found[k]++
				sizes[size]++
			}
		}
	}
	for _, k := range []int{-1, 0, 1, 2, 3, 4, 5, 6, 7, 8, 9, 10, 11, 12, 13, 14} {
		if found[k] == 0 {
			t.Errorf("worlds are told apart in numbers of rounds %v", found)
		}
	}
	for _, size := range []int{1, 2, 3, 4, 39, 40, 41, 42, manyNodes} {
		if sizes[size] == 0 {
			t.Errorf("telling formulas have numbers of nodes %v", sizes)
		}
	}
}

func TestTellingFormulasOfSmallModels(t *testing.T) {
	models := smallModels()
	for _, m := range models {
		for _, n := range models {
			p := pair{m, n}
			rounds := p.rounds()
			for x := range int(m.Frame.Worlds) {
				for y := range int(n.Frame.Worlds) {
					p.expectTelling(t, rounds, x, y)
				}
			}
		}
	}
}

func TestNamedTellingFormulas(t *testing.T) {
	m, loop, chain, eight := exampleModel(), modelWith(frameWith(1)), modelWith(namedFrames()[5]), modelWith(namedFrames()[1])
	long := longestPair()
	split := modelWith(frameWith(14, 0, 0, 0), 2, 4, 8)
	for _, c := range []struct {
		m    impl.Model
		x    int64
		n    impl.Model
		y    int64
		k    int64
		text string
	}{
		{m, 0, m, 1, 1, "<>T"}, {m, 1, m, 0, 1, "[]F"}, {m, 1, loop, 0, 1, "[]F"}, {loop, 0, m, 0, 2, "<><>T"}, {m, 0, loop, 0, 2, "<>[]F"},
		{chain, 0, loop, 0, 8, "<><><><><><><>[]F"}, {loop, 0, chain, 0, 8, "<><><><><><><><>T"}, {chain, 0, chain, 1, 7, "<><><><><><><>T"}, {chain, 7, eight, 3, 1, "[]F"}, {eight, 7, chain, 7, 1, "<>T"},
		{long.m, 0, long.n, 0, 14, "<><><><><><><><><><><><><><>~p"}, {long.n, 0, long.m, 0, 14, "<><><><><><><><><><><><><><>p"},
		{modelWith(frameWith(0), 0, 1), 0, m, 0, 0, "q"}, {m, 0, modelWith(frameWith(0), 0, 1), 0, 0, "~q"}, {modelWith(frameWith(0), 1, 0, 0, 0, 0, 1), 0, modelWith(frameWith(0), 1), 0, 0, "u"},
		// The least variable, whichever of both worlds it is true at.
		{modelWith(frameWith(0), 0, 0, 1, 1, 0, 1), 0, modelWith(frameWith(0), 0, 1, 0, 1), 0, 0, "~q"},
		// The least world that x sees, and all that y sees in their order.
		{split, 0, modelWith(frameWith(12, 0, 0, 0), 0, 0, 4, 8), 0, 1, "<>(p&p)"}, {split, 0, modelWith(frameWith(6, 0, 0), 2, 4), 0, 1, "<>(~p&~q)"}, {split, 0, modelWith(frameWith(0)), 0, 1, "<>T"},
		{modelWith(frameWith(6, 0, 0), 2, 4), 0, split, 0, 1, "[](p|q)"}, {modelWith(frameWith(0)), 0, split, 0, 1, "[]F"}, {split, 0, modelWith(frameWith(30, 0, 0, 0, 0), 2, 4, 8), 0, 1, "[](p|q|r)"},
	} {
		what := fmt.Sprint(" of ", c.m, c.x, c.n, c.y)
		k, code := impl.RoundsToTell(c.m, c.x, c.n, c.y)
		expectNumber(t, "RoundsToTell"+what, k, code, c.k)
		a, code := impl.TellingFormula(c.m, c.x, c.n, c.y)
		expectText(t, "TellingFormula"+what, a, code, c.text)
	}
	// Worlds that are bisimilar in one model, and in two.
	for _, c := range []struct {
		m impl.Model
		x int64
		n impl.Model
		y int64
	}{{m, 0, m, 0}, {m, 1, chain, 7}, {m, 0, chain, 6}, {chain, 6, m, 0}, {eight, 0, eight, 7}, {loop, 0, eight, 5}, {eight, 5, loop, 0}, {long.m, 3, long.m, 3}} {
		k, code := impl.RoundsToTell(c.m, c.x, c.n, c.y)
		a, code2 := impl.TellingFormula(c.m, c.x, c.n, c.y)
		if k != 0 || code != impl.ErrNotFound || len(a) != 0 || code2 != impl.ErrNotFound {
			t.Errorf("the worlds %d of %v and %d of %v: %d, code %d, %v, code %d", c.x, c.m, c.y, c.n, k, code, a, code2)
		}
	}
}

// Telling formulas of MaxNodes nodes and of one less and one more.
func TestTellingFormulaLimits(t *testing.T) {
	// The world 0 of the first model sees one world, which sees one; the one of the second model
	// sees some, which see those at which p is true, and each of these makes four nodes.
	m := modelWith(frameWith(2, 4, 0))
	for _, c := range []struct {
		n    impl.Model
		size int
	}{
		{modelWith(frameWith(14, 240, 240, 16, 0, 0, 0, 0), 240), impl.MaxNodes - 1},
		{modelWith(frameWith(30, 224, 224, 96, 32, 0, 0, 0), 224), impl.MaxNodes},
		{modelWith(frameWith(62, 192, 192, 192, 192, 64, 0, 0), 192), impl.MaxNodes + 1},
	} {
		p := pair{m, c.n}
		if k, size := p.expectTelling(t, p.rounds(), 0, 0); k != 2 || size != c.size {
			t.Errorf("%v: %d rounds, %d nodes", p, k, size)
		}
		a, code := impl.TellingFormula(m, 0, c.n, 0)
		expectSize(t, fmt.Sprint("TellingFormula of ", p), a, code, c.size)
	}
	// Worlds that many rounds tell apart, with formulas that grow in each of them.
	wide := modelWith(frameWith(254, 252, 248, 240, 224, 192, 128, 0))
	full := modelWith(namedFrames()[1])
	for _, p := range []pair{{wide, full}, {full, wide}, {wide, wide}} {
		rounds := p.rounds()
		for x := range impl.MaxWorlds {
			p.expectTelling(t, rounds, x, 0)
		}
	}
}

// expectWorldFormulas expects what the definition says of all worlds of a model, and counts the
// numbers of nodes.
func expectWorldFormulas(t *testing.T, m impl.Model, k, variables int, sizes map[int]int) {
	t.Helper()
	trees, small := worldTrees(t, m, k, variables)
	for w, x := range trees {
		what := fmt.Sprint("WorldFormula of ", m, w, k, variables)
		a, code := impl.WorldFormula(m, int64(w), int64(k), int64(variables))
		if !small[w] {
			expectNoNodes(t, what, a, code, impl.ErrLimit)
			sizes[manyNodes]++
			continue
		}
		nodes := x.nodes()
		sizes[len(nodes)]++
		if len(nodes) > impl.MaxNodes {
			expectNoNodes(t, what, a, code, impl.ErrLimit)
		} else {
			expectText(t, what, a, code, x.text())
			expectNodes(t, what, a, code, nodes)
		}
	}
}

func TestWorldFormulas(t *testing.T) {
	sizes := map[int]int{}
	for i, p := range samplePairs() {
		for k := range impl.MaxRounds + 1 {
			if k < 5 || i%16 == 0 {
				expectWorldFormulas(t, p.m, k, i%(impl.MaxVariables+1), sizes)
				expectWorldFormulas(t, p.n, k, (i+k)%(impl.MaxVariables+1), sizes)
			}
		}
	}
	for i, m := range sampleModels() {
		expectWorldFormulas(t, m, i%3, i%(impl.MaxVariables+1), sizes)
	}
	for _, size := range []int{1, 2, 3, 38, 39, 40, 41, 42, manyNodes} {
		if sizes[size] == 0 {
			t.Errorf("formulas of worlds have numbers of nodes %v", sizes)
		}
	}
}

func TestNamedWorldFormulas(t *testing.T) {
	m, loop, chain := exampleModel(), modelWith(frameWith(1), 1), modelWith(namedFrames()[5])
	fan := modelWith(frameWith(62, 0, 0, 4, 0, 0), 18, 4)
	mixed := modelWith(frameWith(62, 0, 0, 0, 0, 0), 45, 59)
	full := modelWith(frameWith(1), 1, 1, 1, 1, 1, 1)
	for _, c := range []struct {
		m               impl.Model
		w, k, variables int64
		text            string
	}{
		{m, 1, 1, 0, "[]F"}, {m, 0, 0, 0, "T"}, {m, 1, 0, 0, "T"}, {m, 0, 1, 0, "<>T&[]T"}, {m, 0, 2, 0, "<>[]F&[][]F"}, {m, 1, 16, 0, "[]F"}, {m, 0, 16, 0, "<>[]F&[][]F"},
		{m, 1, 1, 1, "~p&[]F"}, {m, 0, 1, 1, "~p&<>~p&[]~p"}, {m, 0, 0, 2, "~p&~q"}, {m, 1, 1, 6, "~p&~q&~r&~s&~t&~u&[]F"},
		{loop, 0, 0, 1, "p"}, {loop, 0, 1, 1, "p&<>p&[]p"}, {loop, 0, 1, 0, "<>T&[]T"}, {loop, 0, 2, 0, "<>(<>T&[]T)&[](<>T&[]T)"}, {loop, 0, 0, 6, "p&~q&~r&~s&~t&~u"}, {full, 0, 0, 6, "p&q&r&s&t&u"}, {full, 0, 1, 3, "p&q&r&<>(p&q&r)&[](p&q&r)"},
		{chain, 0, 2, 0, "<>(<>T&[]T)&[](<>T&[]T)"}, {chain, 5, 3, 0, "<>(<>[]F&[][]F)&[](<>[]F&[][]F)"}, {chain, 4, 4, 0, "<>(<>(<>[]F&[][]F)&[](<>[]F&[][]F))&[](<>(<>[]F&[][]F)&[](<>[]F&[][]F))"},
		// The formulas of the worlds that are seen come in the order of their texts, each once.
		{fan, 0, 0, 2, "~p&~q"}, {fan, 0, 1, 1, "~p&<>p&<>~p&[](p|~p)"}, {mixed, 0, 1, 2, "p&q&<>(p&q)&<>(p&~q)&<>(~p&q)&[](p&q|p&~q|~p&q)"}, {fan, 3, 1, 2, "~p&~q&<>(~p&q)&[](~p&q)"}, {fan, 2, 1, 2, "~p&q&[]F"},
		{modelWith(frameWith(6, 0, 0), 4), 0, 1, 1, "~p&<>p&<>~p&[](p|~p)"}, {modelWith(frameWith(6, 0, 0), 2), 0, 1, 1, "~p&<>p&<>~p&[](p|~p)"}, {modelWith(frameWith(6, 1, 0)), 0, 2, 0, "<>(<>T&[]T)&<>[]F&[](<>T&[]T|[]F)"}, {modelWith(frameWith(6, 0, 1)), 0, 2, 0, "<>(<>T&[]T)&<>[]F&[](<>T&[]T|[]F)"},
	} {
		a, code := impl.WorldFormula(c.m, c.w, c.k, c.variables)
		expectText(t, fmt.Sprint("WorldFormula of ", c.m, c.w, c.k, c.variables), a, code, c.text)
	}
	for _, c := range []struct {
		m               impl.Model
		w, k, variables int64
	}{{loop, 0, 3, 0}, {loop, 0, 16, 0}, {loop, 0, 16, 6}, {full, 0, 2, 6}, {fan, 0, 1, 2}, {chain, 0, 3, 0}, {chain, 4, 3, 0}, {chain, 0, 16, 0}, {chain, 3, 5, 0}, {modelWith(namedFrames()[1]), 7, 16, 0}} {
		a, code := impl.WorldFormula(c.m, c.w, c.k, c.variables)
		expectNoNodes(t, fmt.Sprint("WorldFormula of ", c.m, c.w, c.k, c.variables), a, code, impl.ErrLimit)
	}
}

// A formula of a world is true exactly at the worlds that are k-bisimilar to it.
func TestWorldFormulasTellAllOthersApart(t *testing.T) {
	formulas := 0
	for _, p := range samplePairs() {
		rounds := p.rounds()
		// No other variables are true anywhere in the samples.
		variables := int64(impl.MaxVariables)
		for variables > 0 && p.m.Values[variables-1]|p.n.Values[variables-1] == 0 {
			variables--
		}
		for w := range int(p.m.Frame.Worlds) {
			for k := range impl.MaxRounds + 1 {
				a, code := impl.WorldFormula(p.m, int64(w), int64(k), variables)
				if code != impl.ErrNone {
					continue
				}
				formulas++
				got, code := impl.TruthSet(p.n, a)
				expectNumber(t, fmt.Sprint("TruthSet of the formula of ", p, w, k, variables), got, code, rounds[k][w])
			}
		}
	}
	if formulas < 5000 {
		t.Errorf("%d formulas of worlds were looked at", formulas)
	}
}

func TestRangesOfBisimulations(t *testing.T) {
	wrong := []int64{-1, 64, 1 << 32, math.MinInt64, math.MaxInt64}
	for _, p := range samplePairs()[:200] {
		m, n := p.m, p.n
		for _, x := range append(wrong, m.Frame.Worlds, m.Frame.Worlds+1, 0) {
			for _, y := range append(wrong, n.Frame.Worlds, n.Frame.Worlds+1, 0) {
				if x == 0 && y == 0 && m.Frame.Worlds > 0 && n.Frame.Worlds > 0 {
					continue
				}
				k, code := impl.RoundsToTell(m, x, n, y)
				a, code2 := impl.TellingFormula(m, x, n, y)
				if k != 0 || len(a) != 0 || code != impl.ErrRange || code2 != impl.ErrRange {
					t.Errorf("the worlds %d and %d of %v: %d, code %d, %v, code %d", x, y, p, k, code, a, code2)
				}
			}
		}
		for _, w := range append(wrong, m.Frame.Worlds, m.Frame.Worlds+1) {
			reduced, class, code := impl.ReducedModel(m, w)
			expectNoModel(t, fmt.Sprint("ReducedModel of ", m, w), reduced, code, impl.ErrRange)
			a, code := impl.WorldFormula(m, w, 0, 0)
			expectNoNodes(t, fmt.Sprint("WorldFormula of ", m, w), a, code, impl.ErrRange)
			if class != 0 {
				t.Errorf("ReducedModel of %v, %d: the class %d", m, w, class)
			}
		}
		for _, number := range append(wrong, impl.MaxRounds+1) {
			for _, variables := range []int64{0, impl.MaxVariables} {
				a, code := impl.WorldFormula(m, 0, number, variables)
				expectNoNodes(t, fmt.Sprint("WorldFormula of ", m, number), a, code, impl.ErrRange)
			}
		}
		for _, variables := range append(wrong, impl.MaxVariables+1) {
			// Here the formula would have too many nodes, too.
			for _, k := range []int64{0, 3, impl.MaxRounds} {
				a, code := impl.WorldFormula(m, 0, k, variables)
				expectNoNodes(t, fmt.Sprint("WorldFormula of ", m, k, variables), a, code, impl.ErrRange)
			}
		}
	}
}

// classNumbers returns the classes of the worlds of one model that are bisimilar.
func classNumbers(m impl.Model) []int64 {
	bisimilar := lastOf(pair{m, m}.rounds())
	numbers := make([]int64, len(bisimilar))
	var next int64
	for w := range numbers {
		first := 0
		for !relates(bisimilar, w, first) {
			first++
		}
		if first < w {
			numbers[w] = numbers[first]
			continue
		}
		numbers[w] = next
		next++
	}
	return numbers
}

// quotientBy returns the model of the classes of a model.
func quotientBy(m impl.Model, classes []int64) impl.Model {
	var count int64
	for _, class := range classes {
		count = max(count, class+1)
	}
	quotient := modelWith(frameWith(make([]int64, count)...))
	for w, class := range classes {
		for next, other := range classes {
			if relates(m.Frame.Arrows, w, next) {
				quotient.Frame.Arrows[class] |= 1 << other
			}
		}
		for v := range m.Values {
			if variableAt(m, v, w) {
				quotient.Values[v] |= 1 << class
			}
		}
	}
	return quotient
}

// expectQuotient expects the classes of a model and its quotient, and returns both.
func expectQuotient(t *testing.T, m impl.Model) ([]int64, impl.Model) {
	t.Helper()
	classes := classNumbers(m)
	got, code := impl.BisimulationClasses(m)
	expectList(t, fmt.Sprint("BisimulationClasses of ", m), got, code, classes...)
	want := quotientBy(m, classes)
	quotient, code := impl.QuotientModel(m)
	expectModel(t, fmt.Sprint("QuotientModel of ", m), quotient, code, want)
	return classes, want
}

// modelsOfPairs returns the models of the sample pairs, and the sample models.
func modelsOfPairs() []impl.Model {
	models := sampleModels()
	for _, p := range samplePairs() {
		models = append(models, p.m, p.n)
	}
	return models
}

func TestQuotientsAndReducedModels(t *testing.T) {
	kept, reached := map[int64]int{}, map[int64]int{}
	for _, m := range append(modelsOfPairs(), smallModels()...) {
		_, quotient := expectQuotient(t, m)
		kept[m.Frame.Worlds-quotient.Frame.Worlds]++
		for w := range m.Frame.Worlds {
			mask := reachedFrom(m.Frame.Arrows, 1<<w)
			part, _ := impl.PartOfModel(m, mask)
			classes := classNumbers(part)
			want := quotientBy(part, classes)
			class := classes[leastIn(compressed(1<<w, mask))]
			reduced, number, code := impl.ReducedModel(m, w)
			expectModel(t, fmt.Sprint("ReducedModel of ", m, w), reduced, code, want)
			expectNumber(t, fmt.Sprint("the class in ReducedModel of ", m, w), number, code, class)
			reached[class]++
		}
	}
	for count := range int64(8) {
		if kept[count] == 0 || reached[count] == 0 {
			t.Errorf("worlds fewer in quotients: %v, classes of the roots: %v", kept, reached)
		}
	}
}

// leastIn returns the least member of a mask that has one.
func leastIn(mask int64) int {
	least := 0
	for mask>>least&1 == 0 {
		least++
	}
	return least
}

func TestNamedQuotients(t *testing.T) {
	none, eight, chain := modelWith(frameWith()), modelWith(namedFrames()[1]), modelWith(namedFrames()[5])
	for _, c := range []struct {
		m       impl.Model
		classes []int64
		want    impl.Model
	}{
		{none, nil, none}, {exampleModel(), []int64{0, 1}, exampleModel()}, {chain, []int64{0, 1, 2, 3, 4, 5, 6, 7}, chain},
		{eight, make([]int64, 8), modelWith(frameWith(1))}, {modelWith(namedFrames()[2], 255), make([]int64, 8), modelWith(frameWith(0), 1)}, {modelWith(namedFrames()[4]), make([]int64, 8), modelWith(frameWith(1))},
		{modelWith(frameWith(6, 0, 0, 0)), []int64{0, 1, 1, 1}, modelWith(frameWith(2, 0))}, {modelWith(frameWith(6, 0, 0), 4), []int64{0, 1, 2}, modelWith(frameWith(6, 0, 0), 4)}, {modelWith(frameWith(6, 0, 0), 6), []int64{0, 1, 1}, modelWith(frameWith(2, 0), 2)},
		// Classes have the order of their least worlds, not that of depths or values.
		{modelWith(frameWith(0, 1, 0, 4, 0), 4), []int64{0, 1, 2, 3, 0}, modelWith(frameWith(0, 1, 0, 4), 4)}, {modelWith(frameWith(2, 0, 1, 0, 8), 0, 0, 1), []int64{0, 1, 2, 1, 3}, modelWith(frameWith(2, 0, 1, 2), 0, 0, 1)},
		{modelWith(frameWith(2, 1, 8, 4), 5), []int64{0, 1, 0, 1}, modelWith(frameWith(2, 1), 1)}, {modelWith(frameWith(2, 1, 8, 4), 5, 4), []int64{0, 1, 2, 3}, modelWith(frameWith(2, 1, 8, 4), 5, 4)},
	} {
		expectQuotient(t, c.m)
		got, code := impl.BisimulationClasses(c.m)
		expectList(t, fmt.Sprint("BisimulationClasses of ", c.m), got, code, c.classes...)
		quotient, code := impl.QuotientModel(c.m)
		expectModel(t, fmt.Sprint("QuotientModel of ", c.m), quotient, code, c.want)
	}
	for _, c := range []struct {
		m     impl.Model
		w     int64
		want  impl.Model
		class int64
	}{
		{modelWith(frameWith(6, 0, 0, 0)), 3, modelWith(frameWith(0)), 0}, {modelWith(frameWith(6, 0, 0, 0)), 0, modelWith(frameWith(2, 0)), 0}, {eight, 7, modelWith(frameWith(1)), 0}, {chain, 7, modelWith(frameWith(0)), 0}, {chain, 0, chain, 0},
		{modelWith(namedFrames()[6]), 7, modelWith(namedFrames()[6]), 7}, {modelWith(frameWith(0, 1, 0, 5, 2), 4, 8, 16), 3, modelWith(frameWith(0, 0, 3), 2, 4), 2}, {modelWith(frameWith(4, 0, 0, 5, 8), 18), 3, modelWith(frameWith(2, 0, 3)), 2},
	} {
		reduced, class, code := impl.ReducedModel(c.m, c.w)
		expectModel(t, fmt.Sprint("ReducedModel of ", c.m, c.w), reduced, code, c.want)
		expectNumber(t, fmt.Sprint("the class in ReducedModel of ", c.m, c.w), class, code, c.class)
	}
}

// P7, first and second part: the same formulas are true at bisimilar worlds, and the others have a
// telling formula.
func TestBisimilarWorldsHaveTheSameTrueFormulas(t *testing.T) {
	seed := uint64(103)
	alike, told := 0, 0
	for _, p := range samplePairs() {
		bisimilar, code := impl.GreatestBisimulation(p.m, p.n)
		if code != impl.ErrNone {
			t.Fatalf("GreatestBisimulation of %v: code %d", p, code)
		}
		for range 30 {
			a := irregularTree(&seed, 1+nextNumber(&seed)%30).nodes()
			atM, _ := impl.TruthSet(p.m, a)
			atN, _ := impl.TruthSet(p.n, a)
			for x, linked := range bisimilar {
				other := int64(0)
				if atM>>x&1 == 0 {
					other = linked
				}
				if linked&atN != linked-other {
					t.Fatalf("%s is true at %b and %b of %v, whose bisimilar worlds are %v", polish(a), atM, atN, p, bisimilar)
				}
			}
		}
		for x, linked := range bisimilar {
			for y := range int(p.n.Frame.Worlds) {
				a, code := impl.TellingFormula(p.m, int64(x), p.n, int64(y))
				if linked>>y&1 == 1 {
					expectNoNodes(t, "TellingFormula of bisimilar worlds", a, code, impl.ErrNotFound)
					alike++
				} else if code != impl.ErrLimit {
					k, _ := impl.RoundsToTell(p.m, int64(x), p.n, int64(y))
					p.expectTold(t, a, x, y, k)
					told++
				}
			}
		}
	}
	if alike < 2000 || told < 2000 {
		t.Errorf("%d bisimilar worlds, %d told apart", alike, told)
	}
}

// P7, third part: each world of a model is bisimilar to its class in the quotient, and to no other
// class.
func TestQuotientsAreBisimilar(t *testing.T) {
	for _, m := range modelsOfPairs() {
		classes, code := impl.BisimulationClasses(m)
		quotient, code2 := impl.QuotientModel(m)
		if code != impl.ErrNone || code2 != impl.ErrNone || !impl.IsModel(quotient) {
			t.Fatalf("the quotient of %v is %v, codes %d, %d", m, quotient, code, code2)
		}
		p := pair{m, quotient}
		link := p.linkWhere(func(x, y int) bool { return classes[x] == int64(y) })
		isLink, code := impl.IsBisimulation(m, quotient, link)
		expectBool(t, fmt.Sprint("IsBisimulation of ", p, link), isLink, code, true)
		got, code := impl.GreatestBisimulation(m, quotient)
		expectList(t, fmt.Sprint("GreatestBisimulation of ", p), got, code, link...)
		for w := range m.Frame.Worlds {
			reduced, class, _ := impl.ReducedModel(m, w)
			_, code := impl.RoundsToTell(m, w, reduced, class)
			if code != impl.ErrNotFound {
				t.Errorf("the world %d of %v and the class %d of %v: code %d", w, m, class, reduced, code)
			}
		}
	}
}

// linkErrors returns the codes of all functions of two models and a link, and whether some result
// beside them is not its zero value.
func linkErrors(m, n impl.Model, link []int64) ([]int64, bool) {
	both, code1 := impl.IsBisimulation(m, n, link)
	one, code2 := impl.IsSimulation(m, n, link)
	return []int64{code1, code2}, both || one
}

// pairErrorsOf returns the same for the functions of two models, with worlds and a number of rounds.
func pairErrorsOf(m impl.Model, x int64, n impl.Model, y, k int64) ([]int64, bool) {
	bounded, code1 := impl.BoundedBisimulation(m, n, k)
	bisimilar, code2 := impl.GreatestBisimulation(m, n)
	simulated, code3 := impl.GreatestSimulation(m, n)
	rounds, code4 := impl.RoundsToTell(m, x, n, y)
	a, code5 := impl.TellingFormula(m, x, n, y)
	return []int64{code1, code2, code3, code4, code5}, len(bounded)+len(bisimilar)+len(simulated)+len(a) != 0 || rounds != 0
}

// oneModelErrors returns the same for the functions of one model.
func oneModelErrors(m impl.Model, w, k, variables int64) ([]int64, bool) {
	a, code1 := impl.WorldFormula(m, w, k, variables)
	classes, code2 := impl.BisimulationClasses(m)
	quotient, code3 := impl.QuotientModel(m)
	reduced, class, code4 := impl.ReducedModel(m, w)
	isZero := areSameModels(quotient, impl.Model{}) && areSameModels(reduced, impl.Model{})
	return []int64{code1, code2, code3, code4}, len(a)+len(classes) != 0 || class != 0 || !isZero
}

// What is not a model stands ahead of worlds and numbers that are out of range, and of links.
func TestErrorsOfBisimulations(t *testing.T) {
	none, eight := modelWith(frameWith()), modelWith(namedFrames()[1])
	for _, m := range invalidModels() {
		what := fmt.Sprint("the invalid model ", m)
		for _, number := range []int64{0, 1, -1, 7, 8, 17, math.MinInt64, math.MaxInt64} {
			codes, given := oneModelErrors(m, number, number, number)
			expectErrors(t, what, codes, given, impl.ErrInvalid)
			for _, p := range []pair{{m, none}, {none, m}, {m, eight}, {eight, m}, {m, m}} {
				codes, given := pairErrorsOf(p.m, number, p.n, 0, number)
				expectErrors(t, what, codes, given, impl.ErrInvalid)
				codes, given = pairErrorsOf(p.m, 0, p.n, number, 0)
				expectErrors(t, what, codes, given, impl.ErrInvalid)
			}
		}
		for _, link := range [][]int64{nil, {0}, {1, 2}, make([]int64, 8), make([]int64, len(m.Frame.Arrows)), {-1}} {
			for _, p := range []pair{{m, none}, {none, m}, {m, eight}, {eight, m}, {m, m}} {
				codes, given := linkErrors(p.m, p.n, link)
				expectErrors(t, what, codes, given, impl.ErrInvalid)
			}
		}
	}
}

func TestErrorsOfLinks(t *testing.T) {
	for _, p := range append(samplePairs(), pair{exampleModel(), modelWith(namedFrames()[1])}) {
		worlds, others := p.m.Frame.Worlds, p.n.Frame.Worlds
		for _, length := range []int64{0, 1, worlds - 1, worlds + 1, 8, 9, 30, 31, 64} {
			if length >= 0 && length != worlds {
				codes, given := linkErrors(p.m, p.n, make([]int64, length))
				expectErrors(t, fmt.Sprint("a link of ", p, " of the length ", length), codes, given, impl.ErrInvalid)
			}
		}
		for at := range worlds {
			for _, mask := range []int64{1 << others, 1<<others + 1, 256, -1, -256, 1 << 30, 1 << 62, math.MinInt64, math.MaxInt64} {
				link := make([]int64, worlds)
				link[at] = mask
				codes, given := linkErrors(p.m, p.n, link)
				expectErrors(t, fmt.Sprint("the link ", link, " of ", p), codes, given, impl.ErrInvalid)
			}
			link := make([]int64, worlds)
			link[at] = 1<<others - 1
			codes, _ := linkErrors(p.m, p.n, link)
			expectErrors(t, fmt.Sprint("the link ", link, " of ", p), codes, false, impl.ErrNone)
		}
	}
	// A link has the masks of the worlds of the other model, in one direction only.
	small, large := exampleModel(), modelWith(frameWith(0, 0, 0))
	for _, c := range []struct {
		m, n impl.Model
		link []int64
		want int64
	}{{small, large, []int64{4, 7}, impl.ErrNone}, {large, small, []int64{4, 0, 0}, impl.ErrInvalid}, {large, small, []int64{3, 2, 1}, impl.ErrNone}, {small, large, []int64{1, 1, 1}, impl.ErrInvalid}} {
		_, code := impl.IsBisimulation(c.m, c.n, c.link)
		_, code2 := impl.IsSimulation(c.m, c.n, c.link)
		expectErrors(t, fmt.Sprint("the link ", c.link), []int64{code, code2}, false, c.want)
	}
}

// No function changes an argument or the capacity behind it, and no result shares memory with an
// argument, within itself or with a later result.
func TestBisimulationsAreNeitherChangedNorShared(t *testing.T) {
	behind := slices.Repeat([]int64{-9}, 20)
	store := slices.Concat([]int64{6, 0, 0}, behind, []int64{5, 2, 0, 0, 0, 0}, behind, []int64{1, 2, 4}, behind)
	before := slices.Clone(store)
	m := impl.Model{Frame: impl.Frame{Worlds: 3, Arrows: store[:3]}, Values: store[23:29]}
	link := store[49:52]
	n := modelWith(frameWith(6, 0, 0), 5, 2)
	for range 2 {
		var memory [][]int64
		for _, other := range []impl.Model{m, n} {
			bounded, _ := impl.BoundedBisimulation(m, other, 0)
			same, _ := impl.BoundedBisimulation(other, m, 16)
			bisimilar, _ := impl.GreatestBisimulation(m, other)
			simulated, _ := impl.GreatestSimulation(m, other)
			memory = append(memory, bounded, same, bisimilar, simulated)
			is, code := impl.IsBisimulation(m, other, link)
			expectBool(t, "IsBisimulation", is, code, true)
			is, code = impl.IsSimulation(m, other, link)
			expectBool(t, "IsSimulation", is, code, true)
			a, code := impl.TellingFormula(m, 0, other, 1)
			expectNodes(t, "TellingFormula", a, code, unpolish("p"))
			impl.RoundsToTell(m, 0, other, 1)
			b, code := impl.WorldFormula(m, 0, 1, 1)
			expectText(t, "WorldFormula", b, code, "p&<>p&<>~p&[](p|~p)")
			expectOwnMemory(t, "a formula", [][]impl.Node{a, b})
		}
		classes, _ := impl.BisimulationClasses(m)
		quotient, _ := impl.QuotientModel(m)
		reduced, _, _ := impl.ReducedModel(m, 0)
		expectModel(t, "QuotientModel", quotient, impl.ErrNone, n)
		expectModel(t, "ReducedModel", reduced, impl.ErrNone, n)
		expectOwnNumbers(t, "a result", append(memory, classes, quotient.Frame.Arrows, quotient.Values, reduced.Frame.Arrows, reduced.Values))
		if !slices.Equal(store, before) {
			t.Fatalf("an argument was changed: %v", store)
		}
	}
}
