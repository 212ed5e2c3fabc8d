package tests

import (
	"fmt"
	"math"
	"regexp"
	"slices"
	"strings"
	"testing"

	"loop.example/g01089/impl"
)

// A pointTree is a point formula as a tree; the tests know from it what the program has to find in lists.
type pointTree struct {
	node  impl.PointNode
	parts []pointTree
}

// mostNested has, for each number of worlds, how many quantifiers may be nested at most: 8 to the power 5 is
// just MaxBodies, and 6, 7 or 8 to the power 6 is more.
var mostNested = []int{6, 6, 6, 6, 6, 6, 5, 5, 5}

var pointAtoms = []pointTree{
	pointAtom(impl.PointSees, 0, 1), pointAtom(impl.PointEqual, 1, 0), pointAtom(impl.PointValue, 0, 0),
	pointAtom(impl.PointValue, 5, 1), pointAtom(impl.PointFalse, 0, 0),
}

func pointAtom(kind, first, second int64) pointTree {
	return pointTree{node: impl.PointNode{Kind: kind, First: first, Second: second}}
}

func linkedPoints(kind int64, first, second pointTree) pointTree {
	return pointTree{impl.PointNode{Kind: kind}, []pointTree{first, second}}
}

func quantified(kind, point int64, part pointTree) pointTree {
	return pointTree{impl.PointNode{Kind: kind, First: point}, []pointTree{part}}
}

func falsePoint() pointTree { return pointAtom(impl.PointFalse, 0, 0) }

func truePoint() pointTree { return linkedPoints(impl.PointImply, falsePoint(), falsePoint()) }

// pointNodes returns the nodes with some numbers, which are those of their fields in order.
func pointNodes(rows [][3]int64) []impl.PointNode {
	var list []impl.PointNode
	for _, row := range rows {
		list = append(list, impl.PointNode{Kind: row[0], First: row[1], Second: row[2]})
	}
	return list
}

func (x pointTree) nodes() []impl.PointNode {
	list := []impl.PointNode{x.node}
	for _, part := range x.parts {
		list = append(list, part.nodes()...)
	}
	return list
}

func (x pointTree) text() string {
	var parts []string
	for _, part := range x.parts {
		parts = append(parts, part.text())
	}
	first, second := x.node.First, x.node.Second
	switch x.node.Kind {
	case impl.PointSees:
		return fmt.Sprintf("R%d%d", first, second)
	case impl.PointEqual:
		return fmt.Sprintf("%d=%d", first, second)
	case impl.PointValue:
		return fmt.Sprintf("%s%d", "pqrstu"[first:first+1], second)
	case impl.PointAnd:
		return "(" + parts[0] + "&" + parts[1] + ")"
	case impl.PointOr:
		return "(" + parts[0] + "|" + parts[1] + ")"
	case impl.PointForall:
		return fmt.Sprintf("A%d%s", first, parts[0])
	case impl.PointExists:
		return fmt.Sprintf("E%d%s", first, parts[0])
	case impl.PointImply:
		if parts[1] == "F" {
			return "~" + parts[0]
		}
		return "(" + parts[0] + ">" + parts[1] + ")"
	}
	return "F"
}

// free returns the points that occur outside of the quantifiers that bind them, and are not among those that
// are bound around the tree, in ascending order.
func (x pointTree) free(bound ...int64) []int64 {
	var points []int64
	switch x.node.Kind {
	case impl.PointSees, impl.PointEqual:
		points = []int64{x.node.First, x.node.Second}
	case impl.PointValue:
		points = []int64{x.node.Second}
	case impl.PointForall, impl.PointExists:
		bound = append(slices.Clone(bound), x.node.First)
	}
	points = slices.DeleteFunc(points, func(point int64) bool { return slices.Contains(bound, point) })
	for _, part := range x.parts {
		points = append(points, part.free(bound...)...)
	}
	slices.Sort(points)
	return slices.Compact(points)
}

func (x pointTree) hasValues() bool {
	isValue := func(node impl.PointNode) bool { return node.Kind == impl.PointValue }
	return slices.ContainsFunc(x.nodes(), isValue)
}

// nested returns the greatest number of quantifiers above an atom.
func (x pointTree) nested() int {
	if len(x.parts) == 1 {
		return x.parts[0].nested() + 1
	}
	most := 0
	for _, part := range x.parts {
		most = max(most, part.nested())
	}
	return most
}

// value tells whether the tree is true in a model, if each point stands for a world.
func (x pointTree) value(m impl.Model, worlds []int64) bool {
	first, second := x.node.First, x.node.Second
	switch x.node.Kind {
	case impl.PointSees:
		return relates(m.Frame.Arrows, int(worlds[first]), int(worlds[second]))
	case impl.PointEqual:
		return worlds[first] == worlds[second]
	case impl.PointValue:
		return relates(m.Values, int(first), int(worlds[second]))
	case impl.PointAnd:
		return x.parts[0].value(m, worlds) && x.parts[1].value(m, worlds)
	case impl.PointOr:
		return x.parts[0].value(m, worlds) || x.parts[1].value(m, worlds)
	case impl.PointImply:
		return !x.parts[0].value(m, worlds) || x.parts[1].value(m, worlds)
	case impl.PointForall, impl.PointExists:
		count := int64(0)
		for w := range m.Frame.Worlds {
			moved := slices.Clone(worlds)
			moved[first] = w
			if x.parts[0].value(m, moved) {
				count++
			}
		}
		return x.node.Kind == impl.PointForall && count == m.Frame.Worlds || x.node.Kind == impl.PointExists && count > 0
	}
	return false
}

// closed puts quantifiers in front of a tree for all of its free points, which are PointForall and
// PointExists in turn.
func (x pointTree) closed() pointTree {
	for i, point := range x.free() {
		x = quantified(impl.PointForall+int64(i%2), point, x)
	}
	return x
}

// pointTreesOver returns all trees of at most size nodes over some atoms, with quantifiers for some points, by
// their numbers of nodes.
func pointTreesOver(atoms []pointTree, points []int64, size int) [][]pointTree {
	bySize := [][]pointTree{nil, atoms}
	for n := 2; n <= size; n++ {
		var trees []pointTree
		for _, part := range bySize[n-1] {
			for _, point := range points {
				trees = append(trees, quantified(impl.PointForall, point, part), quantified(impl.PointExists, point, part))
			}
		}
		for k := 1; k < n-1; k++ {
			for _, first := range bySize[k] {
				for _, second := range bySize[n-1-k] {
					for _, kind := range []int64{impl.PointAnd, impl.PointOr, impl.PointImply} {
						trees = append(trees, linkedPoints(kind, first, second))
					}
				}
			}
		}
		bySize = append(bySize, trees)
	}
	return bySize
}

// irregularPoints returns a tree of size nodes over some first points without visible order. The more links
// are asked for, of 8, the fewer quantifiers it has.
func irregularPoints(seed *uint64, size, points, links int64) pointTree {
	x, y := nextNumber(seed)%points, nextNumber(seed)%points
	choice := nextNumber(seed) % 8
	switch {
	case size == 1 && choice < 3:
		return pointAtom(impl.PointSees, x, y)
	case size == 1 && choice < 5:
		return pointAtom(impl.PointEqual, x, y)
	case size == 1 && choice < 7:
		return pointAtom(impl.PointValue, nextNumber(seed)%impl.MaxVariables, y)
	case size == 1:
		return falsePoint()
	case size == 2 || choice >= links:
		return quantified(impl.PointForall+nextNumber(seed)%2, x, irregularPoints(seed, size-1, points, links))
	}
	first := 1 + nextNumber(seed)%(size-2)
	if choice == 0 {
		first = size - 2
	}
	kind := impl.PointAnd + nextNumber(seed)%3
	return linkedPoints(kind, irregularPoints(seed, first, points, links), irregularPoints(seed, size-1-first, points, links))
}

// samplePoints returns all trees of at most 4 nodes over pointAtoms, and some of each size up to MaxPointNodes.
func samplePoints() []pointTree {
	samples := slices.Concat(pointTreesOver(pointAtoms, []int64{0, 1}, 4)...)
	seed := uint64(139)
	for size := int64(1); size <= impl.MaxPointNodes; size++ {
		for links := range int64(9) {
			samples = append(samples, irregularPoints(&seed, size, impl.MaxPoints, links))
		}
	}
	return samples
}

// manyFalse returns a tree of some odd number of nodes.
func manyFalse(size int) pointTree {
	x := falsePoint()
	for range (size - 1) / 2 {
		x = linkedPoints(impl.PointOr, falsePoint(), x)
	}
	return x
}

// nestedPoints returns a tree in which some quantifiers of a kind are nested above a part, which bind the
// points 0, 1 and so on and begin with 0 again.
func nestedPoints(kind int64, count int, part pointTree) pointTree {
	for i := count - 1; i >= 0; i-- {
		part = quantified(kind, int64(i%impl.MaxPoints), part)
	}
	return part
}

// numbersBeside returns numbers below some limit and numbers on both sides of them.
func numbersBeside(limit int64) ([]int64, []int64) {
	return []int64{0, 1, limit - 1}, []int64{-1, limit, limit + 1, -limit, math.MinInt64, math.MaxInt64, 1 << 32, -1 << 32}
}

// invalidPoints returns lists that are not point formulas.
func invalidPoints() [][]impl.PointNode {
	r, f := impl.PointNode{}, impl.PointNode{Kind: impl.PointFalse}
	and, imply := impl.PointNode{Kind: impl.PointAnd}, impl.PointNode{Kind: impl.PointImply}
	all := impl.PointNode{Kind: impl.PointForall, First: 3}
	lists := [][]impl.PointNode{
		nil, {}, {all}, {and}, {and, r}, {imply, f}, {imply, r, all}, {and, and, r, r}, {all, and, f},
		{r, r}, {f, r}, {r, all}, {all, r, r}, {and, r, r, r}, {r, and, r}, {all, r, and}, {f, f, f},
		append(slices.Repeat([]impl.PointNode{all}, impl.MaxPointNodes), r),
		slices.Repeat([]impl.PointNode{all}, impl.MaxPointNodes),
		manyFalse(impl.MaxPointNodes + 1).nodes(),
		slices.Repeat([]impl.PointNode{f}, 5000),
	}
	for _, kind := range []int64{-1, 9, 10, math.MinInt64, math.MaxInt64, 1 << 32, 1<<32 + impl.PointFalse} {
		node := impl.PointNode{Kind: kind}
		lists = append(lists, []impl.PointNode{node}, []impl.PointNode{all, node}, []impl.PointNode{node, r}, []impl.PointNode{node, r, r}, []impl.PointNode{and, r, node})
	}
	_, points := numbersBeside(impl.MaxPoints)
	_, variables := numbersBeside(impl.MaxVariables)
	_, others := numbersBeside(1)
	for kind, numbers := range [][2][]int64{{points, points}, {points, points}, {variables, points}, {others, others}, {others, others}, {others, others}, {others, others}, {points, others}, {points, others}} {
		parts := slices.Repeat([]impl.PointNode{f}, []int{0, 0, 0, 0, 2, 2, 2, 1, 1}[kind])
		for side, wrong := range numbers {
			for _, number := range wrong {
				node := impl.PointNode{Kind: int64(kind), First: number}
				if side == 1 {
					node = impl.PointNode{Kind: int64(kind), Second: number}
				}
				lists = append(lists, append([]impl.PointNode{node}, parts...), append([]impl.PointNode{all, node}, parts...))
			}
		}
	}
	return lists
}

func expectPoints(t *testing.T, what string, got []impl.PointNode, code int64, want []impl.PointNode) {
	t.Helper()
	if !slices.Equal(got, want) || code != impl.ErrNone {
		t.Errorf("%s = %v, code %d, want %v", what, got, code, want)
	}
}

func expectNoPoints(t *testing.T, what string, got []impl.PointNode, code, want int64) {
	t.Helper()
	if len(got) != 0 || code != want {
		t.Errorf("%s = %v, code %d, want code %d", what, got, code, want)
	}
}

// mustPoints returns the point formula with a text.
func mustPoints(t *testing.T, text string) []impl.PointNode {
	t.Helper()
	list, code := impl.ParsePoint(text)
	if got, textCode := impl.PointText(list); code != impl.ErrNone || got != text || textCode != impl.ErrNone {
		t.Fatalf("ParsePoint(%q) = %v, code %d, with the text %q", text, list, code, got)
	}
	return list
}

func TestPointConstants(t *testing.T) {
	kinds := []int64{
		impl.PointSees, impl.PointEqual, impl.PointValue, impl.PointFalse, impl.PointAnd, impl.PointOr,
		impl.PointImply, impl.PointForall, impl.PointExists,
	}
	expectList(t, "kinds", kinds, impl.ErrNone, 0, 1, 2, 3, 4, 5, 6, 7, 8)
	limits := []int64{impl.MaxPoints, impl.MaxPointNodes, impl.MaxNesting, impl.MaxBodies}
	expectList(t, "limits", limits, impl.ErrNone, 10, 120, 6, 32768)
}

// Among all lists of at most 3 nodes of some kinds and numbers, the point formulas are those that come from
// trees.
func TestIsPointFormulaByTrees(t *testing.T) {
	atoms := []pointTree{
		pointAtom(impl.PointSees, 0, 0), pointAtom(impl.PointSees, 9, 1), pointAtom(impl.PointEqual, 0, 9),
		pointAtom(impl.PointValue, 0, 0), pointAtom(impl.PointValue, 5, 9), falsePoint(),
	}
	formulas := map[string]bool{}
	for _, x := range slices.Concat(pointTreesOver(atoms, []int64{0, 9}, 3)...) {
		formulas[fmt.Sprint(x.nodes())] = true
	}
	choices := pointNodes([][3]int64{
		{}, {0, 9, 1}, {1, 0, 9}, {2, 0, 0}, {2, 5, 9}, {3, 0, 0}, {4, 0, 0}, {5, 0, 0}, {6, 0, 0}, {7, 0, 0}, {7, 9, 0}, {8, 0, 0}, {8, 9, 0},
		{-1, 0, 0}, {9, 0, 0}, {0, 10, 0}, {0, 0, 10}, {0, -1, 0}, {1, 10, 0}, {1, 0, -1}, {2, 6, 0}, {2, -1, 0}, {2, 0, 10}, {2, 5, -1},
		{3, 1, 0}, {3, 0, 1}, {4, 1, 0}, {4, 0, 9}, {5, 0, 1}, {6, 0, -1}, {7, 10, 0}, {7, 0, 1}, {8, -1, 0}, {8, 0, 1},
	})
	found := 0
	var check func(list []impl.PointNode, more int)
	check = func(list []impl.PointNode, more int) {
		want := formulas[fmt.Sprint(list)]
		if got := impl.IsPointFormula(list); got != want {
			t.Errorf("IsPointFormula(%v) = %v", list, got)
		}
		if want {
			found++
		}
		if more > 0 {
			for _, node := range choices {
				check(append(slices.Clip(list), node), more-1)
			}
		}
	}
	check(nil, 3)
	if found != len(formulas) {
		t.Errorf("%d of %d point formulas were found", found, len(formulas))
	}
}

// Each kind of node, with the first and the last numbers that it may have and those beside them.
func TestNumbersOfPointNodes(t *testing.T) {
	for _, list := range invalidPoints() {
		if impl.IsPointFormula(list) {
			t.Errorf("IsPointFormula(%v) = true", list)
		}
	}
	points, _ := numbersBeside(impl.MaxPoints)
	variables, _ := numbersBeside(impl.MaxVariables)
	for _, y := range points {
		trees := []pointTree{quantified(impl.PointForall, y, falsePoint()), quantified(impl.PointExists, y, falsePoint())}
		for _, x := range points {
			trees = append(trees, pointAtom(impl.PointSees, x, y), pointAtom(impl.PointEqual, x, y))
		}
		for _, v := range variables {
			trees = append(trees, pointAtom(impl.PointValue, v, y))
		}
		for _, x := range trees {
			x.expectText(t)
		}
	}
}

// expectText expects the text of a tree, and that it is parsed to the tree.
func (x pointTree) expectText(t *testing.T) {
	t.Helper()
	if !impl.IsPointFormula(x.nodes()) {
		t.Errorf("IsPointFormula(%v) = false", x.nodes())
	}
	text, code := impl.PointText(x.nodes())
	expectName(t, fmt.Sprint("PointText of ", x.nodes()), text, code, x.text(), impl.ErrNone)
	list, code := impl.ParsePoint(x.text())
	expectPoints(t, fmt.Sprintf("ParsePoint(%q)", x.text()), list, code, x.nodes())
}

func TestPointTexts(t *testing.T) {
	texts := map[string]string{}
	for _, x := range slices.Concat(samplePoints(), slices.Concat(pointTreesOver(pointAtoms, []int64{8}, 5)...)) {
		x.expectText(t)
		nodes := fmt.Sprint(x.nodes())
		if other, ok := texts[x.text()]; ok && other != nodes {
			t.Errorf("%s is the text of %s and of %s", x.text(), nodes, other)
		}
		texts[x.text()] = nodes
	}
}

func TestNamedPointTexts(t *testing.T) {
	for text, numbers := range map[string][][3]int64{
		"A0~R01":      {{7, 0, 0}, {6, 0, 0}, {0, 0, 1}, {3, 0, 0}},
		"R01":         {{0, 0, 1}},
		"R90":         {{0, 9, 0}},
		"0=1":         {{1, 0, 1}},
		"p0":          {{2, 0, 0}},
		"u9":          {{2, 5, 9}},
		"F":           {{3, 0, 0}},
		"~F":          {{6, 0, 0}, {3, 0, 0}, {3, 0, 0}},
		"~~F":         {{6, 0, 0}, {6, 0, 0}, {3, 0, 0}, {3, 0, 0}, {3, 0, 0}},
		"(F>~F)":      {{6, 0, 0}, {3, 0, 0}, {6, 0, 0}, {3, 0, 0}, {3, 0, 0}},
		"(F&F)":       {{4, 0, 0}, {3, 0, 0}, {3, 0, 0}},
		"(p0|F)":      {{5, 0, 0}, {2, 0, 0}, {3, 0, 0}},
		"(F>p0)":      {{6, 0, 0}, {3, 0, 0}, {2, 0, 0}},
		"~(p0&q1)":    {{6, 0, 0}, {4, 0, 0}, {2, 0, 0}, {2, 1, 1}, {3, 0, 0}},
		"(R01&E1R12)": {{4, 0, 0}, {0, 0, 1}, {8, 1, 0}, {0, 1, 2}},
		"A0A1R01":     {{7, 0, 0}, {7, 1, 0}, {0, 0, 1}},
		"A0E0A0F":     {{7, 0, 0}, {8, 0, 0}, {7, 0, 0}, {3, 0, 0}},
		"((F|F)|F)":   {{5, 0, 0}, {5, 0, 0}, {3, 0, 0}, {3, 0, 0}, {3, 0, 0}},
		"A1(R01>p1)":  {{7, 1, 0}, {6, 0, 0}, {0, 0, 1}, {2, 0, 1}},
	} {
		want := pointNodes(numbers)
		list, code := impl.ParsePoint(text)
		expectPoints(t, fmt.Sprintf("ParsePoint(%q)", text), list, code, want)
		got, code := impl.PointText(want)
		expectName(t, fmt.Sprint("PointText of ", want), got, code, text, impl.ErrNone)
	}
}

func TestNamedTextsOfNoPoints(t *testing.T) {
	for _, text := range []string{
		"", " ", "R", "R0", "R012", "R0 1", "0", "0=", "=0", "0=1=2", "00=1", "0=10", "p", "p00", "p10", "v0", "P0", "f", "FF", "T", "~", "~T", "~~", "~F~",
		"A", "A0", "A0A1", "AF", "A10F", "Ap0", "AAF", "a0F", "E", "E0", "EF", "E-1F", "(", "()", "(F", "(F)", "(F&", "(F&F", "(F&F)F", "F&F", "(F&F&F)", "(&F)",
		"(F&&F)", "(F>F)", "(p0>F)", "~(p0>F)", "(F|F", "(F|F))", "((F|F)", "(F<F)", "(F=F)", "(~F)", "(p0)", "R:0", "R0:", "R/0", "p:", "p/", ":=0", "0=/", "0=:",
		"A:F", "A/F", "A0~R01 ", " A0~R01", "A0~R01\n", "A0 ~R01", "\x00", "F\x00", "\xff", "F\xff", "R\xb00", "R٠٠", "p٠", "(F\x00F)", "(F&F\x00", "0\x000", "0\x001", "(F&F&",
	} {
		list, code := impl.ParsePoint(text)
		expectNoPoints(t, fmt.Sprintf("ParsePoint(%q)", text), list, code, impl.ErrSyntax)
	}
}

// pointTexts returns the trees whose texts have at most some number of letters, of those in letters, by their
// texts.
func pointTexts(letters string, length int) map[string]pointTree {
	texts := map[string]pointTree{}
	byLength := make([][]pointTree, length+1)
	put := func(x pointTree) {
		text := x.text()
		if len(text) <= length && strings.Trim(text, letters) == "" {
			if _, ok := texts[text]; !ok {
				byLength[len(text)] = append(byLength[len(text)], x)
			}
			texts[text] = x
		}
	}
	put(falsePoint())
	for x := range int64(impl.MaxPoints) {
		for y := range int64(impl.MaxPoints) {
			put(pointAtom(impl.PointSees, x, y))
			put(pointAtom(impl.PointEqual, x, y))
		}
		for v := range int64(impl.MaxVariables) {
			put(pointAtom(impl.PointValue, v, x))
		}
	}
	for n := 1; n < length; n++ {
		for _, part := range byLength[n] {
			put(linkedPoints(impl.PointImply, part, falsePoint()))
			for point := range int64(impl.MaxPoints) {
				put(quantified(impl.PointForall, point, part))
				put(quantified(impl.PointExists, point, part))
			}
			for _, other := range slices.Concat(byLength[1 : n+1]...) {
				for _, kind := range []int64{impl.PointAnd, impl.PointOr, impl.PointImply} {
					put(linkedPoints(kind, part, other))
					put(linkedPoints(kind, other, part))
				}
			}
		}
	}
	return texts
}

// expectAllTexts expects of all texts with some number of letters that those are parsed that a tree has.
func expectAllTexts(t *testing.T, letters string, length, least int) {
	t.Helper()
	trees := pointTexts(letters, length)
	found := 0
	var check func(text string)
	check = func(text string) {
		list, code := impl.ParsePoint(text)
		if x, ok := trees[text]; ok {
			found++
			expectPoints(t, fmt.Sprintf("ParsePoint(%q)", text), list, code, x.nodes())
		} else if len(list) != 0 || code != impl.ErrSyntax {
			t.Errorf("ParsePoint(%q) = %v, code %d", text, list, code)
		}
		if len(text) < length {
			for i := range letters {
				check(text + letters[i:i+1])
			}
		}
	}
	check("")
	if found != len(trees) || found < least {
		t.Errorf("%d of %d texts with the letters %s were found, should be at least %d", found, len(trees), letters, least)
	}
}

func TestParsePointOfAllShortTexts(t *testing.T) {
	expectAllTexts(t, "R09=puF~(&|>)AE", 4, 60)
	expectAllTexts(t, "R1=pF~(&|>)AE:", 5, 43)
	expectAllTexts(t, "1pF~(>&)", 7, 42)
	expectAllTexts(t, "F~(|)", 9, 1)
}

var (
	pointLetters  = regexp.MustCompile(`^[R0-9=pqrstuF~(&|>)AE]*$`)
	pointAtomText = regexp.MustCompile(`R[0-9][0-9]|[0-9]=[0-9]|[pqrstu][0-9]`)
	pointStep     = regexp.MustCompile(`~[XF]|[AE][0-9][XF]|\([XF][&|][XF]\)|\([XF]>X\)`)
)

// isPointText tells whether a text is one of a point formula: its atoms are replaced by the letter X, and then
// what is made of X and F by X, until nothing can be replaced.
func isPointText(text string) bool {
	nodes := 0
	for letter, count := range map[string]int{"R": 1, "=": 1, "p": 1, "q": 1, "r": 1, "s": 1, "t": 1, "u": 1, "F": 1, "~": 2, "&": 1, "|": 1, ">": 1, "A": 1, "E": 1} {
		nodes += count * strings.Count(text, letter)
	}
	if !pointLetters.MatchString(text) || nodes > impl.MaxPointNodes {
		return false
	}
	text = pointAtomText.ReplaceAllString(text, "X")
	for pointStep.MatchString(text) {
		text = pointStep.ReplaceAllString(text, "X")
	}
	return text == "X" || text == "F"
}

// Texts in which one letter is changed, put in or left out, or that stop early.
func TestParsePointOfChangedTexts(t *testing.T) {
	letters := "R0189=pquF~(&|>)AE: \x00v"
	seed := uint64(149)
	counts := map[bool]int{}
	for _, x := range samplePoints() {
		text := x.text()
		for range 3 {
			at := int(nextNumber(&seed) % int64(len(text)+1))
			letter := string(letters[nextNumber(&seed)%int64(len(letters))])
			behind := text[min(at+1, len(text)):]
			for _, changed := range []string{text[:at] + letter + behind, text[:at] + letter + text[at:], text[:at] + behind, text[:at]} {
				list, code := impl.ParsePoint(changed)
				want := isPointText(changed)
				counts[want]++
				if !want {
					expectNoPoints(t, fmt.Sprintf("ParsePoint(%q)", changed), list, code, impl.ErrSyntax)
				} else if got, textCode := impl.PointText(list); code != impl.ErrNone || got != changed || textCode != impl.ErrNone {
					t.Errorf("ParsePoint(%q) = %v, code %d, with the text %q", changed, list, code, got)
				}
			}
		}
	}
	if counts[true] < 1000 || counts[false] < 10000 {
		t.Errorf("changed texts of point formulas and others: %v", counts)
	}
}

func TestPointFormulaSizes(t *testing.T) {
	not := func(x pointTree) pointTree { return linkedPoints(impl.PointImply, x, falsePoint()) }
	boxes := func(size int) pointTree { return nestedPoints(impl.PointExists, size-1, falsePoint()) }
	for size := 1; size <= impl.MaxPointNodes+3; size++ {
		trees := []pointTree{boxes(size)}
		if size%2 == 1 {
			trees = append(trees, manyFalse(size))
			if size > 1 {
				trees = append(trees, not(manyFalse(size-2)))
			}
		} else if size > 2 {
			trees = append(trees, not(boxes(size-2)), linkedPoints(impl.PointAnd, boxes(size/2), boxes(size/2-1)))
		}
		for _, x := range trees {
			if len(x.nodes()) != size {
				t.Fatalf("%s has %d nodes, want %d", x.text(), len(x.nodes()), size)
			}
			if size <= impl.MaxPointNodes {
				x.expectText(t)
				continue
			}
			if impl.IsPointFormula(x.nodes()) {
				t.Errorf("IsPointFormula of %d nodes", size)
			}
			text, code := impl.PointText(x.nodes())
			expectName(t, fmt.Sprint("PointText of nodes: ", size), text, code, "", impl.ErrInvalid)
			list, code := impl.ParsePoint(x.text())
			expectNoPoints(t, fmt.Sprint("ParsePoint of nodes: ", size), list, code, impl.ErrSyntax)
		}
	}
	for _, part := range []string{"~", "(", "A0", "E9", "(F&", "((", "~(", "F", "R01", "(F&F)", ")", "(F|F"} {
		for _, end := range []string{"", "F", ")"} {
			list, code := impl.ParsePoint(strings.Repeat(part, 300000) + end)
			expectNoPoints(t, "ParsePoint of many times "+part, list, code, impl.ErrSyntax)
		}
	}
}

func TestFreePoints(t *testing.T) {
	for _, x := range slices.Concat(samplePoints(), pointTreesOver(pointAtoms, []int64{0, 1}, 5)[5]) {
		points, code := impl.FreePoints(x.nodes())
		expectList(t, "FreePoints of "+x.text(), points, code, x.free()...)
	}
}

func TestNamedFreePoints(t *testing.T) {
	for text, want := range map[string][]int64{
		"(R01&E1R12)":                   {0, 1, 2},
		"F":                             {},
		"R00":                           {0},
		"R98":                           {8, 9},
		"9=0":                           {0, 9},
		"u7":                            {7},
		"A0F":                           {},
		"A3R00":                         {0},
		"A0R00":                         {},
		"A0E0R00":                       {},
		"A0E0R01":                       {1},
		"A0(E0R00&R01)":                 {1},
		"(A0R00&R00)":                   {0},
		"(R00&A0R00)":                   {0},
		"(A0p0|E1p0)":                   {0},
		"(A0p0>E0q0)":                   {},
		"A0A1A2A3A4A5A6A7A8A9R09":       {},
		"((((R01&R23)&R45)&R67)&9=8)":   {0, 1, 2, 3, 4, 5, 6, 7, 8, 9},
		"A4((((R01&R23)&R45)&R67)&9=8)": {0, 1, 2, 3, 5, 6, 7, 8, 9},
		"~~p6":                          {6},
	} {
		points, code := impl.FreePoints(mustPoints(t, text))
		expectList(t, "FreePoints of "+text, points, code, want...)
	}
}

// expectValue expects the value of a tree in a model, or none if too many quantifiers are nested for it.
func (x pointTree) expectValue(t *testing.T, m impl.Model, worlds []int64) {
	t.Helper()
	got, code := impl.PointsHold(m, x.nodes(), worlds)
	what := fmt.Sprintf("PointsHold of %s in %v at %v", x.text(), m, worlds)
	if x.nested() > mostNested[m.Frame.Worlds] {
		expectErrors(t, what, []int64{code}, got, impl.ErrLimit)
		return
	}
	expectBool(t, what, got, code, x.value(m, worlds))
}

// expectFrameValue expects the value of a tree on a frame, and returns the code.
func (x pointTree) expectFrameValue(t *testing.T, f impl.Frame) int64 {
	t.Helper()
	got, code := impl.FrameHolds(f, x.nodes())
	what := fmt.Sprintf("FrameHolds of %s on %v", x.text(), f)
	switch {
	case len(x.free()) > 0 || x.hasValues():
		expectErrors(t, what, []int64{code}, got, impl.ErrState)
	case x.nested() > mostNested[f.Worlds]:
		expectErrors(t, what, []int64{code}, got, impl.ErrLimit)
	default:
		expectBool(t, what, got, code, x.value(modelWith(f), make([]int64, impl.MaxPoints)))
	}
	return code
}

// irregularWorlds returns a world of a model for each point, without visible order.
func irregularWorlds(seed *uint64, m impl.Model) []int64 {
	worlds := make([]int64, impl.MaxPoints)
	for point := range worlds {
		worlds[point] = nextNumber(seed) % m.Frame.Worlds
	}
	return worlds
}

// All trees of at most 3 nodes in all models with at most 2 worlds, and those of 4 nodes in some.
func TestValuesOfSmallPointFormulas(t *testing.T) {
	seed := uint64(151)
	for _, f := range leastForms(2)[1:] {
		for _, m := range searched(f, []int64{0, 5}) {
			for size, trees := range pointTreesOver(pointAtoms, []int64{0, 1}, 4) {
				for _, x := range trees {
					if size == 4 && nextNumber(&seed)%8 > 0 {
						continue
					}
					worlds := irregularWorlds(&seed, m)
					for at := range f.Worlds * f.Worlds {
						worlds[0], worlds[1] = at%f.Worlds, at/f.Worlds
						x.expectValue(t, m, worlds)
					}
				}
			}
		}
	}
}

// Trees of all sizes, with up to MaxPoints points, in models of up to MaxWorlds worlds.
func TestValuesOfPointFormulas(t *testing.T) {
	seed := uint64(157)
	for _, m := range sampleModels() {
		if m.Frame.Worlds == 0 {
			continue
		}
		for range 6 {
			size := 1 + nextNumber(&seed)%20
			if nextNumber(&seed)%4 == 0 {
				size = 1 + nextNumber(&seed)%impl.MaxPointNodes
			}
			x := irregularPoints(&seed, size, 1+nextNumber(&seed)%impl.MaxPoints, 6+nextNumber(&seed)%3)
			x.expectValue(t, m, irregularWorlds(&seed, m))
		}
	}
}

func TestValuesOnFrames(t *testing.T) {
	seed := uint64(163)
	codes := map[int64]int{}
	sizes := pointTreesOver([]pointTree{pointAtoms[0], pointAtoms[1], falsePoint()}, []int64{0, 1}, 5)
	for _, f := range sampleFrames() {
		for range 12 {
			trees := sizes[1+nextNumber(&seed)%5]
			x := trees[nextNumber(&seed)%int64(len(trees))]
			codes[x.expectFrameValue(t, f)]++
			codes[x.closed().expectFrameValue(t, f)]++
			x = irregularPoints(&seed, 1+nextNumber(&seed)%9, 1+nextNumber(&seed)%6, 2+nextNumber(&seed)%6).closed()
			codes[x.expectFrameValue(t, f)]++
		}
	}
	if len(codes) != 3 || codes[impl.ErrNone] < 5000 || codes[impl.ErrState] < 5000 || codes[impl.ErrLimit] < 100 {
		t.Errorf("codes of FrameHolds: %v", codes)
	}
}

func TestNamedValuesOnFrames(t *testing.T) {
	for _, c := range []struct {
		frame, text string
		want        bool
	}{
		{"2: 0>0 0>1 1>0 1>1", "A0A1R01", true}, {"2: 0>0 0>1 1>1", "A0A1R01", false},
		{"2: 0>1", "E0E1R01", true}, {"2: 0>1", "A0E1R01", false}, {"2: 0>1", "E1A0R01", false}, {"2: 0>1 1>1", "E1A0R01", true},
		{"2: 0>1 1>0", "A0E1R01", true}, {"2: 0>1 1>0", "E1A0R01", false},
		{"2: 0>1", "A0A1(R01>~R10)", true}, {"2: 0>1 1>0", "A0A1(R01>~R10)", false},
		{"1:", "A0A10=1", true}, {"2:", "A0A10=1", false}, {"2:", "E0E1~0=1", true}, {"1:", "E0E1~0=1", false},
		// A point that is bound again stands for the last world, and then for the first one again.
		{"2: 0>1", "E0(E1R01&A0~R00)", true}, {"2: 0>1", "A0E0E1R01", true}, {"2: 0>1", "E0A0E1R01", false},
		{"2: 0>1", "E0((E1R01&E0A1~R01)&E1R01)", true}, {"2: 0>1", "E0((E1R01&E0A1~R01)&A1~R01)", false},
		{"1:", "F", false}, {"1:", "~F", true}, {"1: 0>0", "~A0~R00", true}, {"1:", "(F|~F)", true}, {"1:", "~~F", false},
		// Without worlds each PointForall is true and each PointExists false.
		{"0:", "F", false}, {"0:", "~F", true}, {"0:", "A0F", true}, {"0:", "E0~F", false}, {"0:", "A0E1F", true}, {"0:", "E0A1~F", false},
		{"0:", "~E0A1R01", true}, {"0:", "(A0R00&~E99=9)", true}, {"0:", "(A0F>E0~F)", false},
	} {
		list := mustPoints(t, c.text)
		f := mustFrame(t, c.frame)
		got, code := impl.FrameHolds(f, list)
		expectBool(t, fmt.Sprintf("FrameHolds of %s on %s", c.text, c.frame), got, code, c.want)
		if f.Worlds > 0 {
			got, code = impl.PointsHold(modelWith(f), list, make([]int64, impl.MaxPoints))
			expectBool(t, fmt.Sprintf("PointsHold of %s on %s", c.text, c.frame), got, code, c.want)
		}
	}
}

// What is no sentence about frames is ErrState, and stands ahead of too many quantifiers.
func TestFormulasThatAreNotAboutFrames(t *testing.T) {
	seven := func(text string) string { return "A3A4A5A6A7A8A3" + text }
	for _, text := range []string{"R00", "R01", "p0", "0=0", "A0p0", "A0(p0>p0)", "E0~u0", "A0R01", "A1R01", "(A0R00&R00)", "(E9R99|u9)", "A0A1R02", "(F&p0)"} {
		for _, f := range []impl.Frame{frameWith(), frameWith(0), frameWith(1), frameWith(3, 3), namedFrames()[1]} {
			for _, long := range []string{text, seven(text), strings.Replace(text, "A0", seven("A0"), 1)} {
				got, code := impl.FrameHolds(f, mustPoints(t, long))
				expectErrors(t, fmt.Sprintf("FrameHolds of %s on %v", long, f), []int64{code}, got, impl.ErrState)
			}
		}
	}
}

// Quantifiers are nested as deep as frames of each size allow, and one deeper. Beside each other, any number of
// them may stand.
func TestNestingLimits(t *testing.T) {
	for worlds, most := range mostNested {
		f := frameWith(relationWhere(worlds, func(x, y int) bool { return x != y })...)
		for nested := range impl.MaxPoints + 1 {
			for _, kind := range []int64{impl.PointForall, impl.PointExists} {
				part := nestedPoints(kind, nested, falsePoint())
				beside := part
				for range 4 {
					beside = linkedPoints(impl.PointOr, nestedPoints(impl.PointForall, min(nested, 2), falsePoint()), beside)
				}
				same := falsePoint()
				for range nested {
					same = quantified(kind, 3, same)
				}
				above := nestedPoints(impl.PointExists, nested/2, linkedPoints(impl.PointImply, falsePoint(), nestedPoints(kind, nested-nested/2, falsePoint())))
				for i, x := range []pointTree{part, beside, same, above} {
					want := int64(impl.ErrNone)
					if nested > most {
						want = impl.ErrLimit
					}
					if got := x.expectFrameValue(t, f); got != want {
						t.Errorf("FrameHolds of the tree %d with %d nested quantifiers and %d worlds: code %d", i, nested, worlds, got)
					}
					if worlds > 0 {
						x.expectValue(t, modelWith(f), make([]int64, impl.MaxPoints))
					}
				}
			}
		}
	}
}

// Formulas with the most bodies have values that no shortcut finds at once.
func TestValuesWithTheMostBodies(t *testing.T) {
	for worlds, most := range mostNested {
		f := frameWith(relationWhere(worlds, func(x, y int) bool { return y == (x+1)%worlds })...)
		path := falsePoint()
		for i := range int64(most - 1) {
			path = linkedPoints(impl.PointOr, linkedPoints(impl.PointImply, pointAtom(impl.PointSees, i, i+1), falsePoint()), path)
		}
		nestedPoints(impl.PointForall, most, path).expectFrameValue(t, f)
		nestedPoints(impl.PointExists, most, linkedPoints(impl.PointImply, path, falsePoint())).expectFrameValue(t, f)
	}
}

func TestWorldsOfPoints(t *testing.T) {
	for worlds := range impl.MaxWorlds + 1 {
		m := modelWith(frameWith(make([]int64, worlds)...))
		for _, text := range []string{"F", "~F", "R00", "p9", "A0A1A2A3A4A5A6F"} {
			list := mustPoints(t, text)
			expect := func(points []int64, want int64) {
				t.Helper()
				got, code := impl.PointsHold(m, list, points)
				if code != want || got != (want == impl.ErrNone && text == "~F") {
					t.Errorf("PointsHold of %s with %d worlds at %v = %v, code %d, want code %d", text, worlds, points, got, code, want)
				}
			}
			for _, length := range []int{0, 1, 9, 11, 20, 1000} {
				expect(make([]int64, length), impl.ErrRange)
			}
			expect(nil, impl.ErrRange)
			for at := range impl.MaxPoints {
				for _, w := range []int64{-1, int64(worlds), int64(worlds) + 1, 64, math.MinInt64, math.MaxInt64, 1 << 32} {
					points := make([]int64, impl.MaxPoints)
					points[at] = w
					expect(points, impl.ErrRange)
				}
				want := int64(impl.ErrNone)
				if worlds == 0 {
					want = impl.ErrRange
				} else if text[0] == 'A' {
					want = impl.ErrLimit
				}
				points := make([]int64, impl.MaxPoints)
				points[at] = max(int64(worlds)-1, 0)
				expect(points, want)
			}
		}
	}
}

// translation returns the translation for the point x, 0 or 1.
func (x tree) translation(point int64) pointTree {
	other := 1 - point
	switch x.node.Kind {
	case impl.KindVariable:
		return pointAtom(impl.PointValue, x.node.Symbol, point)
	case impl.KindFalse:
		return falsePoint()
	case impl.KindBox:
		return quantified(impl.PointForall, other, linkedPoints(impl.PointImply, pointAtom(impl.PointSees, point, other), x.parts[0].translation(other)))
	case impl.KindDiamond:
		return quantified(impl.PointExists, other, linkedPoints(impl.PointAnd, pointAtom(impl.PointSees, point, other), x.parts[0].translation(other)))
	}
	kind := map[int64]int64{impl.KindAnd: impl.PointAnd, impl.KindOr: impl.PointOr, impl.KindImply: impl.PointImply}[x.node.Kind]
	return linkedPoints(kind, x.parts[0].translation(point), x.parts[1].translation(point))
}

// The most nodes are those of boxes and diamonds, each of which has 3: a formula of MaxNodes nodes has a
// translation of at most 118, so that none is too long.
func TestTranslations(t *testing.T) {
	most := 0
	samples := append(sampleTrees(), treeOfText(t, strings.Repeat("[]", 39)+"p"), treeOfText(t, strings.Repeat("<>", 39)+"F"))
	for _, x := range samples {
		for point := range int64(2) {
			want := x.translation(point).nodes()
			most = max(most, len(want))
			got, code := impl.TranslateFormula(x.nodes(), point)
			expectPoints(t, fmt.Sprintf("TranslateFormula of %s for %d", polish(x.nodes()), point), got, code, want)
		}
	}
	if most != 118 {
		t.Errorf("the longest translation has %d nodes", most)
	}
}

func TestNamedTranslations(t *testing.T) {
	for _, c := range [][3]string{
		{"[]p", "A1(R01>p1)", "A0(R10>p0)"},
		{"<>p", "E1(R01&p1)", "E0(R10&p0)"},
		{"p", "p0", "p1"}, {"u", "u0", "u1"}, {"F", "F", "F"}, {"T", "~F", "~F"}, {"~p", "~p0", "~p1"},
		{"[]F", "A1~R01", "A0~R10"}, {"<>F", "E1(R01&F)", "E0(R10&F)"}, {"[]T", "A1(R01>~F)", "A0(R10>~F)"},
		{"p&q", "(p0&q0)", "(p1&q1)"}, {"p|q", "(p0|q0)", "(p1|q1)"}, {"p>q", "(p0>q0)", "(p1>q1)"},
		{"[][]p>[]p", "(A1(R01>A0(R10>p0))>A1(R01>p1))", "(A0(R10>A1(R01>p1))>A0(R10>p0))"},
		{"<>[]p&q", "(E1(R01&A0(R10>p0))&q0)", "(E0(R10&A1(R01>p1))&q1)"},
	} {
		for point := range int64(2) {
			got, code := impl.TranslateFormula(mustParse(t, c[0]), point)
			what := fmt.Sprintf("TranslateFormula of %s for %d", c[0], point)
			expectPoints(t, what, got, code, mustPoints(t, c[1+point]))
		}
	}
}

func TestPointsOfTranslations(t *testing.T) {
	for _, text := range []string{"p", "[]p", "F", "[]p>[][]p"} {
		for _, point := range []int64{-1, 2, 3, 9, 10, math.MinInt64, math.MaxInt64, 1 << 32, 1<<32 + 1, -1 << 32} {
			got, code := impl.TranslateFormula(mustParse(t, text), point)
			expectNoPoints(t, fmt.Sprintf("TranslateFormula of %s for %d", text, point), got, code, impl.ErrRange)
		}
	}
}

// expectTranslated expects that the translation of a formula holds for the worlds at which it is true, or has no
// values if its boxes and diamonds are nested too deep.
func (x tree) expectTranslated(t *testing.T, seed *uint64, m impl.Model) int64 {
	t.Helper()
	a := x.nodes()
	truth, code := impl.TruthSet(m, a)
	expectNumber(t, fmt.Sprintf("TruthSet of %s in %v", polish(a), m), truth, code, x.worldsIn(m))
	_, modal, _ := impl.DepthsOf(a)
	want := int64(impl.ErrNone)
	if int(modal) > mostNested[m.Frame.Worlds] {
		want = impl.ErrLimit
	}
	for point := range int64(2) {
		list, _ := impl.TranslateFormula(a, point)
		for w := range m.Frame.Worlds {
			worlds := irregularWorlds(seed, m)
			worlds[point] = w
			holds, code := impl.PointsHold(m, list, worlds)
			if holds != (want == impl.ErrNone && relates([]int64{truth}, 0, int(w))) || code != want {
				t.Errorf("PointsHold of the translation of %s for %d in %v at %v = %v, code %d", polish(a), point, m, worlds, holds, code)
			}
		}
	}
	return want
}

// P10, on all formulas of at most 4 nodes in all models with at most 2 worlds, and on those of 5 nodes on all
// frames with at most 3 worlds.
func TestTranslationsHoldWhereSmallFormulasAreTrue(t *testing.T) {
	seed := uint64(167)
	trees := treesUpTo(5)
	for _, f := range leastForms(3) {
		if f.Worlds <= 2 {
			for _, m := range searched(f, []int64{0, 5}) {
				for _, x := range slices.Concat(trees[:5]...) {
					x.expectTranslated(t, &seed, m)
				}
			}
		}
		for _, x := range trees[5] {
			x.expectTranslated(t, &seed, irregularModel(&seed, f))
		}
	}
}

// P10, on formulas of all sizes in models of up to MaxWorlds worlds.
func TestTranslationsHoldWhereFormulasAreTrue(t *testing.T) {
	seed := uint64(173)
	codes := map[int64]int{}
	for _, m := range sampleModels() {
		for range 4 {
			codes[irregularTree(&seed, 1+nextNumber(&seed)%16).expectTranslated(t, &seed, m)]++
		}
		codes[irregularTree(&seed, 17+nextNumber(&seed)%24).expectTranslated(t, &seed, m)]++
	}
	if codes[impl.ErrNone] < 2000 || codes[impl.ErrLimit] < 50 {
		t.Errorf("codes of translations: %v", codes)
	}
}

func (x tree) isTruth() bool { return x.isNegation() && x.parts[0].node.Kind == impl.KindFalse }

func (x tree) isBoxedAtom() bool {
	return x.node.Kind == impl.KindVariable || x.node.Kind == impl.KindBox && x.parts[0].isBoxedAtom()
}

// isBuilt tells whether a tree is built by some kinds from what is an atom.
func (x tree) isBuilt(isAtom func(x tree) bool, kinds ...int64) bool {
	if isAtom(x) || x.isTruth() || x.node.Kind == impl.KindFalse {
		return true
	}
	isNot := func(part tree) bool { return !part.isBuilt(isAtom, kinds...) }
	return slices.Contains(kinds, x.node.Kind) && !slices.ContainsFunc(x.parts, isNot)
}

func (x tree) isSahlqvist() bool {
	if x.node.Kind != impl.KindImply {
		return false
	}
	isVariable := func(x tree) bool { return x.node.Kind == impl.KindVariable }
	first := x.parts[0].isBuilt(tree.isBoxedAtom, impl.KindAnd, impl.KindDiamond)
	return first && x.parts[1].isBuilt(isVariable, impl.KindAnd, impl.KindOr, impl.KindBox, impl.KindDiamond)
}

// expectSahlqvist expects whether a tree is a Sahlqvist implication, and returns it.
func (x tree) expectSahlqvist(t *testing.T) bool {
	t.Helper()
	a := x.nodes()
	got, code := impl.IsSahlqvist(a)
	expectBool(t, "IsSahlqvist of "+polish(a), got, code, x.isSahlqvist())
	if !x.isSahlqvist() {
		list, code := impl.CorrespondentOf(a)
		expectNoPoints(t, "CorrespondentOf of "+polish(a), list, code, impl.ErrState)
	}
	return got
}

// irregularPart returns a tree of about size nodes for the first part of a Sahlqvist implication, or for the
// second one, without visible order.
func irregularPart(seed *uint64, size, variables int64, isFirst bool) tree {
	choice := nextNumber(seed) % 8
	switch {
	case size <= 3 && choice == 0:
		return atomTree(impl.KindFalse, 0)
	case size <= 3 && choice == 1:
		return joinTrees(impl.KindImply, atomTree(impl.KindFalse, 0), atomTree(impl.KindFalse, 0))
	case size == 1 || size <= 5 && choice < 5 && isFirst:
		atom := atomTree(impl.KindVariable, nextNumber(seed)%variables)
		for range size - 1 {
			atom = joinTrees(impl.KindBox, atom)
		}
		return atom
	case size == 2 || choice < 4:
		kind := int64(impl.KindDiamond)
		if !isFirst && choice%2 == 0 {
			kind = impl.KindBox
		}
		return joinTrees(kind, irregularPart(seed, size-1, variables, isFirst))
	}
	kind := int64(impl.KindAnd)
	if !isFirst && choice%2 == 0 {
		kind = impl.KindOr
	}
	first := 1 + nextNumber(seed)%(size-2)
	return joinTrees(kind, irregularPart(seed, first, variables, isFirst), irregularPart(seed, size-1-first, variables, isFirst))
}

// irregularSahlqvist returns a Sahlqvist implication with parts of about so many nodes, without visible order.
func irregularSahlqvist(seed *uint64, first, second, variables int64) tree {
	return joinTrees(impl.KindImply, irregularPart(seed, first, variables, true), irregularPart(seed, second, variables, false))
}

// Among all formulas of at most 6 nodes, those are Sahlqvist implications that are built so.
func TestSahlqvistImplications(t *testing.T) {
	counts := map[bool]int{}
	for _, x := range append(slices.Concat(treesUpTo(6)...), sampleTrees()...) {
		counts[x.expectSahlqvist(t)]++
	}
	if counts[true] < 500 || counts[false] < 5000 {
		t.Errorf("Sahlqvist implications: %v", counts)
	}
}

// Sahlqvist implications, and what is made of them by another kind of one node.
func TestChangedSahlqvistImplications(t *testing.T) {
	seed := uint64(179)
	counts := map[bool]int{}
	for range 4000 {
		x := irregularSahlqvist(&seed, 1+nextNumber(&seed)%12, 1+nextNumber(&seed)%12, impl.MaxVariables)
		if !x.expectSahlqvist(t) {
			t.Errorf("%s should be a Sahlqvist implication", polish(x.nodes()))
		}
		changed := x.nodes()
		at := nextNumber(&seed) % int64(len(changed))
		switch len(x.all()[at].parts) {
		case 0:
			changed[at] = impl.Node{Kind: impl.KindFalse - changed[at].Kind}
		case 1:
			changed[at].Kind = impl.KindBox + impl.KindDiamond - changed[at].Kind
		default:
			changed[at].Kind = impl.KindAnd + (changed[at].Kind-impl.KindAnd+1+nextNumber(&seed)%2)%3
		}
		y, _ := treeOf(changed)
		counts[y.expectSahlqvist(t)]++
	}
	if counts[true] < 500 || counts[false] < 1000 {
		t.Errorf("changed Sahlqvist implications: %v", counts)
	}
}

func TestNamedSahlqvistImplications(t *testing.T) {
	for _, text := range []string{
		"[]p>p", "<>p>[]<>p", "p>q", "p>F", "p>T", "T>p", "F>p", "T", "~p", "~T", "~F", "T>T", "[]p>[][]p", "[][]p>[]p", "[]p><>p", "<>p>[]p", "<>[]p>[]<>p",
		"p>[]<>p", "p>[]p", "T>[]F", "[][][]p>q", "<><>[][]p&q&T>r|s", "<>F>p", "<>T>p", "T&F>p", "p&p>p", "p>[]F", "p><>T", "p>[](F|T)", "<>(p&[]q)>[](p|<>q)", "~<>[]u", "<>p&<>q>r&(s|[]F)",
	} {
		if !treeOfText(t, text).expectSahlqvist(t) {
			t.Errorf("%s should be a Sahlqvist implication", text)
		}
	}
	for _, text := range []string{
		"[]<>p><>[]p", "p", "F", "[]p", "p&q", "p|q", "[]F", "<>p", "[](p>q)", "[](p&q)>p", "[]<>p>p", "[]F>p", "[]T>p", "[][]F>p", "p|q>p", "~p>p", "(p>q)>p", "~~p", "<>(p|q)>p",
		"<>[]<>p>p", "p&~q>p", "<>~p>p", "p>~p", "p>q>p", "p>[]~p", "p><>(p>q)", "p>~~p", "p>~T", "p>(T>T)", "(T>T)>p", "~T>p", "[]([]p>p)>[]p", "[]([]p>q)|[]([]q>p)", "[]([](p>[]p)>p)>p",
		"(p>p)&(q>q)", "[](p>p)", "<>(p>p)",
	} {
		if treeOfText(t, text).expectSahlqvist(t) {
			t.Errorf("%s should be no Sahlqvist implication", text)
		}
	}
}

// A placeNote is a variable with a point and a number of boxes.
type placeNote struct{ variable, point, boxes int64 }

// places has what step 1 of a correspondent notes, and the points that it takes.
type places struct {
	taken []int64
	facts []pointTree
	notes []placeNote
}

// read goes through a tree at a point in step 1.
func (p *places) read(x tree, point int64) {
	switch {
	case x.isTruth():
	case x.isBoxedAtom():
		all := x.all()
		p.notes = append(p.notes, placeNote{all[len(all)-1].node.Symbol, point, int64(len(all) - 1)})
	case x.node.Kind == impl.KindFalse:
		p.facts = append(p.facts, falsePoint())
	case x.node.Kind == impl.KindAnd:
		p.read(x.parts[0], point)
		p.read(x.parts[1], point)
	default:
		y := p.unused()
		p.taken = append(p.taken, y)
		p.facts = append(p.facts, pointAtom(impl.PointSees, point, y))
		p.read(x.parts[0], y)
	}
}

// unused returns the least point greater than some and than all that are taken.
func (p *places) unused(points ...int64) int64 { return slices.Max(append(points, p.taken...)) + 1 }

// joined joins some trees by a kind, in order.
func joined(kind int64, trees []pointTree, none pointTree) pointTree {
	if len(trees) == 0 {
		return none
	}
	x := trees[0]
	for _, next := range trees[1:] {
		x = linkedPoints(kind, x, next)
	}
	return x
}

// steps is R(n, x, z) of step 2.
func (p *places) steps(n, x, z int64) pointTree {
	if n == 0 {
		return pointAtom(impl.PointEqual, x, z)
	}
	if n == 1 {
		return pointAtom(impl.PointSees, x, z)
	}
	between := p.unused(x, z)
	return quantified(impl.PointExists, between, linkedPoints(impl.PointAnd, pointAtom(impl.PointSees, x, between), p.steps(n-1, between, z)))
}

// says is C(x, point) of step 4, and for a variable V of step 3.
func (p *places) says(x tree, point int64) pointTree {
	next := p.unused(point)
	sees := pointAtom(impl.PointSees, point, next)
	switch x.node.Kind {
	case impl.KindVariable:
		var ways []pointTree
		for _, note := range p.notes {
			if note.variable == x.node.Symbol {
				ways = append(ways, p.steps(note.boxes, note.point, point))
			}
		}
		return joined(impl.PointOr, ways, falsePoint())
	case impl.KindAnd:
		return linkedPoints(impl.PointAnd, p.says(x.parts[0], point), p.says(x.parts[1], point))
	case impl.KindOr:
		return linkedPoints(impl.PointOr, p.says(x.parts[0], point), p.says(x.parts[1], point))
	case impl.KindImply:
		return truePoint()
	case impl.KindBox:
		return quantified(impl.PointForall, next, linkedPoints(impl.PointImply, sees, p.says(x.parts[0], next)))
	case impl.KindDiamond:
		return quantified(impl.PointExists, next, linkedPoints(impl.PointAnd, sees, p.says(x.parts[0], next)))
	}
	return falsePoint()
}

// correspondent returns the correspondent of a Sahlqvist implication, with any number of nodes and points.
func (x tree) correspondent() pointTree {
	p := &places{taken: []int64{0}}
	p.read(x.parts[0], 0)
	list := linkedPoints(impl.PointImply, joined(impl.PointAnd, p.facts, truePoint()), p.says(x.parts[1], 0))
	for _, point := range slices.Backward(p.taken) {
		list = quantified(impl.PointForall, point, list)
	}
	return list
}

// isWithinPoints tells whether a tree has not too many nodes and points.
func (x pointTree) isWithinPoints() bool {
	isFar := func(node impl.PointNode) bool { return node.First >= impl.MaxPoints || node.Second >= impl.MaxPoints }
	return len(x.nodes()) <= impl.MaxPointNodes && !slices.ContainsFunc(x.nodes(), isFar)
}

// expectCorrespondent expects the correspondent of a Sahlqvist implication, and returns it and its code.
func (x tree) expectCorrespondent(t *testing.T) ([]impl.PointNode, int64) {
	t.Helper()
	want := x.correspondent()
	list, code := impl.CorrespondentOf(x.nodes())
	what := "CorrespondentOf of " + polish(x.nodes())
	if !want.isWithinPoints() {
		expectNoPoints(t, what, list, code, impl.ErrLimit)
		return nil, code
	}
	expectPoints(t, what, list, code, want.nodes())
	free, freeCode := impl.FreePoints(list)
	expectList(t, "FreePoints of the correspondent of "+polish(x.nodes()), free, freeCode)
	return list, code
}

func TestCorrespondents(t *testing.T) {
	for _, x := range slices.Concat(treesUpTo(7)...) {
		if x.isSahlqvist() {
			x.expectCorrespondent(t)
		}
	}
	seed := uint64(181)
	codes := map[int64]int{}
	for range 6000 {
		x := irregularSahlqvist(&seed, 1+nextNumber(&seed)%18, 1+nextNumber(&seed)%18, 1+nextNumber(&seed)%6)
		if len(x.nodes()) > impl.MaxNodes {
			continue
		}
		_, code := x.expectCorrespondent(t)
		codes[code]++
	}
	if codes[impl.ErrNone] < 2000 || codes[impl.ErrLimit] < 200 {
		t.Errorf("codes of correspondents: %v", codes)
	}
}

func TestNamedCorrespondents(t *testing.T) {
	for text, want := range map[string]string{
		"[]p>p":             "A0(~F>R00)",
		"[]p>[][]p":         "A0(~F>A1(R01>A2(R12>R02)))",
		"<>p>[]<>p":         "A0A1(R01>A2(R02>E3(R23&1=3)))",
		"p>[]<>p":           "A0(~F>A1(R01>E2(R12&0=2)))",
		"[][]p>[]p":         "A0(~F>A1(R01>E2(R02&R21)))",
		"[]p><>p":           "A0(~F>E1(R01&R01))",
		"<>p>[]p":           "A0A1(R01>A2(R02>1=2))",
		"<>[]p>[]<>p":       "A0A1(R01>A2(R02>E3(R23&R13)))",
		"p>[]p":             "A0(~F>A1(R01>0=1))",
		"T>[]F":             "A0(~F>A1~R01)",
		"p>p":               "A0(~F>0=0)",
		"p>q":               "A0~~F",
		"p>F":               "A0~~F",
		"T>T":               "A0(~F>~F)",
		"T":                 "A0~F",
		"F>p":               "A0~F",
		"F>T":               "A0(F>~F)",
		"p>q|p":             "A0(~F>(F|0=0))",
		"p>q&p":             "A0(~F>(F&0=0))",
		"[][]p>p":           "A0(~F>E1(R01&R10))",
		"[][][]p>p":         "A0(~F>E1(R01&E2(R12&R20)))",
		"[][][][]p>[]p":     "A0(~F>A1(R01>E2(R02&E3(R23&E4(R34&R41)))))",
		"<>[][]p>p":         "A0A1(R01>E2(R12&R20))",
		"<>[][]p>[]p":       "A0A1(R01>A2(R02>E3(R13&R32)))",
		"p&[]p>p":           "A0(~F>(0=0|R00))",
		"p&[]p&[][]p>p":     "A0(~F>((0=0|R00)|E1(R01&R10)))",
		"p&q&[]p>p&q":       "A0(~F>((0=0|R00)&0=0))",
		"<>p&<>p>p":         "A0A1A2((R01&R02)>(1=0|2=0))",
		"<><>p>p":           "A0A1A2((R01&R12)>2=0)",
		"<>(p&<>q)&<>r>r":   "A0A1A2A3(((R01&R12)&R03)>3=0)",
		"<>p&<>(q&<>p)>[]p": "A0A1A2A3(((R01&R02)&R23)>A4(R04>(1=4|3=4)))",
		"<>F>p":             "A0A1~(R01&F)",
		"F&<>F>q":           "A0A1~((F&R01)&F)",
		"<>T>p":             "A0A1~R01",
		"<>T><>T":           "A0A1(R01>E2(R02&~F))",
		"T&F>[]p":           "A0(F>A1~R01)",
		"u>[][]u|<>u":       "A0(~F>(A1(R01>A2(R12>0=2))|E1(R01&0=1)))",
		"p>[]p&[]p":         "A0(~F>(A1(R01>0=1)&A1(R01>0=1)))",
	} {
		a := mustParse(t, text)
		list, code := impl.CorrespondentOf(a)
		expectPoints(t, "CorrespondentOf of "+text, list, code, mustPoints(t, want))
	}
}

// Correspondents that need just MaxPoints points or have just MaxPointNodes nodes, and those that need more.
func TestCorrespondentLimits(t *testing.T) {
	diamonds := func(n int) string { return strings.Repeat("<>", n) }
	boxes := func(n int) string { return strings.Repeat("[]", n) }
	all := func(part string, n int) string { return strings.Repeat(part+"&", n-1) + part }
	for _, c := range []struct {
		text          string
		points, nodes int
	}{
		{diamonds(9) + "p>T", 10, 31}, {diamonds(10) + "p>T", 11, 34}, {all("<>p", 9) + ">F", 10, 29}, {all("<>p", 10) + ">F", 11, 32},
		{diamonds(4) + "<>(<>p&<>q)&<>r&<>s>r", 10, 29}, {diamonds(5) + "<>(<>p&<>q)&<>r&<>s>r", 11, 32}, {diamonds(37) + "p>F", 38, 113},
		{"T>" + boxes(9) + "F", 10, 33}, {"T>" + boxes(10) + "F", 11, 36}, {"p>" + diamonds(9) + "p", 10, 33}, {"p>" + diamonds(10) + "p", 11, 36},
		{"<>p>" + boxes(8) + "p", 10, 29}, {"<>p>" + boxes(9) + "p", 11, 32}, {"<>p>[]p&" + diamonds(8) + "T", 10, 36}, {"<>p>[]p&" + diamonds(9) + "T", 11, 39},
		{boxes(10) + "p>p", 10, 33}, {boxes(11) + "p>p", 11, 36}, {"<>" + boxes(9) + "p>p", 10, 29}, {"<>" + boxes(10) + "p>p", 11, 32},
		{boxes(9) + "p>[]p", 10, 33}, {boxes(10) + "p>[]p", 11, 36}, {boxes(5) + "p>" + boxes(5) + "p", 10, 33}, {boxes(5) + "p>" + boxes(6) + "p", 11, 36},
		{"<>p&" + boxes(9) + "q>p&q", 10, 31}, {"<>p&" + boxes(10) + "q>p&q", 11, 34}, {diamonds(9) + "p>p", 10, 29}, {diamonds(9) + "[]p>p", 10, 29}, {diamonds(9) + "[][]p>p", 11, 32},
		// A boxed atom needs no points if its variable is not on the right side.
		{boxes(37) + "p>q", 1, 6}, {boxes(35) + "p&q>q", 1, 6}, {diamonds(9) + boxes(26) + "p>T", 10, 31},
		{boxes(10) + "p>" + all("p", 4), 10, 120}, {boxes(4) + "p&p>" + all("p", 9), 4, 121}, {boxes(9) + "p>" + all("p", 4), 9, 108},
		{all("p", 10) + ">" + all("p", 10), 1, 204}, {all("p", 8) + ">" + all("p", 7), 1, 116}, {all("p", 7) + ">" + all("p", 8), 1, 116},
		{all("p", 7) + ">" + all("p", 8) + "&<>T", 2, 123}, {all("p", 7) + ">" + all("p", 8) + "&<>F", 2, 121}, {all("p", 7) + ">" + all("p", 8) + "&[]F", 2, 121}, {all("p", 7) + ">" + all("p", 8) + "&T", 1, 120},
		{all("p", 7) + ">" + all("p", 8) + "&F", 1, 118}, {all("p", 7) + ">" + all("p", 8) + "&F&F", 1, 120}, {"F&F&" + all("p", 7) + ">" + all("p", 8) + "&F&F", 1, 120}, {"F&" + all("p", 7) + ">" + all("p", 8) + "&T", 1, 118}, {"<>T&F&" + all("p", 7) + ">" + all("p", 8) + "&T", 2, 121},
		{"<>T&F&" + all("p", 7) + ">" + all("p", 8) + "&F", 2, 119}, {"<>T&" + all("p", 7) + ">" + all("p", 8) + "&T", 2, 119},
	} {
		x := treeOfText(t, c.text)
		want := x.correspondent()
		points := int64(0)
		for _, node := range want.nodes() {
			if node.Kind == impl.PointForall || node.Kind == impl.PointExists {
				points = max(points, node.First)
			}
		}
		if int(points)+1 != c.points || len(want.nodes()) != c.nodes {
			t.Errorf("the correspondent of %s should have %d points and %d nodes, has %d and %d", c.text, c.points, c.nodes, points+1, len(want.nodes()))
		}
		_, code := x.expectCorrespondent(t)
		if (code == impl.ErrNone) != (c.points <= impl.MaxPoints && c.nodes <= impl.MaxPointNodes) {
			t.Errorf("CorrespondentOf of %s: code %d", c.text, code)
		}
	}
}

// expectCorresponding expects that a Sahlqvist implication is valid on a frame exactly if its correspondent holds
// there, or that this has no value, and returns the code.
func expectCorresponding(t *testing.T, f impl.Frame, a []impl.Node, list []impl.PointNode) (bool, int64) {
	t.Helper()
	valid, code := impl.IsValidOn(f, a)
	if code != impl.ErrNone {
		t.Fatalf("IsValidOn of %s on %v: code %d", polish(a), f, code)
	}
	holds, code := impl.FrameHolds(f, list)
	if code == impl.ErrNone && holds != valid {
		t.Errorf("the correspondent of %s holds on %v: %v", polish(a), f, holds)
	}
	if code != impl.ErrNone && (code != impl.ErrLimit || holds) {
		t.Errorf("FrameHolds of the correspondent of %s on %v = %v, code %d", polish(a), f, holds, code)
	}
	return holds, code
}

// P45 and P10, on the Sahlqvist implications of at most 6 nodes and all frames with at most 3 worlds.
func TestSmallSahlqvistImplicationsCorrespond(t *testing.T) {
	counts := map[bool]int{}
	for _, x := range slices.Concat(treesUpTo(6)...) {
		if !x.isSahlqvist() {
			continue
		}
		list, _ := x.expectCorrespondent(t)
		for _, f := range leastForms(3) {
			holds, code := expectCorresponding(t, f, x.nodes(), list)
			if code != impl.ErrNone {
				t.Errorf("FrameHolds of the correspondent of %s on %v: code %d", polish(x.nodes()), f, code)
			}
			counts[holds]++
		}
	}
	if counts[true] < 10000 || counts[false] < 10000 {
		t.Errorf("correspondents hold: %v", counts)
	}
}

// P45, on larger Sahlqvist implications and frames of up to MaxWorlds worlds.
func TestSahlqvistImplicationsCorrespond(t *testing.T) {
	seed := uint64(191)
	counts := map[bool]int{}
	frames := sampleFrames()
	for range 3000 {
		x := irregularSahlqvist(&seed, 1+nextNumber(&seed)%9, 1+nextNumber(&seed)%8, 1+nextNumber(&seed)%2)
		list, code := x.expectCorrespondent(t)
		if code != impl.ErrNone {
			continue
		}
		for range 4 {
			f := frames[nextNumber(&seed)%int64(len(frames))]
			if f.Worlds*int64(len(variablesOf(x))) > 9 {
				continue
			}
			if holds, code := expectCorresponding(t, f, x.nodes(), list); code == impl.ErrNone {
				counts[holds]++
			}
		}
	}
	if counts[true] < 1000 || counts[false] < 1000 {
		t.Errorf("correspondents hold: %v", counts)
	}
}

// The axioms of chapter 9 that are Sahlqvist implications have correspondents that hold exactly if their
// conditions do.
func TestCorrespondentsOfAxioms(t *testing.T) {
	names := ""
	seed := uint64(193)
	for _, row := range axiomRows() {
		x := treeOfText(t, row.text)
		if !x.expectSahlqvist(t) {
			continue
		}
		names += row.name
		list, _ := x.expectCorrespondent(t)
		frames := sampleFrames()
		for worlds := range impl.MaxWorlds + 1 {
			for seen := range 6 {
				f := frameWith(row.built(&seed, irregularFrame(&seed, worlds, seen).Arrows)...)
				frames = append(frames, f)
				if worlds > 0 {
					changed := frameWith(slices.Clone(f.Arrows)...)
					changed.Arrows[nextNumber(&seed)%int64(worlds)] ^= 1 << (nextNumber(&seed) % int64(worlds))
					frames = append(frames, changed)
				}
			}
		}
		for _, f := range frames {
			holds, code := impl.FrameHolds(f, list)
			want, wantCode := impl.AxiomHolds(f, row.name)
			if holds != want || code != impl.ErrNone || wantCode != impl.ErrNone {
				t.Errorf("the correspondent of %s on %v: %v, code %d", row.name, f, holds, code)
			}
		}
	}
	if names != "45BCDFGTX" {
		t.Errorf("the axioms %s are Sahlqvist implications", names)
	}
	// The axiom V is valid where this Sahlqvist implication is.
	list := mustPoints(t, "A0(~F>A1~R01)")
	for _, f := range sampleFrames() {
		holds, code := impl.FrameHolds(f, list)
		want, _ := impl.AxiomHolds(f, "V")
		expectBool(t, fmt.Sprint("FrameHolds of the condition of V on ", f), holds, code, want)
	}
}

// pointErrors returns the codes of the functions of a point formula, with a model and worlds that may be wrong,
// too, and whether some result beside them is not its zero value.
func pointErrors(m impl.Model, list []impl.PointNode, worlds []int64) ([]int64, bool) {
	holds, code1 := impl.PointsHold(m, list, worlds)
	frameHolds, code2 := impl.FrameHolds(m.Frame, list)
	return []int64{code1, code2}, holds || frameHolds
}

// What is no point formula, model or frame stands ahead of worlds that are none, of free points and of too many
// quantifiers.
func TestErrorsOfPointFormulas(t *testing.T) {
	ten := make([]int64, impl.MaxPoints)
	lists := [][]int64{ten, nil, ten[:9], {0, 0, 0, 0, 0, 0, 0, 0, 0, 99}, {-1, 0, 0, 0, 0, 0, 0, 0, 0, 0}}
	for _, list := range invalidPoints() {
		what := fmt.Sprint(" of the invalid point formula ", list)
		text, code1 := impl.PointText(list)
		free, code2 := impl.FreePoints(list)
		expectErrors(t, "PointText and FreePoints"+what, []int64{code1, code2}, text != "" || len(free) != 0, impl.ErrInvalid)
		for _, m := range []impl.Model{modelWith(frameWith()), modelWith(frameWith(2, 0), 2), modelWith(namedFrames()[1]), {}, modelWith(frameWith(8))} {
			for _, worlds := range lists {
				codes, given := pointErrors(m, list, worlds)
				expectErrors(t, fmt.Sprintf("PointsHold and FrameHolds%s in %v", what, m), codes, given, impl.ErrInvalid)
			}
		}
	}
	formulas := [][]impl.PointNode{
		falsePoint().nodes(), truePoint().nodes(), pointAtoms[0].nodes(), pointAtoms[2].nodes(),
		nestedPoints(impl.PointForall, 7, falsePoint()).nodes(), nestedPoints(impl.PointExists, 119, pointAtoms[3]).nodes(), nil,
	}
	for _, list := range formulas {
		for _, worlds := range lists {
			for _, m := range invalidModels() {
				holds, code := impl.PointsHold(m, list, worlds)
				expectErrors(t, fmt.Sprint("PointsHold in the invalid model ", m), []int64{code}, holds, impl.ErrInvalid)
			}
		}
		for _, f := range invalidFrames() {
			holds, code := impl.FrameHolds(f, list)
			expectErrors(t, fmt.Sprint("FrameHolds on the invalid frame ", f), []int64{code}, holds, impl.ErrInvalid)
		}
	}
}

// What is no formula stands ahead of points that are neither 0 nor 1, and of all else.
func TestErrorsOfTranslationsAndCorrespondents(t *testing.T) {
	for _, a := range invalidLists() {
		what := fmt.Sprint(" of the invalid formula ", a)
		for _, point := range []int64{0, 1, 2, -1, math.MinInt64, math.MaxInt64} {
			list, code := impl.TranslateFormula(a, point)
			expectNoPoints(t, "TranslateFormula"+what, list, code, impl.ErrInvalid)
		}
		is, code := impl.IsSahlqvist(a)
		expectErrors(t, "IsSahlqvist"+what, []int64{code}, is, impl.ErrInvalid)
		list, code := impl.CorrespondentOf(a)
		expectNoPoints(t, "CorrespondentOf"+what, list, code, impl.ErrInvalid)
	}
	// No Sahlqvist implication, whatever its parts would need.
	for _, text := range []string{strings.Repeat("<>", 12) + "p>~p", strings.Repeat("[]", 12) + "p", "[]<>p>" + strings.Repeat("[]", 12) + "p"} {
		treeOfText(t, text).expectSahlqvist(t)
	}
}

// expectOwnPoints overwrites a result.
func expectOwnPoints(t *testing.T, what string, list []impl.PointNode) {
	t.Helper()
	if !impl.IsPointFormula(list) {
		t.Errorf("%s: %v", what, list)
	}
	list = list[:cap(list)]
	for i := range list {
		list[i] = impl.PointNode{Kind: -1, First: -1, Second: -1}
	}
}

// No function changes an argument or the capacity behind it, and no result shares memory with an argument or
// with a later result.
func TestCorrespondenceIsNeitherChangedNorShared(t *testing.T) {
	store := append(mustPoints(t, "E0(R01&A1(R12>p2))"), slices.Repeat([]impl.PointNode{{Kind: -9, First: -9, Second: -9}}, 20)...)
	before := slices.Clone(store)
	nodes := append(mustParse(t, "<>[][]p&q>[]<>p"), slices.Repeat([]impl.Node{{Kind: -9, Symbol: -9}}, 40)...)
	nodesBefore := slices.Clone(nodes)
	numbers := slices.Concat([]int64{2, 4, 0}, []int64{-9, -9}, []int64{0, 1, 2, 0, 1, 2, 0, 1, 2, 0}, []int64{-9, -9}, []int64{5, 2, 0, 7, 1, 4}, []int64{-9, -9})
	numbersBefore := slices.Clone(numbers)
	m := impl.Model{Frame: impl.Frame{Worlds: 3, Arrows: numbers[:3]}, Values: numbers[17:23]}
	for range 2 {
		translation, _ := impl.TranslateFormula(nodes[:10], 0)
		expectOwnPoints(t, "TranslateFormula", translation)
		atom, _ := impl.TranslateFormula(nodes[5:6], 1)
		expectOwnPoints(t, "TranslateFormula", atom)
		correspondent, code := impl.CorrespondentOf(nodes[:10])
		if code != impl.ErrNone || len(correspondent) != len(mustPoints(t, "A0A1(R01>A2(R02>E3(R23&E4(R14&R43))))")) {
			t.Errorf("CorrespondentOf = %v, code %d", correspondent, code)
		}
		expectOwnPoints(t, "CorrespondentOf", correspondent)
		for _, text := range []string{"F", "A0~R01", "(R01&E1R12)"} {
			expectOwnPoints(t, "ParsePoint", mustPoints(t, text))
		}
		free, _ := impl.FreePoints(store[:7])
		expectList(t, "FreePoints", free, impl.ErrNone, 1, 2)
		expectOwnNumbers(t, "FreePoints", [][]int64{free})
		impl.IsPointFormula(store[:7])
		impl.PointText(store[:7])
		impl.PointsHold(m, store[:7], numbers[5:15])
		impl.FrameHolds(m.Frame, store[:7])
		impl.IsSahlqvist(nodes[:10])
		if !slices.Equal(store, before) || !slices.Equal(nodes, nodesBefore) || !slices.Equal(numbers, numbersBefore) {
			t.Fatalf("an argument was changed: %v, %v, %v", store, nodes, numbers)
		}
	}
}
