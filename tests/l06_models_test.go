package tests

import (
	"fmt"
	"math"
	"slices"
	"testing"

	"loop.example/g01089/impl"
)

const mostSearched = 16

// modelWith returns the model on a frame with the values of the first variables; the others are
// true nowhere.
func modelWith(f impl.Frame, values ...int64) impl.Model {
	return impl.Model{Frame: f, Values: append(slices.Clone(values), make([]int64, impl.MaxVariables-len(values))...)}
}

// irregularModel returns a model on a frame whose values have no visible order.
func irregularModel(seed *uint64, f impl.Frame) impl.Model {
	m := modelWith(f)
	for v := range m.Values {
		m.Values[v] = nextNumber(seed) & (1<<f.Worlds - 1)
	}
	return m
}

// sampleModels returns a model on each of the sample frames, models in which variables are true
// nowhere or everywhere, and some more without visible order.
func sampleModels() []impl.Model {
	var samples []impl.Model
	seed := uint64(37)
	for _, f := range sampleFrames() {
		samples = append(samples, irregularModel(&seed, f))
	}
	for _, f := range namedFrames() {
		all := int64(1)<<f.Worlds - 1
		samples = append(samples, modelWith(f), modelWith(f, all, 0, all, all, 0, all), irregularModel(&seed, f), irregularModel(&seed, f))
	}
	return samples
}

// invalidModels returns models that are wrong in their frame, in the number of their values or in
// one value.
func invalidModels() []impl.Model {
	models := []impl.Model{{}, {Frame: frameWith(0)}, {Frame: frameWith(0), Values: []int64{0}}}
	for _, f := range invalidFrames() {
		models = append(models, modelWith(f))
	}
	for worlds := range impl.MaxWorlds + 1 {
		f := frameWith(make([]int64, worlds)...)
		for _, length := range []int{0, 1, 5, 7, 12} {
			models = append(models, impl.Model{Frame: f, Values: make([]int64, length)})
		}
		for _, mask := range []int64{1 << worlds, 1<<worlds + 1, -1, 1 << 62, math.MinInt64, math.MaxInt64} {
			models = append(models, modelWith(f, mask), modelWith(f, 0, 0, mask), modelWith(f, 0, 0, 0, 0, 0, mask))
		}
	}
	return models
}

func areSameModels(m, n impl.Model) bool {
	return areSameFrames(m.Frame, n.Frame) && slices.Equal(m.Values, n.Values)
}

func expectModel(t *testing.T, what string, got impl.Model, code int64, want impl.Model) {
	t.Helper()
	if !areSameModels(got, want) || code != impl.ErrNone {
		t.Errorf("%s = %v, code %d, want %v", what, got, code, want)
	}
}

func expectNoModel(t *testing.T, what string, got impl.Model, code, want int64) {
	t.Helper()
	if !areSameModels(got, impl.Model{}) || code != want {
		t.Errorf("%s = %v, code %d, want code %d", what, got, code, want)
	}
}

// truthIn tells of each world of a model whether the formula is true at it.
func (x tree) truthIn(m impl.Model) []bool {
	truth := make([]bool, m.Frame.Worlds)
	var parts [][]bool
	for _, part := range x.parts {
		parts = append(parts, part.truthIn(m))
	}
	for w := range truth {
		switch x.node.Kind {
		case impl.KindVariable:
			truth[w] = relates(m.Values, int(x.node.Symbol), w)
		case impl.KindAnd:
			truth[w] = parts[0][w] && parts[1][w]
		case impl.KindOr:
			truth[w] = parts[0][w] || parts[1][w]
		case impl.KindImply:
			truth[w] = !parts[0][w] || parts[1][w]
		case impl.KindBox, impl.KindDiamond:
			truth[w] = x.node.Kind == impl.KindBox
			for next := range truth {
				if relates(m.Frame.Arrows, w, next) && parts[0][next] != truth[w] {
					truth[w] = !truth[w]
					break
				}
			}
		}
	}
	return truth
}

// worldsIn returns the mask of the worlds of a model at which the formula is true.
func (x tree) worldsIn(m impl.Model) int64 {
	var mask int64
	for w, holds := range x.truthIn(m) {
		if holds {
			mask += 1 << w
		}
	}
	return mask
}

// variablesOf returns the variables that occur in some trees, in ascending order.
func variablesOf(trees ...tree) []int64 {
	var variables []int64
	for v := range int64(impl.MaxVariables) {
		occurs := func(x tree) bool { return x.node.Kind == impl.KindVariable && x.node.Symbol == v }
		if slices.ContainsFunc(trees, func(x tree) bool { return slices.ContainsFunc(x.all(), occurs) }) {
			variables = append(variables, v)
		}
	}
	return variables
}

// searched returns all models on a frame in which at most some variables are true, in order.
func searched(f impl.Frame, variables []int64) []impl.Model {
	models := []impl.Model{modelWith(f)}
	for _, v := range variables {
		var more []impl.Model
		for _, m := range models {
			for mask := range int64(1) << f.Worlds {
				values := slices.Clone(m.Values)
				values[v] = mask
				more = append(more, impl.Model{Frame: f, Values: values})
			}
		}
		models = more
	}
	return models
}

func nodesOf(trees []tree) [][]impl.Node {
	var lists [][]impl.Node
	for _, x := range trees {
		lists = append(lists, x.nodes())
	}
	return lists
}

func treeOfText(t *testing.T, text string) tree {
	t.Helper()
	x, _ := treeOf(mustParse(t, text))
	return x
}

func treesOfTexts(t *testing.T, texts ...string) []tree {
	t.Helper()
	var trees []tree
	for _, text := range texts {
		trees = append(trees, treeOfText(t, text))
	}
	return trees
}

// expectRefutations expects what all models say of a formula.
func expectRefutations(t *testing.T, f impl.Frame, x tree) (int64, int64) {
	t.Helper()
	a, all := x.nodes(), int64(1)<<f.Worlds-1
	var refuting, first int64
	var values []int64
	for _, m := range searched(f, variablesOf(x)) {
		worlds := all - x.worldsIn(m)
		if refuting == 0 && worlds != 0 {
			values = m.Values
			for !relates([]int64{worlds}, 0, int(first)) {
				first++
			}
		}
		refuting |= worlds
		if refuting == all && all != 0 {
			break
		}
	}
	what := fmt.Sprintf(" of %s on %v", polish(a), f)
	valid, code := impl.IsValidOn(f, a)
	expectBool(t, "IsValidOn"+what, valid, code, refuting == 0)
	got, code := impl.RefutingWorlds(f, a)
	expectNumber(t, "RefutingWorlds"+what, got, code, refuting)
	list, w, code := impl.FirstRefutation(f, a)
	if refuting == 0 {
		expectNoRefutation(t, "FirstRefutation"+what, list, w, code, impl.ErrNotFound)
	} else if !slices.Equal(list, values) || w != first || code != impl.ErrNone {
		t.Errorf("FirstRefutation%s = %v, %d, code %d, want %v, %d", what, list, w, code, values, first)
	}
	return refuting, all
}

func expectNoRefutation(t *testing.T, what string, list []int64, w, code, want int64) {
	t.Helper()
	if len(list) != 0 || w != 0 || code != want {
		t.Errorf("%s = %v, %d, code %d, want code %d", what, list, w, code, want)
	}
}

// expectConsequences expects what all models say of a formula and its premises, and returns it.
func expectConsequences(t *testing.T, f impl.Frame, premises []tree, x tree) (bool, bool) {
	t.Helper()
	all := int64(1)<<f.Worlds - 1
	local, global := true, true
	for _, m := range searched(f, variablesOf(append(slices.Clone(premises), x)...)) {
		common := all
		for _, premise := range premises {
			common &= premise.worldsIn(m)
		}
		truth := x.worldsIn(m)
		local = local && common&^truth == 0
		global = global && (common != all || truth == all)
	}
	what := fmt.Sprintf(" on %v of %s from", f, polish(x.nodes()))
	for _, premise := range premises {
		what += " " + polish(premise.nodes())
	}
	got, code := impl.IsLocalConsequence(f, nodesOf(premises), x.nodes())
	expectBool(t, "IsLocalConsequence"+what, got, code, local)
	got, code = impl.IsGlobalConsequence(f, nodesOf(premises), x.nodes())
	expectBool(t, "IsGlobalConsequence"+what, got, code, global)
	return local, global
}

func TestIsModel(t *testing.T) {
	for _, m := range sampleModels() {
		if !impl.IsModel(m) {
			t.Errorf("IsModel(%v) is false", m)
		}
	}
	for _, m := range invalidModels() {
		if impl.IsModel(m) {
			t.Errorf("IsModel(%v) is true", m)
		}
	}
	// Any mask of the worlds is a value of each variable, and no other number is.
	for worlds := range impl.MaxWorlds + 1 {
		for v := range impl.MaxVariables {
			for value := int64(-2); value <= 1<<worlds+1; value++ {
				m := modelWith(frameWith(make([]int64, worlds)...))
				m.Values[v] = value
				if impl.IsModel(m) != (value >= 0 && value < 1<<worlds) {
					t.Errorf("IsModel(%v) is wrong", m)
				}
			}
		}
	}
}

// expectTruth expects of a formula what truthIn says.
func expectTruth(t *testing.T, m impl.Model, x tree) {
	t.Helper()
	a, truth := x.nodes(), x.truthIn(m)
	what := fmt.Sprintf(" of %s in %v", polish(a), m)
	got, code := impl.TruthSet(m, a)
	expectNumber(t, "TruthSet"+what, got, code, x.worldsIn(m))
	all, code := impl.IsTrueIn(m, a)
	expectBool(t, "IsTrueIn"+what, all, code, !slices.Contains(truth, false))
	for w, holds := range truth {
		one, code := impl.IsTrueAt(m, int64(w), a)
		expectBool(t, fmt.Sprint("IsTrueAt ", w, what), one, code, holds)
	}
}

func TestTruth(t *testing.T) {
	seed := uint64(41)
	models := sampleModels()
	for i, x := range sampleTrees() {
		expectTruth(t, models[i%len(models)], x)
		expectTruth(t, models[nextNumber(&seed)%int64(len(models))], x)
	}
	for _, m := range models {
		for range 10 {
			expectTruth(t, m, irregularTree(&seed, 1+nextNumber(&seed)%12))
		}
		// Small formulas are also read world by world.
		x := irregularTree(&seed, 1+nextNumber(&seed)%6)
		for w, holds := range x.truthIn(m) {
			if x.truthAt(m.Frame.Arrows, m.Values, w) != holds {
				t.Errorf("the truth of %s in %v", polish(x.nodes()), m)
			}
		}
	}
}

func TestNamedTruth(t *testing.T) {
	none, two := modelWith(frameWith()), modelWith(frameWith(2, 0), 2)
	// A world that sees all worlds, one that sees none, one that sees itself, and one that sees
	// another one; each variable is true at other worlds.
	four := modelWith(frameWith(15, 0, 4, 2), 1, 2, 4, 8, 15, 0)
	for _, c := range []struct {
		m    impl.Model
		text string
		want int64
	}{
		{two, "[]p", 3}, {two, "<>p", 1}, {two, "p", 2}, {two, "~p", 1}, {two, "F", 0}, {two, "T", 3}, {two, "[]F", 2}, {two, "<>T", 1},
		{two, "[]q", 2}, {two, "<>q", 0}, {two, "p&<>T", 0}, {two, "p|<>T", 3}, {two, "p>q", 1}, {two, "q>p", 3}, {two, "[][]F", 3}, {two, "<><>T", 0},
		{none, "F", 0}, {none, "T", 0}, {none, "p", 0}, {none, "[]F", 0}, {none, "<>p>q", 0},
		{four, "p", 1}, {four, "q", 2}, {four, "r", 4}, {four, "s", 8}, {four, "t", 15}, {four, "u", 0},
		{four, "[]p", 2}, {four, "<>p", 1}, {four, "[]q", 10}, {four, "<>q", 9}, {four, "[]r", 6}, {four, "<>r", 5}, {four, "[]t", 15}, {four, "<>t", 13},
		{four, "[]u", 2}, {four, "<>u", 0}, {four, "[]<>t", 6}, {four, "<>[]u", 9}, {four, "p|q|r", 7}, {four, "t&s", 8}, {four, "t>s", 8}, {four, "s>t", 15},
		{four, "s>u", 7}, {four, "u>s", 15}, {four, "[](p|q|r|s)", 15}, {four, "<>p&<>q&<>r&<>s", 1}, {four, "[]q&~[]F", 8},
	} {
		got, code := impl.TruthSet(c.m, mustParse(t, c.text))
		expectNumber(t, "TruthSet of "+c.text, got, code, c.want)
		all, code := impl.IsTrueIn(c.m, mustParse(t, c.text))
		expectBool(t, "IsTrueIn of "+c.text, all, code, c.want == 1<<c.m.Frame.Worlds-1)
		expectTruth(t, c.m, treeOfText(t, c.text))
	}
	// Formulas of MaxNodes nodes on MaxWorlds worlds.
	for _, f := range namedFrames() {
		for _, value := range []int64{0, 1, 1<<f.Worlds - 1} {
			m := modelWith(f, value&(1<<f.Worlds-1))
			deep, _ := treeOf(boxed(impl.MaxNodes))
			expectTruth(t, m, deep)
			wide, _ := treeOf(slices.Concat(slices.Repeat([]impl.Node{{Kind: impl.KindImply}}, 19), slices.Repeat([]impl.Node{{}}, 20)))
			expectTruth(t, m, wide)
		}
	}
}

func TestTrueAtNoWorld(t *testing.T) {
	for _, m := range sampleModels() {
		for _, w := range []int64{m.Frame.Worlds, m.Frame.Worlds + 1, 8, 9, -1, 64, 1 << 32, math.MinInt64, math.MaxInt64} {
			for _, text := range []string{"T", "F", "p"} {
				got, code := impl.IsTrueAt(m, w, mustParse(t, text))
				if got || code != impl.ErrRange {
					t.Errorf("IsTrueAt %d of %v = %v, code %d", w, m, got, code)
				}
			}
		}
	}
}

func TestRefutationsOnAllSmallFrames(t *testing.T) {
	trees := slices.Concat(treesUpTo(4)...)
	kinds := map[string]int{}
	for worlds := range 3 {
		for _, r := range allRelations(worlds) {
			for _, x := range trees {
				refuting, all := expectRefutations(t, frameWith(r...), x)
				kinds[fmt.Sprint(worlds, refuting == 0, refuting == all)]++
			}
		}
	}
	// There are formulas that are valid, refuted at some worlds, and at all.
	for _, kind := range []string{"0 true true", "1 true false", "1 false true", "2 true false", "2 false false", "2 false true"} {
		if kinds[kind] == 0 {
			t.Errorf("the samples are of kinds %v", kinds)
		}
	}
}

func TestRefutationsOnLargerFrames(t *testing.T) {
	seed := uint64(43)
	for i := range 1500 {
		f := irregularFrame(&seed, 3+i%6, 1+i%5)
		x := joinTrees(impl.KindImply, irregularTree(&seed, 1+nextNumber(&seed)%20), irregularTree(&seed, 1+nextNumber(&seed)%6))
		if f.Worlds*int64(len(variablesOf(x))) <= mostSearched-4 || i%50 == 0 && f.Worlds*int64(len(variablesOf(x))) <= mostSearched {
			expectRefutations(t, f, x)
		}
	}
}

// lateRefutations returns formulas that are refuted in few models only: they say of some worlds
// what is true there.
func lateRefutations(t *testing.T) []tree {
	t.Helper()
	return treesOfTexts(t,
		"~(p&~q)", "~(q&~p)", "~(p&q)", "~([]p&p)", "~([]p&~p)", "~(p&[](p&q))", "~([]p&[]~q&q)", "~(u&<>s)", "~(t&[]t)",
		"~(<>p&<>~p)", "~(<>(p&q)&<>(p&~q))", "~(<>(p&q)&<>(p&~q)&<>(q&~p))", "~(<>p&p&<>(~p&<>p))", "~(<>[]p&<>[]~p)", "~(p&<>(q&<>r))", "~(s&<>(q&<>(p&~q)))",
		"[]p>p", "[]p>[][]p", "p>[]<>p", "[]p><>p", "<>p>[]<>p", "[]([]p>p)>[]p", "[](p>q)>([]p>[]q)", "<>[]p>[]<>p", "[]<>p><>[]p", "[]([]p>q)|[]([]q>p)", "[](p|q)>[]p|[]q", "<>p&<>q><>(p&q)", "[][]p>[]p", "<>p>[]p",
	)
}

func TestLateRefutations(t *testing.T) {
	trees := lateRefutations(t)
	for worlds := range int64(4) {
		frames, _ := impl.AllFrames(worlds)
		for i, f := range frames {
			for j, x := range trees {
				if worlds*int64(len(variablesOf(x))) <= 6 || (i+j)%9 == 0 {
					expectRefutations(t, f, x)
				}
			}
		}
	}
	seed := uint64(47)
	for i := range 400 {
		f := irregularFrame(&seed, 4+i%5, 1+i%4)
		if x := trees[nextNumber(&seed)%int64(len(trees))]; f.Worlds*int64(len(variablesOf(x))) <= 12 {
			expectRefutations(t, f, x)
		}
	}
}

// What is known of the validity of some formulas, of frames of at most 3 worlds and larger ones.
func TestValidityOfKnownFormulas(t *testing.T) {
	known := map[string]func(r []int64) bool{
		"[]p>p":               func(r []int64) bool { return flagHolds(r, impl.FlagReflexive) },
		"[]p><>p":             func(r []int64) bool { return flagHolds(r, impl.FlagSerial) },
		"<>T":                 func(r []int64) bool { return flagHolds(r, impl.FlagSerial) },
		"[]p>[][]p":           func(r []int64) bool { return flagHolds(r, impl.FlagTransitive) },
		"p>[]<>p":             func(r []int64) bool { return flagHolds(r, impl.FlagSymmetric) },
		"<>p>[]<>p":           func(r []int64) bool { return flagHolds(r, impl.FlagEuclidean) },
		"<>[]p>[]<>p":         func(r []int64) bool { return flagHolds(r, impl.FlagDirected) },
		"[][]p>[]p":           func(r []int64) bool { return flagHolds(r, impl.FlagDense) },
		"<>p>[]p":             func(r []int64) bool { return flagHolds(r, impl.FlagFunctional) },
		"[]([]p>p)>[]p":       func(r []int64) bool { return flagHolds(r, impl.FlagTransitive) && flagHolds(r, impl.FlagAcyclic) },
		"[](p>q)>[]p>[]q":     func(r []int64) bool { return true },
		"<>(p|q)><>p|<>q":     func(r []int64) bool { return true },
		"[]T":                 func(r []int64) bool { return true },
		"[]F":                 func(r []int64) bool { return !slices.ContainsFunc(r, func(mask int64) bool { return mask != 0 }) },
		"p|~p":                func(r []int64) bool { return true },
		"F":                   func(r []int64) bool { return len(r) == 0 },
		"u":                   func(r []int64) bool { return len(r) == 0 },
		"[]([]p>q)|[]([]q>p)": func(r []int64) bool { return flagHolds(r, impl.FlagConnected) },
	}
	for text, holds := range known {
		a := mustParse(t, text)
		variables := int64(len(variablesOf(treeOfText(t, text))))
		for _, f := range sampleFrames() {
			if f.Worlds*variables <= 10 {
				got, code := impl.IsValidOn(f, a)
				expectBool(t, fmt.Sprint("IsValidOn of ", text, f), got, code, holds(f.Arrows))
			}
		}
	}
}

func TestNamedRefutationsOnFrames(t *testing.T) {
	for _, c := range []struct {
		f               impl.Frame
		text            string
		refuting, world int64
		values          []int64
	}{
		{frameWith(0), "[]p>p", 1, 0, []int64{0}},
		{frameWith(1), "[]p>p", 0, 0, nil},
		{frameWith(1, 1), "[]p>p", 2, 1, []int64{1}},
		{frameWith(2, 2), "[]p>p", 1, 0, []int64{2}},
		{frameWith(1, 1), "p>q", 3, 0, []int64{1}},
		{frameWith(1, 1), "q>p", 3, 0, []int64{0, 1}},
		{frameWith(1, 1), "u", 3, 0, []int64{0}},
		{frameWith(1, 1), "~u", 3, 0, []int64{0, 0, 0, 0, 0, 1}},
		{frameWith(1, 1), "~(s&~u)", 3, 0, []int64{0, 0, 0, 1}},
		{frameWith(2, 0), "<>p>[]p", 0, 0, nil},
		{frameWith(6, 0, 0), "<>p>[]p", 1, 0, []int64{2}},
		{frameWith(6, 0, 0), "[]F", 1, 0, []int64{0}},
		{frameWith(0, 0, 0), "[]F", 0, 0, nil},
		{frameWith(0, 1, 2), "<>T", 1, 0, []int64{0}},
		{frameWith(2, 4, 0), "<>T", 4, 2, []int64{0}},
		{frameWith(2, 4, 0), "<>T&~p", 7, 2, []int64{0}},
		{frameWith(2, 4, 0), "~(q&<>(r&<>p))", 1, 0, []int64{4, 1, 2}},
		{frameWith(2, 4, 1), "~(q&<>(r&<>p))", 7, 1, []int64{1, 2, 4}},
		{frameWith(), "F", 0, 0, nil},
		{frameWith(), "p", 0, 0, nil},
		{frameWith(1, 2, 4, 8, 16, 32, 64, 128), "~(q&~p)", 255, 0, []int64{0, 1}},
		{frameWith(0, 1, 2, 4, 8, 16, 32, 64), "~(p&<>[]F)", 2, 1, []int64{2}},
		{frameWith(255, 255, 255, 255, 255, 255, 255, 255), "~([]p&~q)", 255, 0, []int64{255, 0}},
		{frameWith(255, 255, 255, 255, 255, 255, 255, 255), "~([]p&[]q)", 255, 0, []int64{255, 255}},
	} {
		a := mustParse(t, c.text)
		what := fmt.Sprint(" of ", c.text, " on ", c.f)
		valid, code := impl.IsValidOn(c.f, a)
		expectBool(t, "IsValidOn"+what, valid, code, c.refuting == 0)
		mask, code := impl.RefutingWorlds(c.f, a)
		expectNumber(t, "RefutingWorlds"+what, mask, code, c.refuting)
		list, w, code := impl.FirstRefutation(c.f, a)
		if c.refuting == 0 {
			expectNoRefutation(t, "FirstRefutation"+what, list, w, code, impl.ErrNotFound)
		} else if want := modelWith(c.f, c.values...).Values; !slices.Equal(list, want) || w != c.world || code != impl.ErrNone {
			t.Errorf("FirstRefutation%s = %v, %d, code %d, want %v, %d", what, list, w, code, want, c.world)
		}
	}
}

func TestConsequences(t *testing.T) {
	seed := uint64(53)
	kinds := map[string]int{}
	for i := range 3000 {
		f := irregularFrame(&seed, i%5, 1+i%6)
		var premises []tree
		for range i % 4 {
			premises = append(premises, irregularTree(&seed, 1+nextNumber(&seed)%7))
		}
		x := irregularTree(&seed, 1+nextNumber(&seed)%6)
		if i%3 == 0 && len(premises) > 0 {
			x = joinTrees(impl.KindBox, premises[0])
		}
		if f.Worlds*int64(len(variablesOf(append(premises, x)...))) <= 10 {
			local, global := expectConsequences(t, f, premises, x)
			kinds[fmt.Sprint(local, global)]++
		}
	}
	if kinds["true true"] == 0 || kinds["false true"] == 0 || kinds["false false"] == 0 || kinds["true false"] != 0 {
		t.Errorf("the samples are of kinds %v", kinds)
	}
	trees := slices.Concat(treesUpTo(3)...)
	for worlds := range 3 {
		for _, r := range allRelations(worlds) {
			for _, x := range trees {
				expectConsequences(t, frameWith(r...), nil, x)
				for i := range 4 {
					expectConsequences(t, frameWith(r...), []tree{trees[(i*11+len(x.nodes()))%len(trees)], trees[nextNumber(&seed)%int64(len(trees))]}, x)
				}
			}
		}
	}
}

func TestNamedConsequences(t *testing.T) {
	chain, point, loop, none := frameWith(2, 0), frameWith(0), frameWith(1), frameWith()
	eight := frameWith(255, 255, 255, 255, 255, 255, 255, 255)
	for _, c := range []struct {
		f             impl.Frame
		premises      []string
		text          string
		local, global bool
	}{
		{chain, []string{"p"}, "[]p", false, true},
		{chain, []string{"p"}, "<>p", false, false},
		{chain, []string{"p"}, "p", true, true},
		{chain, nil, "p", false, false},
		{chain, nil, "[][]F", true, true},
		{chain, []string{"F"}, "u", true, true},
		{chain, []string{"<>T"}, "u", false, true},
		{chain, []string{"[]F"}, "~<>T", true, true},
		{chain, []string{"p", "p>q"}, "q", true, true},
		{chain, []string{"p>q", "q>r"}, "p>r", true, true},
		{chain, []string{"p", "q", "r"}, "s", false, false},
		{chain, []string{"p>q"}, "[]p>[]q", false, true},
		{chain, []string{"p|q"}, "p", false, false},
		{point, []string{"p"}, "[]p", true, true},
		{point, []string{"p"}, "<>p", false, false},
		{loop, []string{"p"}, "[]p", true, true},
		{loop, []string{"p", "~p"}, "F", true, true},
		{loop, []string{"[]q"}, "q", true, true},
		{none, nil, "F", true, true},
		{none, []string{"p"}, "F", true, true},
		{none, []string{"F"}, "F", true, true},
		{eight, []string{"p"}, "[]p", false, true},
		{eight, []string{"[]p"}, "p", true, true},
		{eight, []string{"<>p", "q"}, "p&q", false, false},
		{eight, []string{"p|q", "~q"}, "[]p", false, true},
	} {
		what := fmt.Sprint(" of ", c.text, " from ", c.premises, " on ", c.f)
		premises := nodesOf(treesOfTexts(t, c.premises...))
		local, code := impl.IsLocalConsequence(c.f, premises, mustParse(t, c.text))
		expectBool(t, "IsLocalConsequence"+what, local, code, c.local)
		global, code := impl.IsGlobalConsequence(c.f, premises, mustParse(t, c.text))
		expectBool(t, "IsGlobalConsequence"+what, global, code, c.global)
	}
	// Many premises of which only the last one, or the first one, matters.
	many := slices.Repeat(treesOfTexts(t, "q|~q"), 500)
	for _, premises := range [][]tree{append(slices.Clone(many), treesOfTexts(t, "p")...), append(treesOfTexts(t, "p"), many...)} {
		if local, global := expectConsequences(t, chain, premises, treeOfText(t, "[]p")); local || !global {
			t.Errorf("many premises: %v, %v", local, global)
		}
	}
}

// conjunctionOf returns the conjunction of some variables, and truth if there are none.
func conjunctionOf(variables []int64) tree {
	if len(variables) == 0 {
		return joinTrees(impl.KindImply, atomTree(impl.KindFalse, 0), atomTree(impl.KindFalse, 0))
	}
	x := atomTree(impl.KindVariable, variables[0])
	for _, v := range variables[1:] {
		x = joinTrees(impl.KindAnd, x, atomTree(impl.KindVariable, v))
	}
	return x
}

// expectLimit expects all functions that search models to return an error, or none of them.
func expectLimit(t *testing.T, f impl.Frame, first, second tree, want int64) {
	t.Helper()
	// The formula is valid; all models have to be searched.
	both := joinTrees(impl.KindImply, first, joinTrees(impl.KindOr, second, first)).nodes()
	isFine := want == impl.ErrNone
	valid, code1 := impl.IsValidOn(f, both)
	list, w, code2 := impl.FirstRefutation(f, both)
	mask, code3 := impl.RefutingWorlds(f, both)
	premises := [][]impl.Node{second.nodes(), first.nodes()}
	local, code4 := impl.IsLocalConsequence(f, premises, first.nodes())
	global, code5 := impl.IsGlobalConsequence(f, premises[:1], joinTrees(impl.KindImply, first, first).nodes())
	if valid != isFine || mask != 0 || local != isFine || global != isFine || code1 != want || code3 != want || code4 != want || code5 != want {
		t.Errorf("on %v with %s: %v, %d, %v, %v, codes %d, %d, %d, %d", f, polish(both), valid, mask, local, global, code1, code3, code4, code5)
	}
	if isFine {
		want = impl.ErrNotFound
	}
	expectNoRefutation(t, fmt.Sprintf("FirstRefutation of %s on %v", polish(both), f), list, w, code2, want)
}

// The number of worlds times that of the variables that occur in any of the formulas, each counted
// once, may be 16.
func TestSearchLimits(t *testing.T) {
	for worlds := range impl.MaxWorlds + 1 {
		for mask := range int64(1) << impl.MaxVariables {
			var variables []int64
			for v := range int64(impl.MaxVariables) {
				if mask>>v%2 == 1 {
					variables = append(variables, v)
				}
			}
			want := int64(impl.ErrNone)
			product := worlds * len(variables)
			if product > mostSearched {
				want = impl.ErrLimit
			} else if product > 12 && (mask*7+int64(worlds))%15 != 0 {
				continue
			}
			f := frameWith(make([]int64, worlds)...)
			half := (len(variables) + 1) / 2
			expectLimit(t, f, conjunctionOf(variables), conjunctionOf(variables), want)
			expectLimit(t, f, conjunctionOf(variables[:half]), conjunctionOf(variables[half:]), want)
		}
	}
	for _, variables := range [][]int64{{0, 1}, {4, 5}, {2, 5}} {
		expectLimit(t, namedFrames()[1], conjunctionOf(variables), conjunctionOf(variables[1:]), impl.ErrNone)
	}
	expectLimit(t, frameWith(15, 15, 15, 15), conjunctionOf([]int64{1, 2, 5}), conjunctionOf([]int64{3}), impl.ErrNone)
	expectLimit(t, frameWith(6, 0, 0, 0, 0, 0), conjunctionOf([]int64{0, 1}), conjunctionOf([]int64{2}), impl.ErrLimit)
	// A formula that is refuted in the first model is beyond the limits all the same.
	for _, text := range []string{"p&q&r", "F&(p|q|r)", "~T&p&q&r&s&t&u"} {
		list, w, code := impl.FirstRefutation(namedFrames()[1], mustParse(t, text))
		expectNoRefutation(t, "FirstRefutation of "+text, list, w, code, impl.ErrLimit)
	}
}

// compressed returns the mask of the members of a mask in the numbering of the members of part.
func compressed(mask, part int64) int64 {
	var result int64
	at := 0
	for w := range impl.MaxWorlds {
		if part>>w&1 == 1 {
			result += mask >> w & 1 << at
			at++
		}
	}
	return result
}

func TestPartOfModel(t *testing.T) {
	for _, m := range sampleModels() {
		for mask := range int64(1) << m.Frame.Worlds {
			if m.Frame.Worlds > 5 && mask%3 != 0 {
				continue
			}
			frame, _ := impl.PartOfFrame(m.Frame, mask)
			want := modelWith(frame)
			for v, value := range m.Values {
				want.Values[v] = compressed(value, mask)
			}
			got, code := impl.PartOfModel(m, mask)
			expectModel(t, fmt.Sprint("PartOfModel of ", m, mask), got, code, want)
		}
		for _, mask := range []int64{1 << m.Frame.Worlds, 1<<m.Frame.Worlds + 1, 256, -1, -256, 1 << 32, 1 << 62, math.MinInt64, math.MaxInt64} {
			got, code := impl.PartOfModel(m, mask)
			expectNoModel(t, fmt.Sprint("PartOfModel of ", m, mask), got, code, impl.ErrRange)
		}
	}
	m := modelWith(frameWith(6, 5, 0), 4, 2, 1, 7, 5, 3)
	for mask, want := range map[int64]impl.Model{
		0: modelWith(frameWith()), 1: modelWith(frameWith(0), 0, 0, 1, 1, 1, 1), 4: modelWith(frameWith(0), 1, 0, 0, 1, 1, 0),
		5: modelWith(frameWith(2, 0), 2, 0, 1, 3, 3, 1), 6: modelWith(frameWith(2, 0), 2, 1, 0, 3, 2, 1), 7: m,
	} {
		got, code := impl.PartOfModel(m, mask)
		expectModel(t, fmt.Sprint("PartOfModel ", mask), got, code, want)
	}
}

// P6, first part: at the worlds of a closed part the same formulas are true as in the whole model.
func TestTruthInClosedParts(t *testing.T) {
	seed := uint64(59)
	proper := 0
	for _, m := range sampleModels() {
		for mask := range int64(1) << m.Frame.Worlds {
			if !isClosed(m.Frame.Arrows, mask) {
				continue
			}
			if mask != 0 && mask != 1<<m.Frame.Worlds-1 {
				proper++
			}
			part, code := impl.PartOfModel(m, mask)
			if code != impl.ErrNone || !impl.IsModel(part) {
				t.Fatalf("PartOfModel(%v, %d) = %v, code %d", m, mask, part, code)
			}
			for range 3 {
				a := irregularTree(&seed, 1+nextNumber(&seed)%16).nodes()
				whole, code1 := impl.TruthSet(m, a)
				inside, code2 := impl.TruthSet(part, a)
				if inside != compressed(whole, mask) || code1 != impl.ErrNone || code2 != impl.ErrNone {
					t.Errorf("TruthSet of %s in %v: %d, in its part %d: %d", polish(a), m, whole, mask, inside)
				}
			}
		}
	}
	if proper < 1000 {
		t.Errorf("%d closed parts", proper)
	}
	// In a part that is not closed this fails.
	part, _ := impl.PartOfModel(modelWith(frameWith(2, 0), 2), 1)
	got, code := impl.TruthSet(part, mustParse(t, "<>p"))
	expectNumber(t, "TruthSet in a part that is not closed", got, code, 0)
}

func TestSumModels(t *testing.T) {
	models := sampleModels()
	seed := uint64(67)
	limits := 0
	for range 4000 {
		m, n := models[nextNumber(&seed)%int64(len(models))], models[nextNumber(&seed)%int64(len(models))]
		got, code := impl.SumModels(m, n)
		what := fmt.Sprint("SumModels of ", m, n)
		if m.Frame.Worlds+n.Frame.Worlds > impl.MaxWorlds {
			limits++
			expectNoModel(t, what, got, code, impl.ErrLimit)
			continue
		}
		want := modelWith(sumOf(m.Frame, n.Frame))
		for v := range want.Values {
			for w := range want.Frame.Worlds {
				if w < m.Frame.Worlds && m.Values[v]>>w&1 == 1 || w >= m.Frame.Worlds && n.Values[v]>>(w-m.Frame.Worlds)&1 == 1 {
					want.Values[v] += 1 << w
				}
			}
		}
		expectModel(t, what, got, code, want)
		// Both are closed parts of the sum.
		a := irregularTree(&seed, 1+nextNumber(&seed)%16).nodes()
		whole, _ := impl.TruthSet(got, a)
		first, _ := impl.TruthSet(m, a)
		second, _ := impl.TruthSet(n, a)
		if whole != first+second<<m.Frame.Worlds {
			t.Errorf("TruthSet of %s in the sum of %v and %v = %d", polish(a), m, n, whole)
		}
	}
	if limits == 0 || limits == 4000 {
		t.Errorf("%d sums have too many worlds", limits)
	}
}

func TestNamedSumModels(t *testing.T) {
	none, one, two := modelWith(frameWith()), modelWith(frameWith(1), 1, 0, 1), modelWith(frameWith(2, 0), 2, 1, 3, 0, 0, 2)
	eight := modelWith(namedFrames()[1], 255, 0, 129)
	for _, c := range []struct{ m, n, want impl.Model }{
		{none, none, none}, {none, eight, eight}, {eight, none, eight},
		{two, two, modelWith(frameWith(2, 0, 8, 0), 10, 5, 15, 0, 0, 10)},
		{one, two, modelWith(frameWith(1, 4, 0), 5, 2, 7, 0, 0, 4)},
		{two, one, modelWith(frameWith(2, 0, 4), 6, 1, 7, 0, 0, 2)},
	} {
		got, code := impl.SumModels(c.m, c.n)
		expectModel(t, fmt.Sprint("SumModels of ", c.m, c.n), got, code, c.want)
	}
	four := modelWith(frameWith(2, 4, 8, 0), 15, 1)
	got, code := impl.SumModels(four, four)
	expectModel(t, "SumModels with eight worlds", got, code, modelWith(frameWith(2, 4, 8, 0, 32, 64, 128, 0), 255, 17))
	for _, pair := range [][2]impl.Model{{eight, one}, {one, eight}, {eight, eight}, {four, modelWith(frameWith(0, 0, 0, 0, 0))}} {
		got, code := impl.SumModels(pair[0], pair[1])
		expectNoModel(t, fmt.Sprint("SumModels of ", pair), got, code, impl.ErrLimit)
	}
}

// definable returns the masks that are made from some masks by unions and by taking the other
// worlds.
func definable(worlds int64, masks ...int64) []int64 {
	found := map[int64]bool{0: true}
	sets := []int64{0}
	add := func(mask int64) {
		if !found[mask] {
			found[mask] = true
			sets = append(sets, mask)
		}
	}
	for _, mask := range masks {
		add(mask)
	}
	for i := 0; i < len(sets); i++ {
		add(1<<worlds - 1 - sets[i])
		for j := range i {
			add(sets[i] | sets[j])
		}
	}
	slices.Sort(sets)
	return sets
}

func TestDefinableSets(t *testing.T) {
	seed := uint64(71)
	sizes := map[int]bool{}
	for i, m := range sampleModels() {
		var trees []tree
		var masks []int64
		for range i % 5 {
			x := irregularTree(&seed, 1+nextNumber(&seed)%9)
			trees, masks = append(trees, x), append(masks, x.worldsIn(m))
		}
		want := definable(m.Frame.Worlds, masks...)
		sizes[len(want)] = true
		got, code := impl.DefinableSets(m, nodesOf(trees))
		expectList(t, fmt.Sprint("DefinableSets of ", m), got, code, want...)
	}
	for _, size := range []int{1, 2, 4, 8, 16, 32} {
		if !sizes[size] {
			t.Errorf("the samples have %v definable sets", sizes)
		}
	}
}

func TestNamedDefinableSets(t *testing.T) {
	eight := modelWith(frameWith(0, 1, 2, 4, 8, 16, 32, 64), 170, 204, 240)
	var all []int64
	for mask := range int64(256) {
		all = append(all, mask)
	}
	two, three, none := modelWith(frameWith(2, 0), 2), modelWith(frameWith(2, 4, 0), 1, 6), modelWith(frameWith())
	for _, c := range []struct {
		m     impl.Model
		texts []string
		want  []int64
	}{
		{two, []string{"p"}, []int64{0, 1, 2, 3}}, {two, nil, []int64{0, 3}}, {two, []string{"T"}, []int64{0, 3}}, {two, []string{"F", "q"}, []int64{0, 3}}, {two, []string{"[]F"}, []int64{0, 1, 2, 3}},
		{three, []string{"p"}, []int64{0, 1, 6, 7}}, {three, []string{"p", "q"}, []int64{0, 1, 6, 7}}, {three, []string{"[]F", "p"}, []int64{0, 1, 2, 3, 4, 5, 6, 7}}, {three, []string{"[]F"}, []int64{0, 3, 4, 7}}, {three, []string{"p|[]F"}, []int64{0, 2, 5, 7}},
		{none, nil, []int64{0}}, {none, []string{"p", "T"}, []int64{0}},
		{eight, nil, []int64{0, 255}}, {eight, []string{"p"}, []int64{0, 85, 170, 255}}, {eight, []string{"p", "q", "r"}, all}, {eight, []string{"r", "~r", "r", "r&r"}, []int64{0, 15, 240, 255}},
		{eight, []string{"[]F", "[][]F", "[][][]F", "[][][][]F", "[][][][][]F", "[][][][][][]F", "[][][][][][][]F"}, all},
	} {
		got, code := impl.DefinableSets(c.m, nodesOf(treesOfTexts(t, c.texts...)))
		expectList(t, fmt.Sprint("DefinableSets of ", c.texts, c.m), got, code, c.want...)
	}
	// More formulas than sets, with all variables: there is no limit.
	var texts []string
	for range 100 {
		texts = append(texts, "p&q&r&s&t&u", "p|q", "<>r")
	}
	got, code := impl.DefinableSets(eight, nodesOf(treesOfTexts(t, texts...)))
	expectList(t, "DefinableSets of many", got, code, definable(8, 0, 238, 224)...)
}

// P6, second part: what is valid on a frame stays valid if formulas are put in for its variables.
func TestValidityIsKeptBySubstitution(t *testing.T) {
	seed := uint64(73)
	kept := 0
	var frames []impl.Frame
	for worlds := range int64(4) {
		all, _ := impl.AllFrames(worlds)
		frames = append(frames, all...)
	}
	for _, f := range append(frames, frameWith(14, 4, 8, 2), frameWith(2, 4, 8, 0), frameWith(15, 14, 12, 8), frameWith(3, 3, 12, 12)) {
		for _, x := range lateRefutations(t) {
			a := x.nodes()
			if valid, code := impl.IsValidOn(f, a); !valid || code != impl.ErrNone {
				continue
			}
			for range 6 {
				image, code := impl.SubstituteFormula(a, irregularMap(&seed, 7))
				if y, _ := treeOf(append(slices.Clone(image), impl.Node{})); code != impl.ErrNone || f.Worlds*int64(len(variablesOf(y))) > mostSearched-4 {
					continue
				}
				valid, code := impl.IsValidOn(f, image)
				expectBool(t, fmt.Sprintf("IsValidOn of %s, made from %s, on %v", polish(image), polish(a), f), valid, code, true)
				kept++
			}
		}
	}
	if kept < 1000 {
		t.Errorf("%d valid formulas were substituted in", kept)
	}
}

// modelErrors returns the codes of all functions of a model and a formula, and whether some
// result beside them is not its zero value.
func modelErrors(m impl.Model, w int64, a []impl.Node) ([]int64, bool) {
	mask, code1 := impl.TruthSet(m, a)
	at, code2 := impl.IsTrueAt(m, w, a)
	in, code3 := impl.IsTrueIn(m, a)
	p := unpolish("p")
	sets1, code4 := impl.DefinableSets(m, [][]impl.Node{a})
	sets2, code5 := impl.DefinableSets(m, [][]impl.Node{p, a, p})
	return []int64{code1, code2, code3, code4, code5}, mask != 0 || at || in || len(sets1)+len(sets2) != 0
}

// frameErrors returns the same for all functions of a frame and a formula.
func frameErrors(f impl.Frame, a []impl.Node) ([]int64, bool) {
	six := mustVariables()
	valid, code1 := impl.IsValidOn(f, a)
	list, w, code2 := impl.FirstRefutation(f, a)
	mask, code3 := impl.RefutingWorlds(f, a)
	codes, given := []int64{code1, code2, code3}, valid || len(list) != 0 || w != 0 || mask != 0
	for _, premises := range [][][]impl.Node{{}, {a}, {six, a}, {a, six}} {
		local, code1 := impl.IsLocalConsequence(f, premises, a)
		global, code2 := impl.IsGlobalConsequence(f, premises, a)
		codes, given = append(codes, code1, code2), given || local || global
		if len(premises) == 2 {
			local, code1 := impl.IsLocalConsequence(f, premises, six)
			global, code2 := impl.IsGlobalConsequence(f, premises, six)
			codes, given = append(codes, code1, code2), given || local || global
		}
	}
	return codes, given
}

// mustVariables returns a formula with all six variables.
func mustVariables() []impl.Node { return unpolish("&&&&&pqrstu") }

func expectErrors(t *testing.T, what string, codes []int64, given bool, want int64) {
	t.Helper()
	if given || slices.ContainsFunc(codes, func(code int64) bool { return code != want }) {
		t.Errorf("%s: codes %v, want %d; results given: %v", what, codes, want, given)
	}
}

func TestErrorsOfModels(t *testing.T) {
	p := unpolish("p")
	worlds := []int64{0, -1, 8, math.MinInt64, math.MaxInt64}
	for _, m := range invalidModels() {
		what := fmt.Sprint("the invalid model ", m)
		for _, w := range worlds {
			for _, a := range [][]impl.Node{p, unpolish("F"), nil, mustVariables(), unpolish("[")} {
				codes, given := modelErrors(m, w, a)
				expectErrors(t, what, codes, given, impl.ErrInvalid)
			}
			part, code := impl.PartOfModel(m, w)
			expectNoModel(t, "PartOfModel of "+what, part, code, impl.ErrInvalid)
		}
		sets, code := impl.DefinableSets(m, nil)
		expectNoList(t, "DefinableSets of "+what, sets, code, impl.ErrInvalid)
		eight := modelWith(namedFrames()[1])
		for _, pair := range [][2]impl.Model{{m, eight}, {eight, m}, {m, m}, {m, modelWith(frameWith())}, {modelWith(frameWith()), m}} {
			sum, code := impl.SumModels(pair[0], pair[1])
			expectNoModel(t, "SumModels of "+what, sum, code, impl.ErrInvalid)
		}
	}
	for _, a := range invalidLists() {
		for _, m := range []impl.Model{modelWith(frameWith()), modelWith(frameWith(2, 0), 2), modelWith(namedFrames()[1])} {
			for _, w := range worlds {
				codes, given := modelErrors(m, w, a)
				expectErrors(t, fmt.Sprint("the invalid formula ", a), codes, given, impl.ErrInvalid)
			}
		}
	}
}

func TestErrorsOfSearches(t *testing.T) {
	for _, f := range invalidFrames() {
		for _, a := range [][]impl.Node{unpolish("p"), unpolish("F"), mustVariables(), nil, unpolish("[")} {
			codes, given := frameErrors(f, a)
			expectErrors(t, fmt.Sprint("the invalid frame ", f), codes, given, impl.ErrInvalid)
		}
	}
	for _, a := range invalidLists() {
		for _, f := range []impl.Frame{frameWith(), frameWith(2, 0), namedFrames()[1]} {
			codes, given := frameErrors(f, a)
			expectErrors(t, fmt.Sprint("the invalid formula ", a), codes, given, impl.ErrInvalid)
		}
	}
	codes, given := frameErrors(namedFrames()[1], mustVariables())
	expectErrors(t, "too many variables", codes, given, impl.ErrLimit)
}

// No function changes an argument or the capacity behind it, and no result shares memory with an
// argument, within itself or with a later result.
func TestModelsAreNeitherChangedNorShared(t *testing.T) {
	store := slices.Concat([]int64{2, 4, 0}, slices.Repeat([]int64{-9}, 12), []int64{5, 2, 0, 7, 1, 4}, slices.Repeat([]int64{-9}, 12))
	before := slices.Clone(store)
	m := impl.Model{Frame: impl.Frame{Worlds: 3, Arrows: store[:3]}, Values: store[15:21]}
	nodes := append(mustParse(t, "~(p&<>q)"), slices.Repeat([]impl.Node{{Kind: -9, Symbol: -9}}, 40)...)
	nodesBefore := slices.Clone(nodes)
	a := nodes[:6]
	lists := [][]impl.Node{a, unpolish("q"), unpolish("r"), unpolish("s")}
	premises := lists[:2]
	none := modelWith(frameWith())
	for range 2 {
		part1, _ := impl.PartOfModel(m, 7)
		part2, _ := impl.PartOfModel(m, 5)
		sum1, _ := impl.SumModels(m, none)
		sum2, _ := impl.SumModels(none, m)
		sum3, _ := impl.SumModels(m, m)
		var memory [][]int64
		for _, result := range []impl.Model{part1, part2, sum1, sum2, sum3} {
			memory = append(memory, result.Frame.Arrows, result.Values)
		}
		sets, _ := impl.DefinableSets(m, lists)
		values, _, code := impl.FirstRefutation(m.Frame, a)
		if !slices.Equal(values, []int64{1, 2, 0, 0, 0, 0}) || code != impl.ErrNone {
			t.Errorf("FirstRefutation = %v, code %d", values, code)
		}
		expectOwnNumbers(t, "a result", append(memory, sets, values))
		impl.IsModel(m)
		impl.TruthSet(m, a)
		impl.IsTrueAt(m, 1, a)
		impl.IsTrueIn(m, a)
		impl.IsValidOn(m.Frame, a)
		impl.RefutingWorlds(m.Frame, a)
		impl.IsLocalConsequence(m.Frame, premises, unpolish("u"))
		impl.IsGlobalConsequence(m.Frame, premises, unpolish("u"))
		if !slices.Equal(store, before) || !slices.Equal(nodes, nodesBefore) || polish(lists[2]) != "r" || polish(lists[3]) != "s" {
			t.Fatalf("an argument was changed: %v, %v, %v", store, nodes, lists)
		}
	}
}
