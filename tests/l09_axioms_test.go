package tests

import (
	"fmt"
	"math"
	"slices"
	"testing"

	"loop.example/g01089/impl"
)

// An axiomRow has what chapter 9 says of an axiom, and how a frame is changed into one on which its
// condition holds.
type axiomRow struct {
	name, text string
	holds      func(r []int64) bool
	built      func(seed *uint64, r []int64) []int64
}

func axiomRows() []axiomRow {
	return []axiomRow{
		{"4", "[]p>[][]p", flagsHold(impl.FlagTransitive), builtWith(impl.FlagTransitive)},
		{"5", "<>p>[]<>p", flagsHold(impl.FlagEuclidean), builtWith(impl.FlagEuclidean)},
		{"B", "p>[]<>p", flagsHold(impl.FlagSymmetric), builtWith(impl.FlagSymmetric)},
		{"C", "[][]p>[]p", flagsHold(impl.FlagDense), repaired(impl.FlagDense)},
		{"D", "[]p><>p", flagsHold(impl.FlagSerial), withArrows},
		{"F", "<>p>[]p", flagsHold(impl.FlagFunctional), withFirstArrows},
		{"G", "<>[]p>[]<>p", flagsHold(impl.FlagDirected), repaired(impl.FlagDirected)},
		{"H", "[]([]p>q)|[]([]q>p)", flagsHold(impl.FlagConnected), repaired(impl.FlagConnected)},
		{"L", "[]([]p>p)>[]p", flagsHold(impl.FlagTransitive, impl.FlagAcyclic), strictlyOrdered},
		{"T", "[]p>p", flagsHold(impl.FlagReflexive), builtWith(impl.FlagReflexive)},
		{"V", "[]F", arrowsAre(func(x, y int) bool { return false }), arrowsWhere(func(x, y int) bool { return false })},
		{"X", "p>[]p", arrowsAre(func(x, y int) bool { return x == y }), arrowsWhere(func(x, y int) bool { return x == y })},
		{"Z", "[]([](p>[]p)>p)>p", flagsHold(impl.FlagReflexive, impl.FlagTransitive, impl.FlagAntisymmetric), ordered},
	}
}

// A logicRow has the name of a logic and the names of its axioms.
type logicRow struct {
	name   string
	axioms []string
}

func logicRows() []logicRow {
	return []logicRow{
		{"D", []string{"D"}}, {"D4", []string{"4", "D"}}, {"GL", []string{"L"}}, {"Grz", []string{"Z"}}, {"K", nil}, {"K4", []string{"4"}},
		{"K45", []string{"4", "5"}}, {"KB", []string{"B"}}, {"KD45", []string{"4", "5", "D"}}, {"S4", []string{"4", "T"}}, {"S42", []string{"4", "G", "T"}},
		{"S43", []string{"4", "H", "T"}}, {"S5", []string{"5", "T"}}, {"T", []string{"T"}}, {"Triv", []string{"T", "X"}}, {"Ver", []string{"V"}},
	}
}

func flagsHold(flags ...int64) func(r []int64) bool {
	return func(r []int64) bool {
		return !slices.ContainsFunc(flags, func(flag int64) bool { return !flagHolds(r, flag) })
	}
}

// arrowsAre returns whether there are only arrows of some kind.
func arrowsAre(allowed func(x, y int) bool) func(r []int64) bool {
	return func(r []int64) bool {
		return slices.Equal(arrowsWhere(allowed)(nil, r), r)
	}
}

// arrowsWhere returns the arrows of some kind.
func arrowsWhere(allowed func(x, y int) bool) func(seed *uint64, r []int64) []int64 {
	return func(_ *uint64, r []int64) []int64 {
		return relationWhere(len(r), func(x, y int) bool { return allowed(x, y) && relates(r, x, y) })
	}
}

func builtWith(flag int64) func(seed *uint64, r []int64) []int64 {
	return func(_ *uint64, r []int64) []int64 { return leastWith(r, flag) }
}

// repaired puts in arrows until a frame has a flag, where a flag that closures do not know needs some.
func repaired(flag int64) func(seed *uint64, r []int64) []int64 {
	return func(_ *uint64, r []int64) []int64 {
		r = slices.Clone(r)
		for !flagHolds(r, flag) {
			for at := range len(r) * len(r) * len(r) {
				x, y, z := at/len(r)/len(r), at/len(r)%len(r), at%len(r)
				if flagHoldsAt(r, flag, x, y, z) {
					continue
				}
				if flag != impl.FlagDense {
					r[y] |= 1 << z
				}
				if flag != impl.FlagConnected {
					r[z] |= 1 << z
				}
			}
		}
		return r
	}
}

// withArrows gives an arrow to each world that has none.
func withArrows(seed *uint64, r []int64) []int64 {
	r = slices.Clone(r)
	for x, seen := range r {
		if seen == 0 {
			r[x] = 1 << (nextNumber(seed) % int64(len(r)))
		}
	}
	return r
}

// withFirstArrows leaves each world only its first arrow.
func withFirstArrows(_ *uint64, r []int64) []int64 {
	r = slices.Clone(r)
	for x, seen := range r {
		r[x] = seen & -seen
	}
	return r
}

func strictlyOrdered(_ *uint64, r []int64) []int64 {
	return leastWith(arrowsWhere(func(x, y int) bool { return x < y })(nil, r), impl.FlagTransitive)
}

func ordered(seed *uint64, r []int64) []int64 {
	return leastWith(strictlyOrdered(seed, r), impl.FlagReflexive)
}

// axiomsOf returns the names of the axioms whose conditions hold on a frame.
func axiomsOf(f impl.Frame) []string {
	var names []string
	for _, row := range axiomRows() {
		if row.holds(f.Arrows) {
			names = append(names, row.name)
		}
	}
	return names
}

// logicsWith returns the names of the logics that have no other axioms than some.
func logicsWith(axioms []string) []string {
	var names []string
	for _, row := range logicRows() {
		if !slices.ContainsFunc(row.axioms, func(name string) bool { return !slices.Contains(axioms, name) }) {
			names = append(names, row.name)
		}
	}
	return names
}

// logicsOf returns the names of the logics of a frame.
func logicsOf(f impl.Frame) []string { return logicsWith(axiomsOf(f)) }

// A logicOrder tells of each two logics whether the first one is below the second one.
type logicOrder map[[2]string]bool

// smallOrder returns the order of the logics that all frames with at most 3 worlds tell.
func smallOrder() logicOrder {
	order := logicOrder{}
	for _, first := range logicRows() {
		for _, second := range logicRows() {
			order[[2]string{first.name, second.name}] = true
		}
	}
	for n := range 4 {
		for _, r := range allRelations(n) {
			logics := logicsOf(frameWith(r...))
			for names := range order {
				if slices.Contains(logics, names[1]) && !slices.Contains(logics, names[0]) {
					order[names] = false
				}
			}
		}
	}
	return order
}

// strongest returns those of some logics that are below no other one but such that are below them.
func (o logicOrder) strongest(logics []string) []string {
	return slices.DeleteFunc(slices.Clone(logics), func(first string) bool {
		return slices.ContainsFunc(logics, func(second string) bool {
			return o[[2]string{first, second}] && !o[[2]string{second, first}]
		})
	})
}

func mustFrame(t *testing.T, text string) impl.Frame {
	t.Helper()
	f, code := impl.ParseFrame(text)
	if code != impl.ErrNone {
		t.Fatalf("ParseFrame(%q): code %d", text, code)
	}
	return f
}

func expectName(t *testing.T, what string, got string, code int64, want string, wantCode int64) {
	t.Helper()
	if got != want || code != wantCode {
		t.Errorf("%s = %q, code %d, want %q, code %d", what, got, code, want, wantCode)
	}
}

func expectNames(t *testing.T, what string, got []string, code int64, want ...string) {
	t.Helper()
	if !slices.Equal(got, want) || code != impl.ErrNone {
		t.Errorf("%s = %q, code %d, want %q", what, got, code, want)
	}
}

func expectNoNames(t *testing.T, what string, got []string, code, want int64) {
	t.Helper()
	if len(got) != 0 || code != want {
		t.Errorf("%s = %q, code %d, want code %d", what, got, code, want)
	}
}

func expectFrames(t *testing.T, what string, got []impl.Frame, code int64, want []impl.Frame) {
	t.Helper()
	if !areSameLists(got, want) || code != impl.ErrNone {
		t.Errorf("%s = %v, code %d, want %v", what, got, code, want)
	}
}

func TestAxiomConstants(t *testing.T) {
	if impl.MaxAxioms != 13 || impl.MaxLogics != 16 {
		t.Errorf("MaxAxioms = %d, MaxLogics = %d", impl.MaxAxioms, impl.MaxLogics)
	}
}

// expectTable expects the names of a table in order, and no names on both sides of them.
func expectTable(t *testing.T, what string, nameAt func(i int64) (string, int64), names []string) {
	t.Helper()
	if !slices.IsSorted(names) || len(slices.Compact(slices.Clone(names))) != len(names) {
		t.Errorf("%s: %q is not in ascending order", what, names)
	}
	for i, want := range names {
		got, code := nameAt(int64(i))
		expectName(t, fmt.Sprint(what, " of ", i), got, code, want, impl.ErrNone)
	}
	count := int64(len(names))
	for _, i := range []int64{-1, count, count + 1, -count, 1 << 32, 1<<32 + 1, -1 << 32, math.MinInt64, math.MaxInt64} {
		got, code := nameAt(i)
		expectName(t, fmt.Sprint(what, " of ", i), got, code, "", impl.ErrRange)
	}
}

func TestNamesOfAxiomsAndLogics(t *testing.T) {
	axioms := []string{"4", "5", "B", "C", "D", "F", "G", "H", "L", "T", "V", "X", "Z"}
	logics := []string{"D", "D4", "GL", "Grz", "K", "K4", "K45", "KB", "KD45", "S4", "S42", "S43", "S5", "T", "Triv", "Ver"}
	if len(axioms) != impl.MaxAxioms || len(logics) != impl.MaxLogics {
		t.Errorf("there are %d axioms and %d logics", len(axioms), len(logics))
	}
	expectTable(t, "AxiomName", impl.AxiomName, axioms)
	expectTable(t, "LogicName", impl.LogicName, logics)
}

func TestFormulasOfAxioms(t *testing.T) {
	for _, row := range axiomRows() {
		a, code := impl.AxiomFormula(row.name)
		expectNodes(t, "AxiomFormula of "+row.name, a, code, mustParse(t, row.text))
		expectText(t, "AxiomFormula of "+row.name, a, code, row.text)
	}
}

func TestAxiomsOfLogics(t *testing.T) {
	for _, row := range logicRows() {
		axioms, code := impl.LogicAxioms(row.name)
		expectNames(t, "LogicAxioms of "+row.name, axioms, code, row.axioms...)
		if !slices.IsSorted(axioms) {
			t.Errorf("LogicAxioms of %s = %q", row.name, axioms)
		}
	}
}

// expectAxiom expects the condition of an axiom of AxiomHolds, and that its formula is valid exactly if
// it holds, and returns whether it does.
func (row axiomRow) expectAxiom(t *testing.T, f impl.Frame) bool {
	t.Helper()
	want := row.holds(f.Arrows)
	got, code := impl.AxiomHolds(f, row.name)
	expectBool(t, fmt.Sprint("AxiomHolds of ", f, row.name), got, code, want)
	a, code := impl.AxiomFormula(row.name)
	expectNodes(t, "AxiomFormula of "+row.name, a, code, mustParse(t, row.text))
	got, code = impl.IsValidOn(f, a)
	expectBool(t, fmt.Sprint("IsValidOn of ", f, row.text), got, code, want)
	return want
}

// P9, on all frames with at most 3 worlds, named ones with all worlds and irregular ones.
func TestAxiomsAreValidExactlyIfTheirConditionsHold(t *testing.T) {
	for _, row := range axiomRows() {
		for _, f := range sampleFrames() {
			row.expectAxiom(t, f)
		}
	}
}

// P9, on frames of all sizes on which the condition of an axiom holds, and on those that have one arrow
// more or less.
func TestAxiomsOnFramesThatDifferByOneArrow(t *testing.T) {
	seed := uint64(131)
	for _, row := range axiomRows() {
		for worlds := range impl.MaxWorlds + 1 {
			failing := 0
			for seen := range 5 {
				start := irregularFrame(&seed, worlds, seen)
				f := reordered(frameWith(row.built(&seed, start.Arrows)...), irregularOrder(&seed, worlds))
				if !row.expectAxiom(t, f) {
					t.Errorf("the condition of %s should hold on %v", row.name, f)
				}
				for at := range worlds * worlds {
					if worlds > 5 && nextNumber(&seed)%3 > 0 {
						continue
					}
					changed := frameWith(slices.Clone(f.Arrows)...)
					changed.Arrows[at/worlds] ^= 1 << (at % worlds)
					if !row.expectAxiom(t, changed) {
						failing++
					}
				}
			}
			if worlds > 1 && failing == 0 {
				t.Errorf("one arrow makes the condition of %s fail on no frame with %d worlds", row.name, worlds)
			}
		}
	}
}

// For each axiom, frames on which its condition holds, each followed by frames on which it fails that
// have one arrow more or less.
func TestConditionsOnNamedFrames(t *testing.T) {
	for name, lists := range map[string][][]string{
		"4": {{"2: 0>1", "2: 0>1 1>0"}, {"3: 0>1 0>2 1>2", "3: 0>1 1>2"}, {"3: 0>0 0>1 1>0 1>1", "3: 0>0 0>1 1>0", "3: 0>0 0>1 1>0 1>1 1>2"}, {"2: 0>0 0>1 1>1"}},
		"5": {{"2: 0>1 1>1", "2: 0>1"}, {"3: 0>1 0>2 1>1 1>2 2>1 2>2", "3: 0>1 0>2 1>1 1>2 2>2", "3: 0>0 0>1 0>2 1>1 1>2 2>1 2>2", "3: 0>1 0>2 1>2 2>1 2>2"}, {"1:"}, {"1: 0>0"}},
		"B": {{"2: 0>1 1>0", "2: 0>1"}, {"2: 0>0 0>1 1>0", "2: 0>0 1>0"}, {"1:"}, {"1: 0>0"}},
		"C": {{"2: 0>0 0>1", "2: 0>1"}, {"2: 0>1 1>1", "2: 0>1"}, {"3: 0>0 0>1 1>2 2>2", "3: 0>0 0>1 1>2", "3: 0>1 1>2 2>2"}, {"1:"}},
		"D": {{"2: 0>1 1>0", "2: 0>1"}, {"1: 0>0", "1:"}, {"2: 0>1 1>1", "2: 1>1", "2: 0>1"}},
		"F": {{"2: 0>1 1>0", "2: 0>1 1>0 1>1"}, {"2: 0>1", "2: 0>0 0>1"}, {"1:"}, {"1: 0>0"}},
		"G": {{"4: 0>1 0>2 1>3 2>3 3>3", "4: 0>1 0>2 1>3 3>3", "4: 0>1 0>2 1>3 2>3"}, {"2: 0>1 1>0", "2: 0>1"}, {"2: 0>1 1>1", "2: 0>1"}, {"1:"}},
		"H": {{"2: 0>1 1>1", "2: 0>1"}, {"3: 0>1 0>2 1>1 1>2 2>2", "3: 0>1 0>2 1>1 2>2", "3: 0>1 0>2 1>1 1>2"}, {"3: 0>1 0>2 1>1 2>1 2>2", "3: 0>1 0>2 1>1 2>2"}, {"1:"}},
		"L": {{"2: 0>1", "2: 0>1 1>1", "2: 0>1 1>0", "2: 0>0 0>1"}, {"3: 0>1 0>2 1>2", "3: 0>1 1>2", "3: 0>1 0>2 1>2 2>0"}, {"1:", "1: 0>0"}},
		"T": {{"2: 0>0 1>1", "2: 0>0", "2: 1>1"}, {"2: 0>0 0>1 1>1", "2: 0>0 0>1"}, {"1: 0>0", "1:"}},
		"V": {{"2:", "2: 0>1", "2: 1>1"}, {"1:", "1: 0>0"}, {"8:", "8: 7>0"}},
		"X": {{"2: 0>0", "2: 0>0 0>1", "2: 0>0 1>0"}, {"2: 0>0 1>1", "2: 0>0 1>0 1>1"}, {"2:", "2: 0>1"}, {"1:"}, {"1: 0>0"}},
		"Z": {{"2: 0>0 0>1 1>1", "2: 0>0 0>1", "2: 0>0 0>1 1>0 1>1"}, {"3: 0>0 0>1 0>2 1>1 1>2 2>2", "3: 0>0 0>1 1>1 1>2 2>2"}, {"1: 0>0", "1:"}},
	} {
		i := slices.IndexFunc(axiomRows(), func(row axiomRow) bool { return row.name == name })
		for _, texts := range lists {
			for at, text := range texts {
				if f := mustFrame(t, text); axiomRows()[i].expectAxiom(t, f) != (at == 0) {
					t.Errorf("the condition of %s should hold on %s: %v", name, text, at == 0)
				}
			}
		}
	}
	if ok, code := impl.AxiomHolds(frameWith(2, 0), "L"); !ok || code != impl.ErrNone {
		t.Errorf("the example of AxiomHolds = %v, code %d", ok, code)
	}
}

// The axioms of the frame without worlds, of frames with one world, and of frames with MaxWorlds worlds.
func TestAxiomsOfNamedFrames(t *testing.T) {
	frames := append(namedFrames()[:9], frameWith(0), frameWith(1))
	for i, want := range []string{"45BCDFGHLTVXZ", "45BCDGHT", "45BCFGHLVX", "45BCDFGHTXZ", "DFG", "F", "F", "4L", "4CDGHTZ", "45BCFGHLVX", "45BCDFGHTXZ"} {
		got := ""
		for _, row := range axiomRows() {
			if row.expectAxiom(t, frames[i]) {
				got += row.name
			}
		}
		if got != want {
			t.Errorf("on %v the conditions of %s hold, want %s", frames[i], got, want)
		}
	}
}

// expectLogics expects of a frame the logics and the strongest ones.
func expectLogics(t *testing.T, f impl.Frame, logics, strongest []string) {
	t.Helper()
	for _, row := range logicRows() {
		got, code := impl.IsFrameOf(f, row.name)
		expectBool(t, fmt.Sprint("IsFrameOf of ", f, row.name), got, code, slices.Contains(logics, row.name))
	}
	got, code := impl.LogicsOfFrame(f)
	expectNames(t, fmt.Sprint("LogicsOfFrame of ", f), got, code, logics...)
	got, code = impl.StrongestLogics(f)
	expectNames(t, fmt.Sprint("StrongestLogics of ", f), got, code, strongest...)
}

func TestLogicsOfFrames(t *testing.T) {
	order := smallOrder()
	found := map[string]bool{}
	for _, f := range sampleFrames() {
		logics := logicsOf(f)
		expectLogics(t, f, logics, order.strongest(logics))
		found[fmt.Sprint(order.strongest(logics))] = true
	}
	// Frames on which the conditions of some axioms hold are rare among the others.
	seed := uint64(137)
	for _, row := range axiomRows() {
		for worlds := range impl.MaxWorlds + 1 {
			f := frameWith(row.built(&seed, irregularFrame(&seed, worlds, 2).Arrows)...)
			logics := logicsOf(f)
			expectLogics(t, f, logics, order.strongest(logics))
			found[fmt.Sprint(order.strongest(logics))] = true
		}
	}
	if len(found) < 15 {
		t.Errorf("the samples have the strongest logics %v", found)
	}
}

func TestLogicsOfNamedFrames(t *testing.T) {
	var all, ofLoop []string
	for _, row := range logicRows() {
		all = append(all, row.name)
		if row.name != "GL" && row.name != "Ver" {
			ofLoop = append(ofLoop, row.name)
		}
	}
	ofEnd := []string{"GL", "K", "K4", "K45", "KB", "Ver"}
	named := namedFrames()
	for _, c := range []struct {
		f                 impl.Frame
		logics, strongest []string
	}{
		{frameWith(), all, []string{"Triv", "Ver"}},
		{frameWith(0), ofEnd, []string{"Ver"}}, {named[2], ofEnd, []string{"Ver"}},
		{frameWith(1), ofLoop, []string{"Triv"}}, {named[3], ofLoop, []string{"Triv"}},
		{frameWith(2, 4, 0), []string{"K"}, []string{"K"}}, {named[5], []string{"K"}, []string{"K"}}, {frameWith(3, 4, 0), []string{"K"}, []string{"K"}},
		{named[4], []string{"D", "K"}, []string{"D"}}, {frameWith(2, 1), []string{"D", "K", "KB"}, []string{"D", "KB"}}, {frameWith(3, 1), []string{"D", "K", "KB"}, []string{"D", "KB"}}, {frameWith(6, 1, 1, 0), []string{"K", "KB"}, []string{"KB"}},
		{frameWith(2, 0), []string{"GL", "K", "K4"}, []string{"GL"}}, {named[7], []string{"GL", "K", "K4"}, []string{"GL"}}, {frameWith(3, 0), []string{"K", "K4"}, []string{"K4"}}, {frameWith(0, 1, 7), []string{"K", "K4"}, []string{"K4"}},
		{frameWith(2, 2), []string{"D", "D4", "K", "K4", "K45", "KD45"}, []string{"KD45"}}, {frameWith(2, 2, 0), []string{"K", "K4", "K45"}, []string{"K45"}}, {frameWith(1, 0), []string{"K", "K4", "K45", "KB"}, []string{"K45", "KB"}}, {frameWith(6, 2, 4), []string{"D", "D4", "K", "K4"}, []string{"D4"}},
		{frameWith(3, 3), []string{"D", "D4", "K", "K4", "K45", "KB", "KD45", "S4", "S42", "S43", "S5", "T"}, []string{"S5"}}, {named[1], []string{"D", "D4", "K", "K4", "K45", "KB", "KD45", "S4", "S42", "S43", "S5", "T"}, []string{"S5"}},
		{frameWith(3, 7, 6), []string{"D", "K", "KB", "T"}, []string{"KB", "T"}}, {frameWith(3, 6, 4), []string{"D", "K", "T"}, []string{"T"}},
		// S42 and S43 have the same frames with at most 3 worlds, so that each of them is below the other one.
		{frameWith(7, 7, 4), []string{"D", "D4", "K", "K4", "S4", "S42", "S43", "T"}, []string{"S42", "S43"}}, {frameWith(15, 10, 12, 8), []string{"D", "D4", "Grz", "K", "K4", "S4", "S42", "T"}, []string{"Grz", "S42"}}, {named[8], []string{"D", "D4", "Grz", "K", "K4", "S4", "S42", "S43", "T"}, []string{"Grz", "S42", "S43"}},
		{frameWith(31, 31, 20, 24, 16), []string{"D", "D4", "K", "K4", "S4", "S42", "T"}, []string{"S42"}}, {frameWith(7, 2, 4), []string{"D", "D4", "Grz", "K", "K4", "S4", "T"}, []string{"Grz"}}, {frameWith(15, 15, 4, 8), []string{"D", "D4", "K", "K4", "S4", "T"}, []string{"S4"}},
	} {
		expectLogics(t, c.f, c.logics, c.strongest)
	}
	if logics, code := impl.LogicsOfFrame(frameWith(1)); len(logics) != 14 || code != impl.ErrNone {
		t.Errorf("the example of LogicsOfFrame = %q, code %d", logics, code)
	}
}

func TestIsBelowSmall(t *testing.T) {
	for names, want := range smallOrder() {
		got, code := impl.IsBelowSmall(names[0], names[1])
		expectBool(t, fmt.Sprint("IsBelowSmall of ", names), got, code, want)
	}
	for _, row := range logicRows() {
		for _, names := range [][2]string{{"K", row.name}, {row.name, row.name}} {
			got, code := impl.IsBelowSmall(names[0], names[1])
			expectBool(t, fmt.Sprint("IsBelowSmall of ", names), got, code, true)
		}
	}
	for _, c := range []struct {
		first, second string
		want, back    bool
	}{
		{"T", "S4", true, false}, {"D", "T", true, false}, {"D", "D4", true, false}, {"K4", "D4", true, false}, {"K4", "GL", true, false}, {"K4", "K45", true, false}, {"K45", "KD45", true, false}, {"D4", "KD45", true, false}, {"D4", "S4", true, false}, {"KD45", "S5", true, false}, {"KB", "S5", true, false}, {"K", "KB", true, false},
		{"S4", "S42", true, false}, {"S4", "Grz", true, false}, {"S43", "S5", true, false}, {"S42", "S5", true, false}, {"S42", "S43", true, true}, {"S5", "Triv", true, false}, {"Grz", "Triv", true, false}, {"GL", "Ver", true, false}, {"K45", "Ver", true, false}, {"KB", "Ver", true, false}, {"K", "Ver", true, false},
		{"D", "KB", false, false}, {"D", "K4", false, false}, {"T", "D4", false, false}, {"T", "KD45", false, false}, {"Grz", "S5", false, false}, {"Grz", "S42", false, false}, {"Grz", "S43", false, false}, {"GL", "Grz", false, false}, {"GL", "S4", false, false}, {"KB", "K4", false, false}, {"KB", "KD45", false, false}, {"Triv", "Ver", false, false}, {"D", "Ver", false, false}, {"GL", "K45", false, false},
	} {
		got, code := impl.IsBelowSmall(c.first, c.second)
		expectBool(t, fmt.Sprintf("IsBelowSmall(%s, %s)", c.first, c.second), got, code, c.want)
		got, code = impl.IsBelowSmall(c.second, c.first)
		expectBool(t, fmt.Sprintf("IsBelowSmall(%s, %s)", c.second, c.first), got, code, c.back)
	}
	// A larger frame tells apart what smaller ones do not.
	diamond := frameWith(15, 10, 12, 8)
	first, code := impl.IsFrameOf(diamond, "S42")
	expectBool(t, "IsFrameOf of a diamond and S42", first, code, true)
	second, code := impl.IsFrameOf(diamond, "S43")
	expectBool(t, "IsFrameOf of a diamond and S43", second, code, false)
}

func TestFramesOf(t *testing.T) {
	counts := map[string][]int{
		"D": {1, 1, 6, 70}, "D4": {1, 1, 4, 17}, "GL": {1, 1, 2, 5}, "Grz": {1, 1, 2, 5}, "K": {1, 2, 10, 104}, "K4": {1, 2, 8, 39}, "K45": {1, 2, 5, 11}, "KB": {1, 2, 6, 20},
		"KD45": {1, 1, 3, 6}, "S4": {1, 1, 3, 9}, "S42": {1, 1, 3, 8}, "S43": {1, 1, 3, 8}, "S5": {1, 1, 2, 3}, "T": {1, 1, 3, 16}, "Triv": {1, 1, 1, 1}, "Ver": {1, 1, 1, 1},
	}
	for _, row := range logicRows() {
		for n := range int64(4) {
			all, _ := impl.AllFrames(n)
			want := slices.DeleteFunc(all, func(f impl.Frame) bool { return !slices.Contains(logicsOf(f), row.name) })
			got, code := impl.FramesOf(row.name, n)
			expectFrames(t, fmt.Sprint("FramesOf ", row.name, n), got, code, want)
			if len(got) != counts[row.name][n] {
				t.Errorf("FramesOf(%s, %d) = %v: %d frames", row.name, n, got, len(got))
			}
		}
		for _, n := range []int64{-1, 4, 5, 8, 1 << 32, -1 << 32, math.MinInt64, math.MaxInt64} {
			got, code := impl.FramesOf(row.name, n)
			if len(got) != 0 || code != impl.ErrRange {
				t.Errorf("FramesOf(%s, %d) = %v, code %d", row.name, n, got, code)
			}
		}
	}
	for _, c := range []struct {
		name string
		n    int64
		want string
	}{
		{"GL", 2, "[{2 [0 0]} {2 [0 1]}]"}, {"K", 0, "[{0 []}]"}, {"Ver", 0, "[{0 []}]"}, {"GL", 3, "[{3 [0 0 0]} {3 [0 0 1]} {3 [0 0 3]} {3 [0 1 1]} {3 [0 1 3]}]"}, {"Ver", 3, "[{3 [0 0 0]}]"}, {"Triv", 3, "[{3 [1 2 4]}]"}, {"S5", 3, "[{3 [1 2 4]} {3 [1 6 6]} {3 [7 7 7]}]"}, {"K", 1, "[{1 [0]} {1 [1]}]"}, {"KB", 2, "[{2 [0 0]} {2 [0 2]} {2 [1 2]} {2 [2 1]} {2 [2 3]} {2 [3 3]}]"},
	} {
		got, code := impl.FramesOf(c.name, c.n)
		if fmt.Sprint(got) != c.want || code != impl.ErrNone {
			t.Errorf("FramesOf(%s, %d) = %v, code %d, want %s", c.name, c.n, got, code, c.want)
		}
	}
}

// refutedOn tells whether the formula is refuted at some world of a frame.
func (x tree) refutedOn(f impl.Frame) bool {
	return slices.ContainsFunc(searched(f, variablesOf(x)), func(m impl.Model) bool { return x.worldsIn(m) != 1<<f.Worlds-1 })
}

// expectRefutingFrames expects of each logic the first of its frames that refutes a formula, and counts
// the numbers of worlds of these, 0 where there is none.
func expectRefutingFrames(t *testing.T, x tree, counts map[int64]int) {
	t.Helper()
	frames := slices.DeleteFunc(leastForms(3), func(f impl.Frame) bool { return !x.refutedOn(f) })
	for _, row := range logicRows() {
		what := fmt.Sprint("RefutingFrame of ", row.name, " and ", x.text())
		got, code := impl.RefutingFrame(row.name, x.nodes())
		i := slices.IndexFunc(frames, func(f impl.Frame) bool { return slices.Contains(logicsOf(f), row.name) })
		if i < 0 {
			expectNoFrame(t, what, got, code, impl.ErrNotFound)
			counts[0]++
			continue
		}
		expectFrame(t, what, got, code, frames[i])
		counts[got.Worlds]++
	}
}

func TestRefutingFrames(t *testing.T) {
	counts := map[int64]int{}
	trees := lateRefutations(t)
	for _, row := range axiomRows() {
		trees = append(trees, treeOfText(t, row.text))
	}
	trees = append(trees, treesOfTexts(t, "F", "T", "u", "~u|u", "[][]F", "[][][]F", "<>T", "<><>T", "p|q>r", "[](p>q>r)>[]p>[]q>[]r", "<>(s&t&u)><>s&<>t&<>u", "[]s|[]t|[]u", "<>s&<>t&<>u><>(s&t)|<>(t&u)|<>(s&u)")...)
	seed := uint64(139)
	for range 60 {
		if x := irregularTree(&seed, 4+nextNumber(&seed)%12); len(variablesOf(x)) <= 2 {
			trees = append(trees, x)
		}
	}
	for _, x := range trees {
		expectRefutingFrames(t, x, counts)
	}
	for worlds := range int64(4) {
		if counts[worlds] < 10 {
			t.Errorf("the numbers of worlds of refuting frames are %v", counts)
		}
	}
}

func TestNamedRefutingFrames(t *testing.T) {
	for _, c := range []struct{ name, text, want string }{
		// Frames with 1 world.
		{"K", "p", "1:"}, {"K", "F", "1:"}, {"T", "F", "1: 0>0"}, {"Ver", "<>T", "1:"}, {"K", "[]p>p", "1:"}, {"K", "[]F", "1: 0>0"}, {"K", "<>p", "1:"}, {"D", "<>p", "1: 0>0"}, {"GL", "[]p>p", "1:"}, {"Triv", "u", "1: 0>0"}, {"Ver", "[]s>s", "1:"}, {"S5", "[]F", "1: 0>0"}, {"K", "[]([]p>p)>[]p", "1: 0>0"},
		// With 2 worlds, but not with 1.
		{"K", "p>[]p", "2: 1>0"}, {"D", "[]p>p", "2: 0>0 1>0"}, {"GL", "[]F", "2: 1>0"}, {"S5", "p>[]p", "2: 0>0 0>1 1>0 1>1"}, {"Grz", "p>[]p", "2: 0>0 1>0 1>1"}, {"KB", "[]p>[][]p", "2: 0>1 1>0"}, {"S4", "p>[]<>p", "2: 0>0 1>0 1>1"}, {"K", "p>[]<>p", "2: 1>0"}, {"K", "[]p>[][]p", "2: 0>1 1>0"},
		// With 3 worlds, but not with fewer.
		{"T", "[]p>[][]p", "3: 0>0 1>0 1>1 2>1 2>2"}, {"GL", "[][]F", "3: 1>0 2>0 2>1"}, {"S4", "[]([]p>q)|[]([]q>p)", "3: 0>0 1>1 2>0 2>1 2>2"}, {"S4", "<>[]p>[]<>p", "3: 0>0 1>1 2>0 2>1 2>2"}, {"S5", "~(<>(p&q)&<>(p&~q)&<>(q&~p))", "3: 0>0 0>1 0>2 1>0 1>1 1>2 2>0 2>1 2>2"},
		// With none: theorems, and formulas that only larger frames refute.
		{"S4", "[]p>[][]p", ""}, {"K", "T", ""}, {"K", "[](p>q)>[]p>[]q", ""}, {"GL", "[]([]p>p)>[]p", ""}, {"Triv", "p>[]p", ""}, {"Ver", "[]F", ""}, {"Ver", "[](p&q&r)", ""}, {"S43", "[]([]p>q)|[]([]q>p)", ""}, {"K", "[](p>q>r)>[]p>[]q>[]r", ""},
		{"S42", "[]([]p>q)|[]([]q>p)", ""}, {"GL", "[][][]F", ""}, {"S5", "~(<>(p&q)&<>(p&~q)&<>(q&~p)&<>~(p|q))", ""},
	} {
		got, code := impl.RefutingFrame(c.name, mustParse(t, c.text))
		what := fmt.Sprintf("RefutingFrame(%s, %s)", c.name, c.text)
		if c.want == "" {
			expectNoFrame(t, what, got, code, impl.ErrNotFound)
		} else {
			expectFrame(t, what, got, code, mustFrame(t, c.want))
		}
	}
	if valid, code := impl.IsValidOn(frameWith(15, 10, 12, 8), mustParse(t, "[]([]p>q)|[]([]q>p)")); valid || code != impl.ErrNone {
		t.Errorf("a diamond refutes no H: code %d", code)
	}
}

// Formulas of 3 and of more variables, whatever these are and however often they occur.
func TestVariablesOfRefutedFormulas(t *testing.T) {
	for _, row := range logicRows() {
		first := frameWith(1)
		if slices.Contains(logicsOf(frameWith(0)), row.name) {
			first = frameWith(0)
		}
		for _, text := range []string{"p|q|r", "s|t|u", "p|r|u", "u|u|t|t|p|u", "F", "q", "q|t|(p>p)&q"} {
			got, code := impl.RefutingFrame(row.name, mustParse(t, text))
			expectFrame(t, fmt.Sprint("RefutingFrame of ", row.name, text), got, code, first)
		}
		for _, text := range []string{"p|q|r|~p", "s>t>u>s"} {
			got, code := impl.RefutingFrame(row.name, mustParse(t, text))
			expectNoFrame(t, fmt.Sprint("RefutingFrame of ", row.name, text), got, code, impl.ErrNotFound)
		}
		for _, text := range []string{"p|q|r|s", "r&s&t&u", "p|~p|q|r|s", "T|p|q|r|u", "F&p&q&t&u", "p&q&r&s&t&u", "p|q|r|s|t|u|T", "p&q&r&s&t"} {
			got, code := impl.RefutingFrame(row.name, mustParse(t, text))
			expectNoFrame(t, fmt.Sprint("RefutingFrame of ", row.name, text), got, code, impl.ErrLimit)
		}
	}
}

// noNames returns texts that are the name neither of an axiom nor of a logic.
func noNames() []string {
	return []string{
		"", " ", "A", "E", "I", "M", "Y", "a", "1", "3", "6", "44", "45", "k", "t", "d", "x", "z", "gl", "gL", "Gl", "GRZ", "grz", "KT", "KK", "K5", "KD", "KD4", "KD5", "K44", "K4 ", " K4", "K4\n", "K4\x00", "\x00", "K\x00", "D5", "D4D", "S", "S3", "S6", "S4.2", "S44", "s4", "TR", "Tri", "triv", "Trivial", "Verum", "VER", "ver", "V ", " T", "T ", "4,5", "none", "K: none", "[]p>p", "[]F", "\u0394", "\xff", "S4S4", "XX",
	}
}

// otherNames returns the names of one kind that are none of the other one.
func otherNames(names, others []string) []string {
	return slices.DeleteFunc(slices.Clone(names), func(name string) bool { return slices.Contains(others, name) })
}

// tableNames returns the names of all axioms, and those of all logics.
func tableNames() ([]string, []string) {
	var axioms, logics []string
	for _, row := range axiomRows() {
		axioms = append(axioms, row.name)
	}
	for _, row := range logicRows() {
		logics = append(logics, row.name)
	}
	return axioms, logics
}

func TestNamesOfNoAxiom(t *testing.T) {
	axioms, logics := tableNames()
	for _, name := range append(noNames(), otherNames(logics, axioms)...) {
		a, code := impl.AxiomFormula(name)
		expectNoNodes(t, fmt.Sprintf("AxiomFormula(%q)", name), a, code, impl.ErrNotFound)
		for _, f := range []impl.Frame{frameWith(), frameWith(0), frameWith(2, 0), namedFrames()[1]} {
			holds, code := impl.AxiomHolds(f, name)
			expectErrors(t, fmt.Sprintf("AxiomHolds(%v, %q)", f, name), []int64{code}, holds, impl.ErrNotFound)
		}
	}
}

func TestNamesOfNoLogic(t *testing.T) {
	axioms, logics := tableNames()
	for _, name := range append(noNames(), otherNames(axioms, logics)...) {
		list, code := impl.LogicAxioms(name)
		expectNoNames(t, fmt.Sprintf("LogicAxioms(%q)", name), list, code, impl.ErrNotFound)
		for _, f := range []impl.Frame{frameWith(), frameWith(0), frameWith(2, 0), namedFrames()[1]} {
			is, code := impl.IsFrameOf(f, name)
			expectErrors(t, fmt.Sprintf("IsFrameOf(%v, %q)", f, name), []int64{code}, is, impl.ErrNotFound)
		}
		for _, other := range []string{"K", "Ver", name, "", "S6"} {
			first, code1 := impl.IsBelowSmall(name, other)
			second, code2 := impl.IsBelowSmall(other, name)
			expectErrors(t, fmt.Sprintf("IsBelowSmall of %q and %q", name, other), []int64{code1, code2}, first || second, impl.ErrNotFound)
		}
		// Ahead of numbers that are out of range and of formulas with too many variables.
		for _, n := range []int64{0, 3, -1, 4, math.MinInt64, math.MaxInt64} {
			frames, code := impl.FramesOf(name, n)
			expectErrors(t, fmt.Sprintf("FramesOf(%q, %d)", name, n), []int64{code}, len(frames) != 0, impl.ErrNotFound)
		}
		for _, text := range []string{"p", "T", "p|q|r|s", "p&q&r&s&t&u"} {
			f, code := impl.RefutingFrame(name, mustParse(t, text))
			expectNoFrame(t, fmt.Sprintf("RefutingFrame(%q, %s)", name, text), f, code, impl.ErrNotFound)
		}
	}
}

// What is not a frame or a formula stands ahead of names that are not found.
func TestErrorsOfAxioms(t *testing.T) {
	for _, f := range invalidFrames() {
		what := fmt.Sprint(" of the invalid frame ", f)
		for _, name := range []string{"T", "D", "V", "4", "K", "Ver", "S4", "", "S6", "\xff"} {
			holds, code1 := impl.AxiomHolds(f, name)
			is, code2 := impl.IsFrameOf(f, name)
			expectErrors(t, fmt.Sprintf("AxiomHolds and IsFrameOf%s and %q", what, name), []int64{code1, code2}, holds || is, impl.ErrInvalid)
		}
		logics, code := impl.LogicsOfFrame(f)
		expectNoNames(t, "LogicsOfFrame"+what, logics, code, impl.ErrInvalid)
		logics, code = impl.StrongestLogics(f)
		expectNoNames(t, "StrongestLogics"+what, logics, code, impl.ErrInvalid)
	}
	many := slices.Concat(slices.Repeat([]impl.Node{{Kind: impl.KindAnd}}, 5), unpolish("pqrst"))
	for _, a := range append(invalidLists(), many) {
		for _, name := range []string{"K", "T", "Ver", "S42", "", "4", "S6"} {
			f, code := impl.RefutingFrame(name, a)
			expectNoFrame(t, fmt.Sprintf("RefutingFrame of %q and the invalid formula %v", name, a), f, code, impl.ErrInvalid)
		}
	}
}

func expectOwnNames(t *testing.T, what string, names []string) {
	t.Helper()
	if slices.Contains(names, "changed") {
		t.Errorf("%s: %q", what, names)
	}
	names = names[:cap(names)]
	for i := range names {
		names[i] = "changed"
	}
}

// No function changes an argument or the capacity behind it, and no result shares memory with an
// argument, within itself or with a later result.
func TestAxiomsAreNeitherChangedNorShared(t *testing.T) {
	store := append([]int64{7, 7, 4}, slices.Repeat([]int64{-9}, 20)...)
	before := slices.Clone(store)
	f := impl.Frame{Worlds: 3, Arrows: store[:3]}
	nodes := append(mustParse(t, "[]p>[][]p"), slices.Repeat([]impl.Node{{Kind: -9, Symbol: -9}}, 40)...)
	nodesBefore := slices.Clone(nodes)
	for range 2 {
		for _, row := range logicRows() {
			axioms, _ := impl.LogicAxioms(row.name)
			expectOwnNames(t, "LogicAxioms", axioms)
			impl.IsFrameOf(f, row.name)
			refuting, _ := impl.RefutingFrame(row.name, nodes[:6])
			expectOwnNumbers(t, "RefutingFrame", arrowsIn(refuting))
			for n := range int64(4) {
				frames, _ := impl.FramesOf(row.name, n)
				expectOwnNumbers(t, "FramesOf", arrowsIn(frames...))
			}
		}
		var formulas [][]impl.Node
		for _, row := range axiomRows() {
			a, _ := impl.AxiomFormula(row.name)
			formulas = append(formulas, a)
			impl.AxiomHolds(f, row.name)
		}
		expectOwnMemory(t, "AxiomFormula", formulas)
		logics, _ := impl.LogicsOfFrame(f)
		expectOwnNames(t, "LogicsOfFrame", logics)
		strongest, _ := impl.StrongestLogics(f)
		expectOwnNames(t, "StrongestLogics", strongest)
		if !slices.Equal(store, before) || !slices.Equal(nodes, nodesBefore) {
			t.Fatalf("an argument was changed: %v, %v", store, nodes)
		}
	}
	for _, row := range axiomRows() {
		a, code := impl.AxiomFormula(row.name)
		expectNodes(t, "AxiomFormula again", a, code, mustParse(t, row.text))
	}
}
