package tests

import (
	"fmt"
	"math"
	"regexp"
	"slices"
	"strconv"
	"strings"
	"sync"
	"testing"

	"loop.example/g01089/impl"
)

const (
	lastRule = impl.RuleCut
	manyRule = math.MaxInt64
)

func sequentLogics() []string { return []string{"K", "D", "T", "K4", "S4", "GL", "S5"} }

// seq returns the sequent whose two sides are told in a text, with slashes between formulas: "p/q;r".
func seq(text string) impl.ModalSequent {
	left, right, _ := strings.Cut(text, ";")
	return impl.ModalSequent{Left: sideOf(left), Right: sideOf(right)}
}

func sideOf(text string) []string {
	if text == "" {
		return nil
	}
	return strings.Split(text, "/")
}

func seqText(s impl.ModalSequent) string {
	return strings.Join(s.Left, "/") + ";" + strings.Join(s.Right, "/")
}

func seqTexts(list []impl.ModalSequent) []string {
	var texts []string
	for _, s := range list {
		texts = append(texts, seqText(s))
	}
	return texts
}

// sequentWith returns the sequent with some texts on its sides, in any order and perhaps several times.
func sequentWith(left, right []string) impl.ModalSequent {
	left, right = slices.Clone(left), slices.Clone(right)
	slices.Sort(left)
	slices.Sort(right)
	return impl.ModalSequent{Left: slices.Compact(left), Right: slices.Compact(right)}
}

func areSameSequents(a, b impl.ModalSequent) bool {
	return slices.Equal(a.Left, b.Left) && slices.Equal(a.Right, b.Right)
}

// modalStep returns the step with some parts and the sequent that is told in a text.
func modalStep(rule int64, sequent, main string, premises ...int64) impl.ModalStep {
	s := seq(sequent)
	return impl.ModalStep{Rule: rule, Premises: premises, Left: s.Left, Right: s.Right, Main: main}
}

func sequentIn(step impl.ModalStep) impl.ModalSequent {
	return impl.ModalSequent{Left: step.Left, Right: step.Right}
}

func areSameModalSteps(a, b []impl.ModalStep) bool {
	return slices.EqualFunc(a, b, func(x, y impl.ModalStep) bool {
		return x.Rule == y.Rule && slices.Equal(x.Premises, y.Premises) && areSameSequents(sequentIn(x), sequentIn(y)) && x.Main == y.Main
	})
}

// knownTrees has what treeWithText has found.
var knownTrees sync.Map

// treeWithText returns the tree whose formula has a text, and whether there is one.
func treeWithText(text string) (tree, bool) {
	if known, ok := knownTrees.Load(text); ok {
		return known.(tree), true
	}
	a, _, code := impl.ParseFormula(text)
	if back, _ := impl.FormulaText(a); code != impl.ErrNone || back != text {
		return tree{}, false
	}
	x, _ := treeOf(a)
	knownTrees.Store(text, x)
	return x, true
}

func (x tree) formulaText() string {
	text, _ := impl.FormulaText(x.nodes())
	return text
}

// partsWithin returns the texts of all parts of the formulas with some texts.
func partsWithin(texts ...string) map[string]bool {
	parts := map[string]bool{}
	for _, text := range texts {
		x, _ := treeWithText(text)
		for _, part := range x.all() {
			parts[part.formulaText()] = true
		}
	}
	return parts
}

// isSequent tells what IsModalSequent has to tell.
func isSequent(s impl.ModalSequent) bool {
	for _, side := range [][]string{s.Left, s.Right} {
		for i, text := range side {
			_, isText := treeWithText(text)
			if i >= 16 || !isText || i > 0 && side[i-1] >= text {
				return false
			}
		}
	}
	return true
}

// changed returns a sequent without a text on each side and with some more texts.
func changed(s impl.ModalSequent, fromLeft, fromRight string, left, right []string) impl.ModalSequent {
	without := func(side []string, text string) []string {
		return slices.DeleteFunc(slices.Clone(side), func(other string) bool { return other == text })
	}
	return sequentWith(append(without(s.Left, fromLeft), left...), append(without(s.Right, fromRight), right...))
}

// ruleSays returns the premises of a rule other than RuleWeaken, and whether it is one of the logic and fits.
func ruleSays(logic string, rule int64, s impl.ModalSequent, main string) ([]impl.ModalSequent, bool) {
	premises := func(list ...impl.ModalSequent) ([]impl.ModalSequent, bool) { return list, true }
	onLeft, onRight := slices.Contains(s.Left, main), slices.Contains(s.Right, main)
	x, isText := treeWithText(main)
	if !isText {
		x.node.Kind = -1
	}
	parts := [][]string{nil, nil}
	for i, part := range x.parts {
		parts[i] = []string{part.formulaText()}
	}
	a, b, both := parts[0], parts[1], slices.Concat(parts...)
	isReflexive := slices.Contains([]string{"T", "S4", "S5"}, logic)
	is := func(asked int64, side bool, kind int64) bool { return rule == asked && side && x.node.Kind == kind }
	switch {
	case rule == impl.RuleAxiom && onLeft && onRight:
		return premises()
	case rule == impl.RuleFalsity && main == "" && slices.Contains(s.Left, "F"):
		return premises()
	case is(impl.RuleAndLeft, onLeft, impl.KindAnd):
		return premises(changed(s, main, "", both, nil))
	case is(impl.RuleAndRight, onRight, impl.KindAnd):
		return premises(changed(s, "", main, nil, a), changed(s, "", main, nil, b))
	case is(impl.RuleOrLeft, onLeft, impl.KindOr):
		return premises(changed(s, main, "", a, nil), changed(s, main, "", b, nil))
	case is(impl.RuleOrRight, onRight, impl.KindOr):
		return premises(changed(s, "", main, nil, both))
	case is(impl.RuleImplyLeft, onLeft, impl.KindImply):
		return premises(changed(s, main, "", nil, a), changed(s, main, "", b, nil))
	case is(impl.RuleImplyRight, onRight, impl.KindImply):
		return premises(changed(s, "", main, a, b))
	case is(impl.RuleReflexLeft, onLeft && isReflexive, impl.KindBox):
		return premises(changed(s, "", "", a, nil))
	case is(impl.RuleReflexRight, onRight && isReflexive, impl.KindDiamond):
		return premises(changed(s, "", "", nil, a))
	case is(impl.RuleModal, onRight, impl.KindBox):
		premise := changed(seenSequent(logic, s, main), "", "", nil, a)
		if logic == "GL" {
			premise = changed(premise, "", "", []string{main}, nil)
		}
		return premises(premise)
	case is(impl.RuleModal, onLeft, impl.KindDiamond):
		premise := changed(seenSequent(logic, s, main), "", "", a, nil)
		if logic == "GL" {
			premise = changed(premise, "", "", nil, []string{main})
		}
		return premises(premise)
	case rule == impl.RuleSerial && logic == "D" && main == "":
		return premises(seenSequent(logic, s, main))
	case rule == impl.RuleCut && isText:
		return premises(changed(s, "", "", nil, []string{main}), changed(s, "", "", []string{main}, nil))
	}
	return nil, false
}

// seenSequent returns what the premise of RuleModal has of a sequent besides the part of the main formula and, for
// GL, the main formula.
func seenSequent(logic string, s impl.ModalSequent, main string) impl.ModalSequent {
	var left, right []string
	for _, text := range s.Left {
		left = append(left, seenOf(logic, text, "[]", "<>", main)...)
	}
	for _, text := range s.Right {
		right = append(right, seenOf(logic, text, "<>", "[]", main)...)
	}
	return sequentWith(left, right)
}

// seenOf returns what seenSequent has of one formula, where the first sign tells of all worlds that are seen.
func seenOf(logic, text, all, some, main string) []string {
	x, _ := treeWithText(text)
	sign := map[int64]string{impl.KindBox: "[]", impl.KindDiamond: "<>"}[x.node.Kind]
	if logic == "S5" && sign != "" && text != main {
		return []string{text}
	}
	if logic == "S5" || sign != all || sign == some {
		return nil
	}
	part := x.parts[0].formulaText()
	return map[string][]string{"K": {part}, "D": {part}, "T": {part}, "K4": {part, text}, "GL": {part, text}, "S4": {text}}[logic]
}

// isCorrectStep tells whether a step is correct behind others.
func isCorrectStep(logic string, before []impl.ModalStep, step impl.ModalStep) bool {
	s := sequentIn(step)
	if !isSequent(s) {
		return false
	}
	var given []impl.ModalSequent
	for _, i := range step.Premises {
		if i < 0 || i >= int64(len(before)) {
			return false
		}
		given = append(given, sequentIn(before[i]))
	}
	if step.Rule == impl.RuleWeaken {
		return step.Main == "" && len(given) == 1 && areSameSequents(changed(s, "", "", given[0].Left, given[0].Right), s)
	}
	premises, fits := ruleSays(logic, step.Rule, s, step.Main)
	return fits && slices.EqualFunc(premises, given, areSameSequents)
}

// badStep returns what FirstBadModalStep has to return.
func badStep(logic string, steps []impl.ModalStep) int64 {
	for i, step := range steps {
		if !isCorrectStep(logic, steps[:i], step) {
			return int64(i)
		}
	}
	return -1
}

// modalProofText returns the text that a proof has to have.
func modalProofText(steps []impl.ModalStep) string {
	text := ""
	for _, step := range steps {
		premises := strings.Trim(strings.ReplaceAll(fmt.Sprint(step.Premises), " ", ","), "[]")
		text += fmt.Sprintf("%d;%s;%s;%s\n", step.Rule, premises, seqText(sequentIn(step)), step.Main)
	}
	return text
}

var lineForm = regexp.MustCompile(`^([1-9]\d?);((?:0|[1-9]\d?)(?:,(?:0|[1-9]\d?))*|);([^;]*);([^;]*);([^;]*)$`)

// modalProofOf returns the proof that has a text, and whether there is one.
func modalProofOf(logic, text string) ([]impl.ModalStep, bool) {
	lines := strings.Split(text, "\n")
	count := len(lines) - 1
	if count < 1 || count > 60 || lines[count] != "" {
		return nil, false
	}
	var steps []impl.ModalStep
	for _, line := range lines[:count] {
		parts := lineForm.FindStringSubmatch(line)
		if parts == nil {
			return nil, false
		}
		step := impl.ModalStep{Left: sideOf(parts[3]), Right: sideOf(parts[4]), Main: parts[5]}
		step.Rule, _ = strconv.ParseInt(parts[1], 10, 64)
		for _, number := range strings.FieldsFunc(parts[2], func(letter rune) bool { return letter == ',' }) {
			premise, _ := strconv.ParseInt(number, 10, 64)
			step.Premises = append(step.Premises, premise)
		}
		steps = append(steps, step)
	}
	return steps, badStep(logic, steps) == -1
}

// usedModalSteps returns the last one of some steps and those that it uses, numbered anew.
func usedModalSteps(steps []impl.ModalStep) []impl.ModalStep {
	numbers := map[int64]int64{}
	var use func(i int64)
	use = func(i int64) {
		numbers[i] = 0
		for _, premise := range steps[i].Premises {
			use(premise)
		}
	}
	use(int64(len(steps) - 1))
	var kept []impl.ModalStep
	for i, step := range steps {
		if _, used := numbers[int64(i)]; !used {
			continue
		}
		numbers[int64(i)] = int64(len(kept))
		premises := []int64{}
		for _, premise := range step.Premises {
			premises = append(premises, numbers[premise])
		}
		step.Premises = premises
		kept = append(kept, step)
	}
	return kept
}

// isAnalyticProof tells what IsAnalytic has to tell.
func isAnalyticProof(steps []impl.ModalStep) bool {
	last := sequentIn(steps[len(steps)-1])
	parts := partsWithin(slices.Concat(last.Left, last.Right)...)
	for _, step := range steps {
		for _, text := range slices.Concat(step.Left, step.Right) {
			if !parts[text] {
				return false
			}
		}
	}
	return true
}

func hasRule(steps []impl.ModalStep, rule int64) bool {
	return slices.ContainsFunc(steps, func(step impl.ModalStep) bool { return step.Rule == rule })
}

func expectModalSteps(t *testing.T, what string, got []impl.ModalStep, code int64, want []impl.ModalStep) {
	t.Helper()
	if !areSameModalSteps(got, want) || code != impl.ErrNone {
		t.Errorf("%s = %q, code %d, want %q", what, modalProofText(got), code, modalProofText(want))
	}
}

func expectNoModalSteps(t *testing.T, what string, got []impl.ModalStep, code, want int64) {
	t.Helper()
	if len(got) != 0 || code != want {
		t.Errorf("%s = %q, code %d, want code %d", what, modalProofText(got), code, want)
	}
}

func expectModalSequent(t *testing.T, what string, got impl.ModalSequent, code int64, want impl.ModalSequent) {
	t.Helper()
	if !areSameSequents(got, want) || code != impl.ErrNone {
		t.Errorf("%s = %q, code %d, want %q", what, seqText(got), code, seqText(want))
	}
}

// expectRule expects what ruleSays tells of a rule, or an error, and returns the code.
func expectRule(t *testing.T, logic string, rule int64, s impl.ModalSequent, main string) int64 {
	t.Helper()
	want, fits := ruleSays(logic, rule, s, main)
	wantCode := int64(impl.ErrNone)
	if !fits {
		want, wantCode = nil, impl.ErrNotFound
	}
	if slices.ContainsFunc(want, func(premise impl.ModalSequent) bool { return len(premise.Left) > 16 || len(premise.Right) > 16 }) {
		want, wantCode = nil, impl.ErrLimit
	}
	got, code := impl.RulePremises(logic, rule, s, main)
	if !slices.EqualFunc(got, want, areSameSequents) || code != wantCode {
		t.Errorf("RulePremises of %s, %d, %q, %q = %q, code %d, want %q, code %d", logic, rule, seqText(s), main, seqTexts(got), code, seqTexts(want), wantCode)
	}
	return code
}

// expectNoRule expects an error of RulePremises for all of some logics.
func expectNoRule(t *testing.T, logics []string, rule int64, s impl.ModalSequent, main string, want int64) {
	t.Helper()
	for _, logic := range logics {
		got, code := impl.RulePremises(logic, rule, s, main)
		if len(got) != 0 || code != want {
			t.Errorf("RulePremises of %s, %d, %q, %q = %q, code %d, want code %d", logic, rule, seqText(s), main, seqTexts(got), code, want)
		}
	}
}

// manyTexts returns the first texts, at most 60, of an ascending list of variables behind boxes.
func manyTexts(count int) []string {
	var texts []string
	for boxes := range 10 {
		for _, letter := range "pqrstu" {
			texts = append(texts, strings.Repeat("[]", boxes)+string(letter))
		}
	}
	slices.Sort(texts)
	return texts[:count]
}

// boxes returns n formulas []p, [][]p and so on, ascending.
func boxes(n int) []string {
	var texts []string
	for i := range n {
		texts = append(texts, strings.Repeat("[]", i+1)+"p")
	}
	slices.Sort(texts)
	return texts
}

// noTexts returns texts that no formula has.
func noTexts() []string {
	return []string{
		"", " ", "x", "P", "a", "f", "t ", " p", "p ", "p\n", "(p)", "((p))", "()", "(", ")", "p)", "(p", "p&", "&p", "p&&q", "p>", ">p", "pq", "p,q", "p/q", "p;q",
		"~F", "F>F", "p>F", "~(p)", "~~", "~", "(p>q)", "p>(q)", "p>(q>r)", "(p&q)&r", "(p|q)|r", "(p&q)|r", "p|(q&r)", "[](p)", "<>(p)", "[]", "<>", "[p", "]p", "[ ]p", "[] p", "<p>", "[]p[]q",
		"~p>F", "(p>q)>F", "(F>F)", "(T)", "TT", "T>F ", "\x00", "p\x00", "\xff", "\u0070\u0301", "\u25a1p", "p1", "0",
		strings.Repeat("[]", 40) + "p", strings.Repeat("~", 20) + "p", strings.Repeat("p&", 20) + "p", strings.Repeat("[]", 100) + "p", strings.Repeat("(", 300), strings.Repeat("p", 5000),
	}
}

// invalidSequents returns what is not a modal sequent.
func invalidSequents() []impl.ModalSequent {
	var list []impl.ModalSequent
	for _, text := range noTexts() {
		for _, side := range [][]string{{text}, {"[]p", text}, {text, "~p"}, {"p", "p"}, {"q", "p"}, {"p", "q", "q"}, {"p", "[]p"}, {"~p", "F"}} {
			list = append(list, impl.ModalSequent{Left: side}, impl.ModalSequent{Right: side}, impl.ModalSequent{Left: []string{"p"}, Right: side}, impl.ModalSequent{Left: side, Right: []string{"p"}}, impl.ModalSequent{Left: side, Right: side})
		}
	}
	many := manyTexts(17)
	return append(list, impl.ModalSequent{Left: many}, impl.ModalSequent{Right: many}, impl.ModalSequent{Left: manyTexts(16), Right: manyTexts(60)}, impl.ModalSequent{Left: slices.Repeat([]string{"p"}, 5000)})
}

// noSequentLogics returns texts that name no logic with sequents.
func noSequentLogics() []string {
	_, logics := tableNames()
	return slices.Concat(noNames(), otherNames(logics, sequentLogics()), []string{"KB", "Int", "CL", "S4GL", "K;", "GL\n", "K/T", "4", "L"})
}

func TestModalProofConstants(t *testing.T) {
	limits := []int64{impl.MaxSide, impl.MaxModalSteps}
	expectList(t, "limits", limits, impl.ErrNone, 16, 60)
	rules := []int64{
		impl.RuleAxiom, impl.RuleFalsity, impl.RuleAndLeft, impl.RuleAndRight, impl.RuleOrLeft, impl.RuleOrRight, impl.RuleImplyLeft,
		impl.RuleImplyRight, impl.RuleReflexLeft, impl.RuleReflexRight, impl.RuleModal, impl.RuleSerial, impl.RuleWeaken, impl.RuleCut,
	}
	expectList(t, "rules", rules, impl.ErrNone, 1, 2, 3, 4, 5, 6, 7, 8, 9, 10, 11, 12, 13, 14)
}

func TestIsSequentLogic(t *testing.T) {
	for _, name := range sequentLogics() {
		if !impl.IsSequentLogic(name) {
			t.Errorf("IsSequentLogic(%q) is false", name)
		}
	}
	for _, name := range noSequentLogics() {
		if impl.IsSequentLogic(name) {
			t.Errorf("IsSequentLogic(%q) is true", name)
		}
	}
}

func TestIsModalSequent(t *testing.T) {
	for text, want := range map[string]bool{
		";": true, "p;": true, ";p": true, "p;p": true, "[]p/p;": true, "p/[]p;": false, ";p/[]p": false, "F;T": true, "F/T;F/T": true, "T/F;": false,
		"<>p/F/T/[]p/p/~p;<>p/F/T/[]p/p/~p": true, "p/q;q/p": false, "p/p;": false, ";p/p": false, "p/q/r/s/t/u;": true, "~F;": false, "F>F;": false, "p>F;": false, "p>q>r;": true, "p>(q>r);": false, "(p>q)>r;": true,
		"p/;": false, "/p;": false, ";p//q": false, "p&q/p&q&r/p&q|r;p": true, "(p&q)&r;": false, "p/q/p;": false, "p>q/p;": false, "p/p>q;": true,
	} {
		if got := impl.IsModalSequent(seq(text)); got != want {
			t.Errorf("IsModalSequent(%q) = %v", text, got)
		}
	}
	for _, s := range invalidSequents() {
		if impl.IsModalSequent(s) {
			t.Errorf("IsModalSequent(%q) is true", s)
		}
	}
	for count := range 21 {
		for _, s := range []impl.ModalSequent{{Left: manyTexts(count)}, {Right: manyTexts(count)}, {Left: manyTexts(count), Right: manyTexts(16)}, {Left: manyTexts(16), Right: boxes(count)}} {
			if got := impl.IsModalSequent(s); got != (count <= 16) {
				t.Errorf("IsModalSequent of %d and %d texts is %v", len(s.Left), len(s.Right), got)
			}
		}
	}
}

// All pairs of lists of at most 3 of some texts, and lists of at most 2 of more, are told by their definition.
func TestIsModalSequentByDefinition(t *testing.T) {
	listsOf := func(texts []string, length int) [][]string {
		lists := [][]string{nil}
		for from := 0; length > 0; length-- {
			to := len(lists)
			for _, list := range lists[from:to] {
				for _, text := range texts {
					lists = append(lists, append(slices.Clip(list), text))
				}
			}
			from = to
		}
		return lists
	}
	sequents := 0
	check := func(s impl.ModalSequent) {
		want := isSequent(s)
		if got := impl.IsModalSequent(s); got != want {
			t.Errorf("IsModalSequent(%q) = %v", s, got)
		}
		if want {
			sequents++
		}
	}
	few := listsOf([]string{"F", "[]p", "p", "p>F"}, 3)
	for _, left := range few {
		for _, right := range few {
			check(impl.ModalSequent{Left: left, Right: right})
		}
	}
	for _, side := range listsOf(append(noTexts(), "F", "T", "p", "<>p", "p&q", "~p"), 2) {
		check(impl.ModalSequent{Left: side})
		check(impl.ModalSequent{Left: []string{"p", "q"}, Right: side})
	}
	if sequents < 100 {
		t.Errorf("only %d sequents were found", sequents)
	}
}

// sequentTree returns the tree of the formula of a sequent.
func sequentTree(s impl.ModalSequent) tree {
	join := func(kind int64, texts []string, none tree) tree {
		if len(texts) == 0 {
			return none
		}
		joined, _ := treeWithText(texts[0])
		for _, text := range texts[1:] {
			x, _ := treeWithText(text)
			joined = joinTrees(kind, joined, x)
		}
		return joined
	}
	f := atomTree(impl.KindFalse, 0)
	return joinTrees(impl.KindImply, join(impl.KindAnd, s.Left, joinTrees(impl.KindImply, f, f)), join(impl.KindOr, s.Right, f))
}

func expectSequentFormula(t *testing.T, s impl.ModalSequent) int64 {
	t.Helper()
	want := sequentTree(s).nodes()
	got, code := impl.SequentFormula(s)
	if len(want) > 40 {
		expectNoNodes(t, fmt.Sprintf("SequentFormula of %q", seqText(s)), got, code, impl.ErrLimit)
	} else {
		expectNodes(t, fmt.Sprintf("SequentFormula of %q", seqText(s)), got, code, want)
	}
	return code
}

// irregularSequent returns a sequent with some of some texts on its sides, at most two more on the left than told and
// at most one more on the right.
func irregularSequent(seed *uint64, texts []string, most int64) impl.ModalSequent {
	pick := func(count int64) []string {
		var side []string
		for range count {
			side = append(side, texts[nextNumber(seed)%int64(len(texts))])
		}
		return side
	}
	return sequentWith(pick(nextNumber(seed)%(most+2)), pick(nextNumber(seed)%(most+1)))
}

func TestSequentFormulas(t *testing.T) {
	var texts []string
	seed := uint64(151)
	for size := range int64(14) {
		for range 8 {
			texts = append(texts, irregularTree(&seed, size+1).formulaText())
		}
	}
	codes := map[int64]int{}
	for i := range int64(6000) {
		codes[expectSequentFormula(t, irregularSequent(&seed, texts, 1+i%6))]++
	}
	if codes[impl.ErrNone] < 1000 || codes[impl.ErrLimit] < 1000 {
		t.Errorf("numbers of samples by codes: %v", codes)
	}
}

func TestNamedSequentFormulas(t *testing.T) {
	for text, want := range map[string]string{
		"p/q;": "~(p&q)", ";": "~T", "p;": "~p", ";p": "T>p", "p;q": "p>q", ";p/q": "T>p|q", "p/q/r;s/t/u": "p&q&r>s|t|u", "F;": "T", "F;F": "T", "T;": "~T", ";F": "T>F", ";T": "T>T", "p|q/r;p&q": "(p|q)&r>p&q",
		"[]p/p>q;<>q": "[]p&(p>q)><>q", "p&q/r&s;": "~(p&q&(r&s))", ";p|q/r|s": "T>p|q|(r|s)", "p>q/~p;": "~((p>q)&~p)", "p>q;r": "(p>q)>r", ";p>q": "T>p>q",
	} {
		got, code := impl.SequentFormula(seq(text))
		expectNodes(t, "SequentFormula of "+text, got, code, mustParse(t, want))
	}
}

// A side without formulas has 3 nodes on the left and one on the right; one more node is for the implication.
func TestSequentFormulaLimits(t *testing.T) {
	box := func(count int, text string) string { return strings.Repeat("[]", count) + text }
	for text, size := range map[string]int{
		box(34, "p") + ";p": 37, box(37, "p") + ";p": 40, box(38, "p") + ";p": 41, box(39, "p") + ";p": 42, "p;" + box(37, "q"): 40, "p;" + box(38, "q"): 41,
		";" + box(35, "p"): 40, ";" + box(36, "p"): 41, ";" + box(39, "p"): 44, box(37, "p") + ";": 40, box(38, "p") + ";": 41, box(39, "p") + ";": 42,
		box(17, "p") + "/" + box(17, "q") + ";p": 39, box(18, "p") + "/" + box(17, "q") + ";p": 40, box(18, "p") + "/" + box(18, "q") + ";p": 41, "p;" + box(18, "p") + "/" + box(17, "q"): 40, "p;" + box(18, "p") + "/" + box(18, "q"): 41,
		"p/q/r/s/t/u;" + box(13, "q") + "/" + box(12, "p"): 40, "p/q/r/s/t/u;" + box(13, "p") + "/" + box(13, "q"): 41,
	} {
		s := seq(text)
		code := expectSequentFormula(t, s)
		got, _ := impl.SequentFormula(s)
		if nodes := len(sequentTree(s).nodes()); nodes != size || code == impl.ErrNone && len(got) != size || (code == impl.ErrNone) != (size <= 40) {
			t.Errorf("SequentFormula of %q has %d nodes, code %d, want %d", text, len(got), code, size)
		}
	}
	for _, s := range []impl.ModalSequent{{Left: manyTexts(16)}, {Right: manyTexts(16)}, {Left: manyTexts(16), Right: manyTexts(16)}, {Left: boxes(16), Right: boxes(16)}} {
		got, code := impl.SequentFormula(s)
		expectNoNodes(t, "SequentFormula of many", got, code, impl.ErrLimit)
	}
}

// A ruleRow has what a rule makes of a sequent in some logics.
type ruleRow struct {
	logics   string
	rule     int64
	sequent  string
	main     string
	premises []string
}

const allSequentLogics = "K D T K4 S4 GL S5"

// The sequent has each kind of formula on both sides.
const mixed = "<>p/[]q/[]r/t;<>q/<>s/[]p/u"

func ruleRows() []ruleRow {
	all := allSequentLogics
	return []ruleRow{
		{all, impl.RuleAxiom, "p;p", "p", nil}, {all, impl.RuleAxiom, "[]p/q;[]p/r", "[]p", nil}, {all, impl.RuleAxiom, "F;F", "F", nil}, {all, impl.RuleAxiom, "T;T", "T", nil}, {all, impl.RuleAxiom, "p/q;p/q", "q", nil},
		{all, impl.RuleFalsity, "F;", "", nil}, {all, impl.RuleFalsity, "<>p/F/p;F/q", "", nil},
		{all, impl.RuleAndLeft, "p&q;r", "p&q", []string{"p/q;r"}}, {all, impl.RuleAndLeft, "p/p&q;", "p&q", []string{"p/q;"}}, {all, impl.RuleAndLeft, "p/p&q/q;", "p&q", []string{"p/q;"}}, {all, impl.RuleAndLeft, "p&p;", "p&p", []string{"p;"}}, {all, impl.RuleAndLeft, "p&q;p&q", "p&q", []string{"p/q;p&q"}}, {all, impl.RuleAndLeft, "p&q&r;", "p&q&r", []string{"p&q/r;"}}, {all, impl.RuleAndLeft, "p&(q&r);p", "p&(q&r)", []string{"p/q&r;p"}}, {all, impl.RuleAndLeft, "p&q/r&s;", "r&s", []string{"p&q/r/s;"}}, {all, impl.RuleAndLeft, "<>p/p&~q;", "p&~q", []string{"<>p/p/~q;"}},
		{all, impl.RuleAndRight, "r;p&q", "p&q", []string{"r;p", "r;q"}}, {all, impl.RuleAndRight, "p&q;p&q", "p&q", []string{"p&q;p", "p&q;q"}}, {all, impl.RuleAndRight, ";p/p&q", "p&q", []string{";p", ";p/q"}}, {all, impl.RuleAndRight, ";p&p", "p&p", []string{";p", ";p"}}, {all, impl.RuleAndRight, "p;p&q/q", "p&q", []string{"p;p/q", "p;q"}},
		{all, impl.RuleOrLeft, "p|q;r", "p|q", []string{"p;r", "q;r"}}, {all, impl.RuleOrLeft, "p/p|q;", "p|q", []string{"p;", "p/q;"}}, {all, impl.RuleOrLeft, "p|q|r;p|q", "p|q|r", []string{"p|q;p|q", "r;p|q"}}, {all, impl.RuleOrLeft, "p|q;p|q", "p|q", []string{"p;p|q", "q;p|q"}},
		{all, impl.RuleOrRight, "r;p|q", "p|q", []string{"r;p/q"}}, {all, impl.RuleOrRight, ";p/p|q", "p|q", []string{";p/q"}}, {all, impl.RuleOrRight, "p|q;p|q/r", "p|q", []string{"p|q;p/q/r"}}, {all, impl.RuleOrRight, ";p|p", "p|p", []string{";p"}},
		{all, impl.RuleImplyLeft, "p>q;r", "p>q", []string{";p/r", "q;r"}}, {all, impl.RuleImplyLeft, "~p;r", "~p", []string{";p/r", "F;r"}}, {all, impl.RuleImplyLeft, "T;r", "T", []string{";F/r", "F;r"}}, {all, impl.RuleImplyLeft, "p>q/q;p", "p>q", []string{"q;p", "q;p"}}, {all, impl.RuleImplyLeft, "p>q;p>q", "p>q", []string{";p/p>q", "q;p>q"}}, {all, impl.RuleImplyLeft, "p>q>r;", "p>q>r", []string{";p", "q>r;"}}, {all, impl.RuleImplyLeft, "F/~p;", "~p", []string{"F;p", "F;"}}, {all, impl.RuleImplyLeft, "F/T;F", "T", []string{"F;F", "F;F"}}, {all, impl.RuleImplyLeft, "~~p;", "~~p", []string{";~p", "F;"}},
		{all, impl.RuleImplyRight, "r;p>q", "p>q", []string{"p/r;q"}}, {all, impl.RuleImplyRight, ";~p", "~p", []string{"p;F"}}, {all, impl.RuleImplyRight, ";T", "T", []string{"F;F"}}, {all, impl.RuleImplyRight, "p;p>q/q", "p>q", []string{"p;q"}}, {all, impl.RuleImplyRight, "p>q;p>q", "p>q", []string{"p/p>q;q"}}, {all, impl.RuleImplyRight, ";p>q>r", "p>q>r", []string{"p;q>r"}}, {all, impl.RuleImplyRight, "F;F/T", "T", []string{"F;F"}}, {all, impl.RuleImplyRight, ";(p>q)>r", "(p>q)>r", []string{"p>q;r"}},
		{"T S4 S5", impl.RuleReflexLeft, "[]p;r", "[]p", []string{"[]p/p;r"}}, {"T S4 S5", impl.RuleReflexLeft, "[]p/p;", "[]p", []string{"[]p/p;"}}, {"T S4 S5", impl.RuleReflexLeft, "[][]p;[]p", "[][]p", []string{"[][]p/[]p;[]p"}}, {"T S4 S5", impl.RuleReflexLeft, "[]p;[]p", "[]p", []string{"[]p/p;[]p"}},
		{"T S4 S5", impl.RuleReflexRight, "r;<>p", "<>p", []string{"r;<>p/p"}}, {"T S4 S5", impl.RuleReflexRight, ";<>p/p", "<>p", []string{";<>p/p"}}, {"T S4 S5", impl.RuleReflexRight, "<>p;<>[]p", "<>[]p", []string{"<>p;<>[]p/[]p"}},
		{"K D T", impl.RuleModal, mixed, "[]p", []string{"q/r;p/q/s"}}, {"K4", impl.RuleModal, mixed, "[]p", []string{"[]q/[]r/q/r;<>q/<>s/p/q/s"}}, {"GL", impl.RuleModal, mixed, "[]p", []string{"[]p/[]q/[]r/q/r;<>q/<>s/p/q/s"}}, {"S4", impl.RuleModal, mixed, "[]p", []string{"[]q/[]r;<>q/<>s/p"}}, {"S5", impl.RuleModal, mixed, "[]p", []string{"<>p/[]q/[]r;<>q/<>s/p"}},
		{"K D T", impl.RuleModal, mixed, "<>p", []string{"p/q/r;q/s"}}, {"K4", impl.RuleModal, mixed, "<>p", []string{"[]q/[]r/p/q/r;<>q/<>s/q/s"}}, {"GL", impl.RuleModal, mixed, "<>p", []string{"[]q/[]r/p/q/r;<>p/<>q/<>s/q/s"}}, {"S4", impl.RuleModal, mixed, "<>p", []string{"[]q/[]r/p;<>q/<>s"}}, {"S5", impl.RuleModal, mixed, "<>p", []string{"[]q/[]r/p;<>q/<>s/[]p"}},
		{"K D T S4 S5 K4", impl.RuleModal, "p;[]q/r", "[]q", []string{";q"}}, {"GL", impl.RuleModal, "p;[]q/r", "[]q", []string{"[]q;q"}}, {"K D T S4 S5 K4", impl.RuleModal, "<>q/p;r", "<>q", []string{"q;"}}, {"GL", impl.RuleModal, "<>q/p;r", "<>q", []string{"q;<>q"}},
		{"K D T", impl.RuleModal, "[]p;[]p", "[]p", []string{"p;p"}}, {"K4 GL", impl.RuleModal, "[]p;[]p", "[]p", []string{"[]p/p;p"}}, {"S4", impl.RuleModal, "[]p;[]p", "[]p", []string{"[]p;p"}}, {"S5", impl.RuleModal, "[]p/[]q;[]p", "[]p", []string{"[]q;p"}},
		{"K D T", impl.RuleModal, "<>p;<>p", "<>p", []string{"p;p"}}, {"K4 GL", impl.RuleModal, "<>p;<>p", "<>p", []string{"p;<>p/p"}}, {"S4", impl.RuleModal, "<>p;<>p", "<>p", []string{"p;<>p"}}, {"S5", impl.RuleModal, "<>p;<>p/<>q", "<>p", []string{"p;<>q"}},
		{"K", impl.RuleModal, "[]p;[]q", "[]q", []string{"p;q"}}, {"GL", impl.RuleModal, "[]p;[]q", "[]q", []string{"[]p/[]q/p;q"}},
		{"K D T", impl.RuleModal, "[][]p/[]p;[][]p", "[][]p", []string{"[]p/p;[]p"}}, {"K4 GL", impl.RuleModal, "[][]p/[]p;[][]p", "[][]p", []string{"[][]p/[]p/p;[]p"}}, {"S5", impl.RuleModal, "[]p;[]<>p/[]p", "[]<>p", []string{"[]p;<>p/[]p"}},
		{"K D T", impl.RuleModal, "[]T/[]~p;[](p>q)", "[](p>q)", []string{"T/~p;p>q"}},
		{"D", impl.RuleSerial, mixed, "", []string{"q/r;q/s"}}, {"D", impl.RuleSerial, ";", "", []string{";"}}, {"D", impl.RuleSerial, "p;q", "", []string{";"}}, {"D", impl.RuleSerial, "[][]p/[]p;<>[]p", "", []string{"[]p/p;[]p"}},
		{all, impl.RuleCut, "p;q", "r", []string{"p;q/r", "p/r;q"}}, {all, impl.RuleCut, "p;q", "p", []string{"p;p/q", "p;q"}}, {all, impl.RuleCut, "p;q", "q", []string{"p;q", "p/q;q"}}, {all, impl.RuleCut, "p;p", "p", []string{"p;p", "p;p"}}, {all, impl.RuleCut, ";", "T", []string{";T", "T;"}}, {all, impl.RuleCut, "p;", "~(<>p&[]q)", []string{"p;~(<>p&[]q)", "p/~(<>p&[]q);"}},
	}
}

// The examples, and what each rule makes of sequents, in the logics that have it.
func TestNamedRules(t *testing.T) {
	for _, row := range ruleRows() {
		for _, logic := range strings.Fields(row.logics) {
			got, code := impl.RulePremises(logic, row.rule, seq(row.sequent), row.main)
			if !slices.Equal(seqTexts(got), row.premises) || code != impl.ErrNone {
				t.Errorf("RulePremises of %s, %d, %q, %q = %q, code %d, want %q", logic, row.rule, row.sequent, row.main, seqTexts(got), code, row.premises)
			}
		}
	}
}

// A main formula of another kind, on the other side, missing or that is none, and rules that say nothing of it.
func TestRulesThatDoNotFit(t *testing.T) {
	all := strings.Fields(allSequentLogics)
	for _, row := range []struct {
		rule    int64
		sequent string
		mains   string
	}{
		{impl.RuleAxiom, "p/q;q/r", "p r s F (q)"}, {impl.RuleAxiom, "p;q", "p q"}, {impl.RuleAxiom, "F;p", "F"}, {impl.RuleAxiom, ";", "p"},
		{impl.RuleFalsity, "F;F", "F p T"}, {impl.RuleFalsity, "F/p;p", "p F"},
		{impl.RuleAndLeft, "p/p&q/p>q/p|q;r&s", "p p>q p|q r&s q&p (p&q) q F T"}, {impl.RuleAndRight, "r&s;p/p&q/p>q/p|q", "p p>q p|q r&s q&p (p&q)"},
		{impl.RuleOrLeft, "p/p&q/p>q/p|q;r|s", "p p>q p&q r|s q|p (p|q)"}, {impl.RuleOrRight, "r|s;p/p&q/p>q/p|q", "p p>q p&q r|s q|p"},
		{impl.RuleImplyLeft, "<>p/F/[]p/p/p&q/p|q;T/p>q/~p", "p p&q p|q []p <>p F T p>q ~p ~q p>F F>F"}, {impl.RuleImplyRight, "T/p>q/~p;<>p/F/[]p/p/p&q/p|q", "p p&q p|q []p <>p F T p>q ~p ~q p>F F>F"},
		{impl.RuleReflexLeft, "<>p/p;[]p", "<>p p []p []q ~[]p"}, {impl.RuleReflexRight, "<>p;[]p/p", "<>p p []p <>q"},
		{impl.RuleModal, "[]p/p/~<>p;<>p/p/~[]p", "[]p <>p p ~<>p ~[]p []q <>q [](p) F"}, {impl.RuleModal, ";", "[]p <>p"},
		{impl.RuleSerial, "[]p;[]q", "[]p []q p F"}, {impl.RuleWeaken, "p;q", "p q r"}, {impl.RuleCut, "p;q", "(p) x p&q) F>F p>F ~F p/q [] p;q"},
	} {
		for _, main := range strings.Fields(row.mains) {
			expectNoRule(t, all, row.rule, seq(row.sequent), main, impl.ErrNotFound)
		}
		if row.rule != impl.RuleFalsity && row.rule != impl.RuleSerial {
			expectNoRule(t, all, row.rule, seq(row.sequent), "", impl.ErrNotFound)
		}
	}
	for _, text := range []string{";", "p;F", "T/~p;", "[]F;", "~F;"} {
		if s := seq(text); isSequent(s) {
			expectNoRule(t, all, impl.RuleFalsity, s, "", impl.ErrNotFound)
		}
	}
	for _, main := range noTexts() {
		for rule := int64(impl.RuleAxiom); rule <= lastRule; rule++ {
			if main != "" {
				expectNoRule(t, all, rule, seq("<>p/F/[]p/p/p&q/p>q/p|q;<>p/[]p/p/p&q/p>q/p|q"), main, impl.ErrNotFound)
			}
		}
	}
}

// Rules that only some logics have, RuleWeaken and numbers that are no rule.
func TestRulesOfNoLogic(t *testing.T) {
	expectNoRule(t, []string{"K", "D", "K4", "GL"}, impl.RuleReflexLeft, seq("[]p;<>p"), "[]p", impl.ErrNotFound)
	expectNoRule(t, []string{"K", "D", "K4", "GL"}, impl.RuleReflexRight, seq("[]p;<>p"), "<>p", impl.ErrNotFound)
	expectNoRule(t, []string{"K", "T", "K4", "S4", "GL", "S5"}, impl.RuleSerial, seq("[]p;<>p"), "", impl.ErrNotFound)
	for _, text := range []string{";", "p;p", "F;", mixed} {
		for _, main := range []string{"", "p", "F", "[]p"} {
			expectNoRule(t, sequentLogics(), impl.RuleWeaken, seq(text), main, impl.ErrNotFound)
			for _, rule := range []int64{0, -1, 15, 16, 100, -11, manyRule, math.MinInt64, 1 << 32, 1<<32 + 1, 1<<32 + 11, 256 + 1} {
				expectNoRule(t, sequentLogics(), rule, seq(text), main, impl.ErrNotFound)
			}
		}
	}
}

// ruleTexts returns texts of formulas of all kinds, parts of which are among them, too.
func ruleTexts() []string {
	texts := strings.Fields("p q F T ~p ~q p&q p|q p>q q>p []p []q <>p <>q [][]p []<>p <>[]p <><>q ~[]p ~<>p [](p&q) <>(p|q) []p&<>q p&p []F <>T [](p>q) []p>[]q")
	slices.Sort(texts)
	return texts
}

// Each rule in each logic, for sequents with some formulas on each side, with all of them and some others as the main
// formula.
func TestRulesByDefinition(t *testing.T) {
	for at, logic := range sequentLogics() {
		t.Run(logic, func(t *testing.T) {
			t.Parallel()
			seed := uint64(157 + at)
			fitting := map[int64]int{}
			for i := range int64(700) {
				s := irregularSequent(&seed, ruleTexts(), 2+i%6)
				mains := append(slices.Concat(s.Left, s.Right), "", "(p)", "p&q", "[]r")
				for rule := int64(impl.RuleAxiom); rule <= lastRule; rule++ {
					for _, main := range mains {
						if code := expectRule(t, logic, rule, s, main); code == impl.ErrNone {
							fitting[rule]++
						}
					}
				}
			}
			for rule := int64(impl.RuleAxiom); rule <= lastRule; rule++ {
				isReflex := rule == impl.RuleReflexLeft || rule == impl.RuleReflexRight
				isOf := !(isReflex && !strings.Contains("T S4 S5", logic)) && !(rule == impl.RuleSerial && logic != "D") && rule != impl.RuleWeaken
				if (fitting[rule] > 20) != isOf || (fitting[rule] > 0) != isOf {
					t.Errorf("the rule %d fits in %d samples", rule, fitting[rule])
				}
			}
		})
	}
}

// Premises may have MaxSide formulas on a side, but not one more.
func TestLimitsOfPremises(t *testing.T) {
	all := strings.Fields(allSequentLogics)
	full, others := manyTexts(16), manyTexts(15)
	with := func(texts []string, more ...string) []string {
		return sequentWith(append(slices.Clone(texts), more...), nil).Left
	}
	for _, row := range []struct {
		rule        int64
		left, right []string
		main        string
		logics      string
		limit       bool
	}{
		{impl.RuleAndLeft, with(others, "p&q"), full, "p&q", allSequentLogics, true}, {impl.RuleAndLeft, with(manyTexts(14), "p&q"), full, "p&q", allSequentLogics, false}, {impl.RuleAndLeft, with(others, "[]p&[]q"), nil, "[]p&[]q", allSequentLogics, true}, {impl.RuleAndLeft, with(manyTexts(15), "p&"+others[0]), nil, "p&" + others[0], allSequentLogics, false},
		{impl.RuleAndRight, full, with(others, "p&q"), "p&q", allSequentLogics, false}, {impl.RuleOrLeft, with(others, "p|q"), full, "p|q", allSequentLogics, false},
		{impl.RuleOrRight, full, with(others, "p|q"), "p|q", allSequentLogics, true}, {impl.RuleOrRight, full, with(manyTexts(14), "p|q"), "p|q", allSequentLogics, false},
		{impl.RuleImplyLeft, with(others, "p>q"), full, "p>q", allSequentLogics, true}, {impl.RuleImplyLeft, with(others, "p>q"), others, "p>q", allSequentLogics, false}, {impl.RuleImplyLeft, with(others, "p>q"), with(others, "p"), "p>q", allSequentLogics, false},
		{impl.RuleImplyRight, full, with(others, "p>q"), "p>q", allSequentLogics, true}, {impl.RuleImplyRight, others, with(others, "p>q"), "p>q", allSequentLogics, false}, {impl.RuleImplyRight, with(others, "p"), with(others, "p>q"), "p>q", allSequentLogics, false},
		{impl.RuleReflexLeft, with(others, "[](p&q)"), full, "[](p&q)", "T S4 S5", true}, {impl.RuleReflexLeft, with(manyTexts(14), "[](p&q)"), full, "[](p&q)", "T S4 S5", false}, {impl.RuleReflexLeft, with(manyTexts(14), "[](p&q)", "p&q"), full, "[](p&q)", "T S4 S5", false},
		{impl.RuleReflexRight, full, with(others, "<>(p&q)"), "<>(p&q)", "T S4 S5", true}, {impl.RuleReflexRight, full, with(manyTexts(14), "<>(p&q)"), "<>(p&q)", "T S4 S5", false},
		{impl.RuleCut, full, others, "p", allSequentLogics, true}, {impl.RuleCut, others, full, "p", allSequentLogics, true}, {impl.RuleCut, others, others, "p", allSequentLogics, false}, {impl.RuleCut, full, full, full[3], allSequentLogics, false}, {impl.RuleCut, full, others, full[15], allSequentLogics, false}, {impl.RuleCut, full, nil, "p", allSequentLogics, true}, {impl.RuleCut, nil, full, "p", allSequentLogics, true},
		{impl.RuleModal, boxes(16), []string{"[]q"}, "[]q", "K D T S4 S5", false}, {impl.RuleModal, boxes(16), []string{"[]q"}, "[]q", "K4 GL", true}, {impl.RuleModal, boxes(15), []string{"[]q"}, "[]q", "K4", false}, {impl.RuleModal, boxes(15), []string{"[]q"}, "[]q", "GL", true}, {impl.RuleModal, boxes(14), []string{"[]q"}, "[]q", "GL", false}, {impl.RuleModal, boxes(15), []string{"[]p"}, "[]p", "GL K4", false},
		{impl.RuleModal, with(boxes(15), "<>q"), nil, "<>q", "K D T S4 S5", false}, {impl.RuleModal, with(boxes(15), "<>q"), nil, "<>q", "K4 GL", true}, {impl.RuleModal, with(boxes(14), "<>q"), nil, "<>q", "K4 GL", false},
		{impl.RuleSerial, boxes(16), nil, "", "D", false}, {impl.RuleAxiom, full, full, full[0], allSequentLogics, false},
	} {
		s := impl.ModalSequent{Left: row.left, Right: row.right}
		if !isSequent(s) {
			t.Fatalf("%q is not a sequent", seqText(s))
		}
		want := int64(impl.ErrNone)
		if row.limit {
			want = impl.ErrLimit
		}
		for _, logic := range strings.Fields(row.logics) {
			if code := expectRule(t, logic, row.rule, s, row.main); code != want {
				t.Errorf("RulePremises of %s, %d, %q, %q: code %d, want %d", logic, row.rule, seqText(s), row.main, code, want)
			}
		}
		// What does not fit has no premises that are too large.
		expectNoRule(t, all, row.rule, s, "(p)", impl.ErrNotFound)
	}
}

// Of some formulas that have all their parts among them, the sequents are numbers: the formula i is on the left if the
// digit i is 1, and on the right if the digit count + i is 1.
type sequentSpace struct {
	logic    string
	formulas []string
}

func (u sequentSpace) size() int { return 1 << (2 * len(u.formulas)) }

func (u sequentSpace) sequent(number int) impl.ModalSequent {
	var s impl.ModalSequent
	for i, text := range u.formulas {
		if number>>i&1 == 1 {
			s.Left = append(s.Left, text)
		}
		if number>>(len(u.formulas)+i)&1 == 1 {
			s.Right = append(s.Right, text)
		}
	}
	return s
}

func (u sequentSpace) number(s impl.ModalSequent) int {
	number := 0
	for i, text := range u.formulas {
		if slices.Contains(s.Left, text) {
			number |= 1 << i
		}
		if slices.Contains(s.Right, text) {
			number |= 1 << (len(u.formulas) + i)
		}
	}
	return number
}

// A ruleUse is a rule with a main formula, and the numbers of its premises.
type ruleUse struct {
	rule     int64
	main     string
	premises []int
}

// uses returns all ways to prove a sequent by RulePremises, with RuleCut for S5 only, and by RuleWeaken.
func (u sequentSpace) uses(number int) []ruleUse {
	var uses []ruleUse
	add := func(rule int64, main string) {
		premises, code := impl.RulePremises(u.logic, rule, u.sequent(number), main)
		if code != impl.ErrNone {
			return
		}
		use := ruleUse{rule: rule, main: main}
		for _, premise := range premises {
			use.premises = append(use.premises, u.number(premise))
		}
		uses = append(uses, use)
	}
	add(impl.RuleFalsity, "")
	add(impl.RuleSerial, "")
	s := u.sequent(number)
	for _, main := range slices.Compact(slices.Sorted(slices.Values(slices.Concat(s.Left, s.Right)))) {
		for rule := int64(impl.RuleAxiom); rule <= impl.RuleModal; rule++ {
			if rule != impl.RuleFalsity {
				add(rule, main)
			}
		}
	}
	if u.logic == "S5" {
		for _, main := range u.formulas {
			add(impl.RuleCut, main)
		}
	}
	for digit := 1; digit < u.size(); digit *= 2 {
		if number&digit != 0 {
			uses = append(uses, ruleUse{rule: impl.RuleWeaken, premises: []int{number - digit}})
		}
	}
	return uses
}

// provable returns, for each sequent that has a proof from sequents with these formulas only, the last rule of one.
func (u sequentSpace) provable() map[int]ruleUse {
	uses := make([][]ruleUse, u.size())
	for number := range uses {
		uses[number] = u.uses(number)
	}
	proved := map[int]ruleUse{}
	isProved := func(number int) bool { _, ok := proved[number]; return ok }
	for before := -1; before < len(proved); {
		before = len(proved)
		for number, list := range uses {
			for _, use := range list {
				if !isProved(number) && !slices.ContainsFunc(use.premises, func(premise int) bool { return !isProved(premise) }) {
					proved[number] = use
				}
			}
		}
	}
	return proved
}

// provedSpaces has what provable returns for spaces that were asked for.
var provedSpaces sync.Map

// proved returns what provable returns, which is found once.
func (u sequentSpace) proved() map[int]ruleUse {
	find, _ := provedSpaces.LoadOrStore(fmt.Sprint(u), sync.OnceValue(u.provable))
	return find.(func() map[int]ruleUse)()
}

// proofOf returns a proof of a sequent, or nothing if it has none.
func (u sequentSpace) proofOf(number int) []impl.ModalStep {
	proved := u.proved()
	if _, isProved := proved[number]; !isProved {
		return nil
	}
	var steps []impl.ModalStep
	known := map[int]int64{}
	var add func(number int) int64
	add = func(number int) int64 {
		if at, ok := known[number]; ok {
			return at
		}
		use, s := proved[number], u.sequent(number)
		var premises []int64
		for _, premise := range use.premises {
			premises = append(premises, add(premise))
		}
		known[number] = int64(len(steps))
		steps = append(steps, impl.ModalStep{Rule: use.rule, Premises: premises, Left: s.Left, Right: s.Right, Main: use.main})
		return known[number]
	}
	add(number)
	return steps
}

// smallFramesOf returns the frames of a logic with at most 3 worlds, and some with 4.
func smallFramesOf(logic string) []impl.Frame {
	// The last two refute what smaller frames do not: <>[]p/[]<>p;<>p/[][]p/p in K and D.
	frames := []impl.Frame{frameWith(6, 8, 8, 0), frameWith(7, 10, 12, 8), frameWith(6, 8, 10, 0), frameWith(6, 8, 10, 8)}
	for n := range int64(4) {
		all, _ := impl.AllFrames(n)
		frames = append(frames, all...)
	}
	return slices.DeleteFunc(frames, func(f impl.Frame) bool { return !slices.Contains(logicsOf(f), logic) })
}

// refutedSequents tells for each sequent whether it is refuted at a world of a model on one of some frames.
func (u sequentSpace) refutedSequents(frames []impl.Frame) []bool {
	var trees []tree
	for _, text := range u.formulas {
		x, _ := treeWithText(text)
		trees = append(trees, x)
	}
	truths := map[int]bool{}
	for _, f := range frames {
		for _, m := range searched(f, variablesOf(trees...)) {
			for w := range f.Worlds {
				truth := 0
				for i, x := range trees {
					if x.worldsIn(m)>>w&1 == 1 {
						truth |= 1 << i
					}
				}
				truths[truth] = true
			}
		}
	}
	refuted := make([]bool, u.size())
	for number := range refuted {
		left, right := number&(1<<len(trees)-1), number>>len(trees)
		for truth := range truths {
			refuted[number] = refuted[number] || left&^truth == 0 && right&truth == 0
		}
	}
	return refuted
}

// spaceTexts returns lists of formulas that have all their parts among them.
func spaceTexts() [][]string {
	var lists [][]string
	for _, text := range []string{
		"p q p&q []p []q [](p&q)", "p q p|q <>p <>q <>(p|q)", "F p ~p []p <>~p ~[]p", "p []p <>p []<>p <>[]p [][]p", "F T p []p []p>p []([]p>p)", "F T <>T []F <>p p",
	} {
		list := strings.Fields(text)
		slices.Sort(list)
		lists = append(lists, list)
	}
	return lists
}

// isValidFor tells whether the formula of a sequent is valid on all of some frames, and whether it is a formula.
func isValidFor(frames []impl.Frame, s impl.ModalSequent) (bool, bool) {
	a, code := impl.SequentFormula(s)
	if code != impl.ErrNone {
		return false, false
	}
	for _, f := range frames {
		if valid, code := impl.IsValidOn(f, a); !valid || code != impl.ErrNone {
			return false, true
		}
	}
	return true, true
}

// expectValidSteps expects that the formulas of the sequents of a proof are valid, and returns how many there are.
func expectValidSteps(t *testing.T, logic string, frames []impl.Frame, steps []impl.ModalStep) int {
	t.Helper()
	formulas := 0
	for _, step := range steps {
		valid, isFormula := isValidFor(frames, sequentIn(step))
		if isFormula && !valid {
			t.Errorf("%q of a proof for %s is not valid:\n%s", seqText(sequentIn(step)), logic, modalProofText(steps))
		}
		if isFormula {
			formulas++
		}
	}
	return formulas
}

// expectProof expects what the functions of the chapter tell of a proof.
func expectProof(t *testing.T, logic string, steps []impl.ModalStep) {
	t.Helper()
	text := modalProofText(steps)
	what := fmt.Sprintf(" for %s of\n%s", logic, text)
	bad, code := impl.FirstBadModalStep(logic, steps)
	expectNumber(t, "FirstBadModalStep"+what, bad, code, badStep(logic, steps))
	last, code := impl.ModalConclusion(logic, steps)
	expectModalSequent(t, "ModalConclusion"+what, last, code, sequentIn(steps[len(steps)-1]))
	free, code := impl.IsCutFree(logic, steps)
	expectBool(t, "IsCutFree"+what, free, code, !hasRule(steps, impl.RuleCut))
	analytic, code := impl.IsAnalytic(logic, steps)
	expectBool(t, "IsAnalytic"+what, analytic, code, isAnalyticProof(steps))
	pruned, code := impl.PruneProof(logic, steps)
	expectModalSteps(t, "PruneProof"+what, pruned, code, usedModalSteps(steps))
	if bad := badStep(logic, pruned); bad != -1 {
		t.Errorf("the step %d is bad in PruneProof%s", bad, what)
	}
	got, code := impl.ModalProofText(logic, steps)
	expectName(t, "ModalProofText"+what, got, code, text, impl.ErrNone)
	back, code := impl.ParseModalProof(logic, text)
	expectModalSteps(t, "ParseModalProof"+what, back, code, steps)
}

// P11: among all sequents of some formulas, those with a proof are valid on all frames of the logic with at most 3
// worlds. Since the formulas are small, the others are refuted on one of these.
func TestSmallSequentsHaveProofsExactlyIfTheyAreValid(t *testing.T) {
	for _, logic := range sequentLogics() {
		for at, formulas := range spaceTexts() {
			t.Run(fmt.Sprint(logic, at), func(t *testing.T) {
				t.Parallel()
				u := sequentSpace{logic, formulas}
				frames := smallFramesOf(logic)
				proved, refuted := u.proved(), u.refutedSequents(frames)
				seed := uint64(163 + at)
				for number := range refuted {
					if _, isProved := proved[number]; isProved == refuted[number] {
						t.Errorf("%q: proved is %v, refuted is %v", seqText(u.sequent(number)), isProved, refuted[number])
					}
					if nextNumber(&seed)%40 != 0 {
						continue
					}
					valid, isFormula := isValidFor(frames, u.sequent(number))
					if isFormula && valid == refuted[number] {
						t.Errorf("%q: valid is %v", seqText(u.sequent(number)), valid)
					}
					if !refuted[number] {
						steps := u.proofOf(number)
						expectProof(t, logic, steps)
						expectValidSteps(t, logic, frames, steps)
					}
				}
			})
		}
	}
}

// sampleProofs returns proofs for a logic without visible order.
func sampleProofs(seed *uint64, logic string, count int) [][]impl.ModalStep {
	var proofs [][]impl.ModalStep
	for len(proofs) < count {
		formulas := spaceTexts()[nextNumber(seed)%6]
		u := sequentSpace{logic, formulas}
		number := int(nextNumber(seed) % int64(u.size()))
		steps := u.proofOf(number)
		// Proofs by an axiom alone are most of them.
		if len(steps) > 3 || nextNumber(seed)%40 == 0 && steps != nil {
			proofs = append(proofs, steps)
		}
	}
	return proofs
}

// instanceOf returns the steps in which formulas are put for variables. They may not be correct any more.
func instanceOf(t *testing.T, steps []impl.ModalStep, images [][]impl.Node) []impl.ModalStep {
	t.Helper()
	image := func(text string) string {
		if text == "" {
			return ""
		}
		a, code := impl.SubstituteFormula(mustParse(t, text), images)
		if code != impl.ErrNone {
			return "(p)"
		}
		return mustText(t, a)
	}
	imagesOf := func(texts []string) []string {
		var list []string
		for _, text := range texts {
			list = append(list, image(text))
		}
		return list
	}
	var list []impl.ModalStep
	for _, step := range steps {
		s := sequentWith(imagesOf(step.Left), imagesOf(step.Right))
		list = append(list, impl.ModalStep{Rule: step.Rule, Premises: step.Premises, Left: s.Left, Right: s.Right, Main: image(step.Main)})
	}
	return list
}

// withUnused puts other proofs ahead of a proof, between whose steps some of them stand.
func withUnused(seed *uint64, steps []impl.ModalStep) []impl.ModalStep {
	var list []impl.ModalStep
	var numbers []int64
	for _, step := range steps {
		for nextNumber(seed)%3 == 0 {
			list = append(list, modalStep(impl.RuleAxiom, "r/s;s", "s"), modalStep(impl.RuleWeaken, "r/s/~q;s", "", int64(len(list))))
		}
		numbers = append(numbers, int64(len(list)))
		step.Premises = slices.Clone(step.Premises)
		for i, premise := range step.Premises {
			step.Premises[i] = numbers[premise]
		}
		list = append(list, step)
	}
	return list
}

// P11 for larger proofs: instances of small ones, with steps that are not used.
func TestInstancesOfProofsAreValid(t *testing.T) {
	for at, logic := range sequentLogics() {
		t.Run(logic, func(t *testing.T) {
			t.Parallel()
			seed := uint64(167 + at)
			frames := smallFramesOf(logic)
			proofs, formulas, rules := 0, 0, map[int64]int{}
			for _, steps := range sampleProofs(&seed, logic, 150) {
				images := irregularMap(&seed, 5)
				for _, image := range images {
					for i, node := range image {
						// Three worlds and 2 variables are quick to search.
						image[i].Symbol = node.Symbol % 2
					}
				}
				instance := withUnused(&seed, instanceOf(t, steps, images))
				if len(instance) > 60 || badStep(logic, instance) != -1 {
					continue
				}
				proofs++
				expectProof(t, logic, instance)
				formulas += expectValidSteps(t, logic, frames, usedModalSteps(instance))
				for _, step := range instance {
					rules[step.Rule]++
				}
			}
			if proofs < 40 || formulas < 100 || len(rules) < 9 {
				t.Errorf("%d proofs, %d formulas, rules %v", proofs, formulas, rules)
			}
		})
	}
}

// P11 for long proofs with cuts: of each sequent that is proved before with a formula on the right, and with it on the
// left.
func TestCutsOfProofsAreValid(t *testing.T) {
	for at, logic := range sequentLogics() {
		t.Run(logic, func(t *testing.T) {
			t.Parallel()
			seed := uint64(173 + at)
			frames := smallFramesOf(logic)
			cuts, others := 0, 0
			for i := 0; cuts < 40 && i < 200000; i++ {
				u := sequentSpace{logic, spaceTexts()[nextNumber(&seed)%6]}
				number := int(nextNumber(&seed) % int64(u.size()))
				text := u.formulas[nextNumber(&seed)%6]
				s := changed(u.sequent(number), "", text, nil, nil)
				p := u.proofOf(u.number(changed(s, "", "", nil, []string{text})))
				q := u.proofOf(u.number(changed(s, "", "", []string{text}, nil)))
				if len(p)+len(q) < 6 || p == nil || q == nil {
					continue
				}
				got, code := impl.CutProofs(logic, p, q, text)
				want, wantCode := cutOf(p, q, text)
				expectCut(t, logic, p, q, text, want, wantCode)
				if code != impl.ErrNone {
					others++
					continue
				}
				cuts++
				if badStep(logic, got) != -1 || !areSameSequents(sequentIn(got[len(got)-1]), s) {
					t.Errorf("CutProofs for %s is no proof of %q:\n%s", logic, seqText(s), modalProofText(got))
				}
				expectProof(t, logic, got)
				expectValidSteps(t, logic, frames, got[len(got)-1:])
			}
			if cuts < 40 {
				t.Errorf("%d cuts were made, %d had errors", cuts, others)
			}
		})
	}
}

// cutOf returns what CutProofs has to return for proofs.
func cutOf(p, q []impl.ModalStep, text string) ([]impl.ModalStep, int64) {
	first, second := sequentIn(p[len(p)-1]), sequentIn(q[len(q)-1])
	if !slices.Contains(first.Right, text) || !areSameSequents(second, changed(first, "", text, []string{text}, nil)) {
		return nil, impl.ErrNotFound
	}
	list := slices.Clone(p)
	for _, step := range q {
		premises := []int64{}
		for _, premise := range step.Premises {
			premises = append(premises, premise+int64(len(p)))
		}
		step.Premises = premises
		list = append(list, step)
	}
	last := modalStep(impl.RuleCut, seqText(changed(first, "", text, nil, nil)), text, int64(len(p)-1), int64(len(p)+len(q)-1))
	if list = append(list, last); len(list) > 60 {
		return nil, impl.ErrLimit
	}
	return list, impl.ErrNone
}

func expectCut(t *testing.T, logic string, p, q []impl.ModalStep, text string, want []impl.ModalStep, wantCode int64) {
	t.Helper()
	what := fmt.Sprintf("CutProofs for %s by %q of\n%sand\n%s", logic, text, modalProofText(p), modalProofText(q))
	got, code := impl.CutProofs(logic, p, q, text)
	if wantCode != impl.ErrNone {
		expectNoModalSteps(t, what, got, code, wantCode)
	} else {
		expectModalSteps(t, what, got, code, want)
	}
}

// shortProof returns a proof of an axiom with the formulas of a sequent.
func shortProof(t *testing.T, sequent string) []impl.ModalStep {
	t.Helper()
	s := seq(sequent)
	for _, text := range s.Left {
		if slices.Contains(s.Right, text) {
			return []impl.ModalStep{modalStep(impl.RuleAxiom, sequent, text)}
		}
	}
	if !slices.Contains(s.Left, "F") {
		t.Fatalf("%q is not proved by an axiom", sequent)
	}
	return []impl.ModalStep{modalStep(impl.RuleFalsity, sequent, "")}
}

// Last sequents that fit, and that fail by one formula, by the order of the proofs or by the text.
func TestNamedCuts(t *testing.T) {
	for _, row := range []struct{ p, q, text, cut string }{
		{"p;p/q", "p/q;p", "q", "p;p"}, {"p;p/q", "p/q;p", "p", ""}, {"p/q;p", "p;p/q", "q", ""}, {"p;p/q", "p/q;p", "r", ""}, {"p;p/q", "p/q;p", "", ""}, {"p;p/q", "p/q;p", "(q)", ""},
		{"p;p/q", "p/q;p/q", "q", ""}, {"p;p/q", "p/q/r;p", "q", ""}, {"p;p/q", "p/q;p/r", "q", ""}, {"p;p/q/r", "p/q;p", "q", ""}, {"p/r;p/q", "p/q;p", "q", ""}, {"p;p/q", "p;p", "q", ""}, {"p;p", "p;p", "p", ""}, {"p;p", "p;p", "q", ""},
		{"p/q;p/q", "p/q;p", "q", "p/q;p"}, {"p/q;p/q", "p/q;q", "p", "p/q;q"}, {"p/q;p/q", "p/q;p", "p", ""}, {"p/q;p/q", "p/q;p/q", "q", ""}, {"F;p", "F/p;", "p", "F;"}, {"F;F", "F;", "F", "F;"}, {"F;T", "F/T;", "T", "F;"}, {"F;", "F/p;", "p", ""}, {"F;p", "F/p;", "q", ""}, {"F;", "F;", "F", ""}, {"F;F", "F;F", "F", ""},
		{"p;p/~p", "p/~p;p", "~p", "p;p"}, {"p;p/~p", "p/~p;p", "p>F", ""}, {"<>p/p;[]p/p", "<>p/[]p/p;p", "[]p", "<>p/p;p"}, {"p;p/q>r", "p/q>r;p", "q>r", "p;p"}, {"p;p/q>r", "p/q>r;p", "(q>r)", ""},
	} {
		for _, logic := range sequentLogics() {
			p, q := shortProof(t, row.p), shortProof(t, row.q)
			want, wantCode := cutOf(p, q, row.text)
			if (wantCode == impl.ErrNone) != (row.cut != "") || row.cut != "" && seqText(sequentIn(want[2])) != row.cut {
				t.Errorf("cutOf %v = %q, code %d", row, modalProofText(want), wantCode)
			}
			expectCut(t, logic, p, q, row.text, want, wantCode)
		}
	}
}

// A cut of full sides: the formula is on both sides of the first sequent, or makes the second one just full.
func TestCutsOfFullSides(t *testing.T) {
	full := manyTexts(16)
	with := func(side []string, text string) []string {
		return sequentWith(append(slices.Clone(side), text), nil).Left
	}
	axiom := func(left, right []string) []impl.ModalStep {
		return []impl.ModalStep{{Rule: impl.RuleAxiom, Left: left, Right: right, Main: full[0]}}
	}
	for _, row := range []struct {
		p, q []impl.ModalStep
		text string
		want int64
	}{
		{axiom(full, full), axiom(full, full[:15]), full[15], impl.ErrNone}, {axiom(full[:15], full), axiom(full, full[:15]), full[15], impl.ErrNone},
		{axiom(full[:15], with(full[:15], "~p")), axiom(with(full[:15], "~p"), full[:15]), "~p", impl.ErrNone}, {axiom(full, with(full[:15], "~p")), axiom(full, full[:15]), "~p", impl.ErrNotFound}, {axiom(full, with(full[:15], "~p")), axiom(with(full[:15], "~p"), full[:15]), "~p", impl.ErrNotFound},
	} {
		want, wantCode := cutOf(row.p, row.q, row.text)
		if wantCode != row.want {
			t.Errorf("cutOf %q has the code %d, want %d", row.text, wantCode, row.want)
		}
		expectCut(t, "K", row.p, row.q, row.text, want, wantCode)
	}
}

// longProof returns a proof of a sequent with the formula p on both sides that has some number of steps, each of which
// uses the step before it.
func longProof(sequent string, count int) []impl.ModalStep {
	list := []impl.ModalStep{modalStep(impl.RuleAxiom, sequent, "p")}
	for len(list) < count {
		list = append(list, modalStep(impl.RuleWeaken, sequent, "", int64(len(list)-1)))
	}
	return list
}

// A proof has one to MaxModalSteps steps, and so has a cut of two proofs.
func TestNumbersOfSteps(t *testing.T) {
	for _, logic := range sequentLogics() {
		for _, count := range []int{1, 2, 59, 60, 61, 62, 200} {
			steps := longProof("p;p", count)
			if count <= 60 {
				expectProof(t, logic, steps)
				continue
			}
			expectProofErrors(t, logic, steps, impl.ErrLimit)
			got, code := impl.ParseModalProof(logic, modalProofText(steps))
			expectNoModalSteps(t, fmt.Sprint("ParseModalProof of ", count, " steps"), got, code, impl.ErrSyntax)
		}
		expectProofErrors(t, logic, nil, impl.ErrLimit)
		expectProofErrors(t, logic, []impl.ModalStep{}, impl.ErrLimit)
		for _, row := range []struct {
			p, q int
			want int64
		}{{1, 1, impl.ErrNone}, {30, 29, impl.ErrNone}, {29, 30, impl.ErrNone}, {30, 30, impl.ErrLimit}, {1, 58, impl.ErrNone}, {58, 1, impl.ErrNone}, {1, 59, impl.ErrLimit}, {59, 1, impl.ErrLimit}, {60, 1, impl.ErrLimit}, {60, 60, impl.ErrLimit}, {29, 29, impl.ErrNone}} {
			p, q := longProof("p;p/q", row.p), longProof("p/q;p", row.q)
			want, wantCode := cutOf(p, q, "q")
			if wantCode != row.want {
				t.Errorf("cutOf %d and %d steps has the code %d, want %d", row.p, row.q, wantCode, row.want)
			}
			expectCut(t, logic, p, q, "q", want, wantCode)
			expectCut(t, logic, q, p, "q", nil, impl.ErrNotFound)
			expectCut(t, logic, p, q, "r", nil, impl.ErrNotFound)
		}
	}
}

// expectProofErrors expects an error of all functions that ask for a proof, and of FirstBadModalStep unless it is
// ErrState.
func expectProofErrors(t *testing.T, logic string, steps []impl.ModalStep, want int64) {
	t.Helper()
	other := longProof("p;p/q", 1)
	last, code1 := impl.ModalConclusion(logic, steps)
	free, code2 := impl.IsCutFree(logic, steps)
	analytic, code3 := impl.IsAnalytic(logic, steps)
	pruned, code4 := impl.PruneProof(logic, steps)
	text, code5 := impl.ModalProofText(logic, steps)
	first, code6 := impl.CutProofs(logic, steps, other, "q")
	second, code7 := impl.CutProofs(logic, other, steps, "q")
	both, code8 := impl.CutProofs(logic, steps, steps, "q")
	isGiven := len(last.Left)+len(last.Right)+len(pruned)+len(first)+len(second)+len(both) > 0 || free || analytic || text != ""
	codes := []int64{code1, code2, code3, code4, code5, code6, code7, code8}
	if want != impl.ErrState {
		bad, code := impl.FirstBadModalStep(logic, steps)
		codes = append(codes, code)
		isGiven = isGiven || bad != 0
	}
	expectErrors(t, fmt.Sprintf("functions of proofs for %q of\n%s", logic, modalProofText(steps)), codes, isGiven, want)
}

// expectBadStep expects that a step is the first one that is bad.
func expectBadStep(t *testing.T, logic string, steps []impl.ModalStep, want int64) {
	t.Helper()
	got, code := impl.FirstBadModalStep(logic, steps)
	expectNumber(t, fmt.Sprintf("FirstBadModalStep for %s of\n%s", logic, modalProofText(steps)), got, code, want)
	if want >= 0 {
		expectProofErrors(t, logic, steps, impl.ErrState)
	}
}

// changeModalStep changes one part of a step.
func changeModalStep(seed *uint64, step *impl.ModalStep, texts []string) {
	text := texts[nextNumber(seed)%int64(len(texts))]
	changeSide := func(side []string) []string {
		at := nextNumber(seed) % int64(len(side)+1)
		switch choice := nextNumber(seed) % 6; {
		case choice < 2:
			return changed(impl.ModalSequent{Left: side}, "", "", []string{text}, nil).Left
		case choice < 4 && len(side) > 0:
			return slices.Delete(slices.Clone(side), int(at)%len(side), int(at)%len(side)+1)
		case choice == 4:
			return slices.Insert(slices.Clone(side), int(at), text)
		}
		return slices.Insert(slices.Clone(side), int(at), noTexts()[nextNumber(seed)%int64(len(noTexts()))])
	}
	premises := slices.Clone(step.Premises)
	switch choice := nextNumber(seed) % 9; {
	case choice == 0:
		step.Rule = nextNumber(seed)%17 - 1
	case choice == 1 && len(premises) > 0:
		premises[nextNumber(seed)%int64(len(premises))] = nextNumber(seed)%12 - 2
	case choice == 2:
		premises = append(premises, nextNumber(seed)%12-2)
	case choice == 3 && len(premises) > 0:
		premises = premises[1:]
	case choice == 4:
		slices.Reverse(premises)
	case choice == 5:
		step.Left = changeSide(step.Left)
	case choice == 6:
		step.Right = changeSide(step.Right)
	case choice == 7:
		step.Left, step.Right = step.Right, step.Left
	case step.Main == "" || nextNumber(seed)%3 > 0:
		step.Main = text
	default:
		step.Main = ""
	}
	step.Premises = premises
}

// Proofs in which one step is changed, or two steps change places, are no proofs any more, or are by their definition.
func TestChangedProofs(t *testing.T) {
	for at, logic := range sequentLogics() {
		t.Run(logic, func(t *testing.T) {
			t.Parallel()
			seed := uint64(179 + at)
			bad, good := 0, 0
			for _, steps := range sampleProofs(&seed, logic, 150) {
				last := steps[len(steps)-1]
				texts := append(slices.Concat(last.Left, last.Right), "p", "F", "[]p", "r")
				for i := range 12 {
					list := slices.Clone(steps)
					at, other := nextNumber(&seed)%int64(len(list)), nextNumber(&seed)%int64(len(list))
					if i == 0 {
						list[at], list[other] = list[other], list[at]
					} else {
						changeModalStep(&seed, &list[at], texts)
					}
					want := badStep(logic, list)
					expectBadStep(t, logic, list, want)
					if want >= 0 {
						bad++
					} else {
						good++
						expectProof(t, logic, list)
					}
				}
				// What is proved in one logic need not be proved in another one.
				for _, other := range sequentLogics() {
					expectBadStep(t, other, steps, badStep(other, steps))
				}
			}
			if bad < 800 || good < 30 {
				t.Errorf("%d changed samples are bad, %d are not", bad, good)
			}
		})
	}
}

// The steps stand behind those of some proof, and have what is told first of a proof but for one part.
func TestNamedSteps(t *testing.T) {
	before := []impl.ModalStep{
		modalStep(impl.RuleAxiom, "p;p", "p"), modalStep(impl.RuleAxiom, "q;q", "q"), modalStep(impl.RuleAxiom, "p/q;p", "p"), modalStep(impl.RuleAxiom, "p/q;q", "q"), modalStep(impl.RuleAxiom, "p;p/q", "p"), modalStep(impl.RuleFalsity, "F;", ""),
	}
	for text, want := range map[string]bool{
		"13;0;p/q;p;": true, "13;0;p;p;": true, "13;0;p;p/q;": true, "13;0;<>p/p;p/q;": true, "13;2;p;p;": false, "13;2;p/q;p;": true, "13;1;p/q;p;": false, "13;0;q;p;": false, "13;0;p;q;": false, "13;0;p;;": false, "13;0;;p;": false, "13;0;p/q;p;p": false, "13;0;p/q;p;q": false,
		"13;;p/q;p;": false, "13;0,2;p/q;p;": false, "13;0,0;p/q;p;": false, "13;6;p/q;p;": false, "13;7;p/q;p;": false, "13;-1;p/q;p;": false, "13;5;F;;": true, "13;5;F/p;q;": true, "13;4;p;p;": false,
		"3;2;p&q;p;p&q": true, "3;3;p&q;q;p&q": true, "3;3;p&q;p;p&q": false, "3;2;p&q/p;p;p&q": false, "3;2;p/p&q;p;p&q": true, "3;2;p&q/q;p;p&q": true, "3;2;p&q;p;": false, "3;2,2;p&q;p;p&q": false, "3;;p&q;p;p&q": false, "3;0;p&q;p;p&q": false, "4;2;p&q;p;p&q": false, "3;2;p&q;p/q;p&q": false,
		"4;2,3;p/q;p&q;p&q": true, "4;3,2;p/q;p&q;p&q": false, "4;2;p/q;p&q;p&q": false, "4;2,3,3;p/q;p&q;p&q": false, "4;2,2;p/q;p&q;p&q": false, "4;3,3;p/q;p&q;p&q": false, "4;2,3;p/q;p&q;p": false, "4;0,0;p;p&p;p&p": true, "4;0;p;p&p;p&p": false,
		"7;0,0;p/p>p;p;p>p": true, "8;2;q;p>p;p>p": true, "8;0;;p>p;p>p": true, "8;0;p;p>p;p>p": true, "8;1;;p>p;p>p": false, "8;5;;T;T": false, "8;5;;F>F;F>F": false,
		"11;0;[]p;[]p;[]p": true, "11;0;<>p;<>p;<>p": true, "11;0;[]p;[]p;<>p": false, "11;0;[]p;[]p;p": false, "11;2;[]p/[]q;[]p;[]p": true, "11;2;[]q/[]p;[]p;[]p": false, "11;0;[]p/[]q;[]p;[]p": false, "11;0;[]p/q;[]p;[]p": true, "11;0;[]p;[]p;": false, "12;0;[]p;<>p;": false, "9;0;[]p;p;[]p": false, "9;2;[]p;p;[]p": false,
		"14;4,2;p;p;q": true, "14;2,4;p;p;q": false, "14;0,0;p;p;p": true, "14;0,2;p;p;q": false, "14;4,0;p;p;q": false, "14;4;p;p;q": false, "14;4,2,0;p;p;q": false, "14;4,2;p;p;": false, "14;4,2;p;p;(q)": false, "14;4,2;p;p;r": false, "14;4,2;p;p/q;q": false, "14;4,2;p/q;p;q": false,
		"1;;p;p;p": true, "1;;p;p;": false, "1;;p;p;q": false, "1;0;p;p;p": false, "1;;q/p;p;p": false, "1;;p/p;p;p": false, "1;;p/x;p;p": false, "1;;p;p/(q);p": false, "2;;F;;": true, "2;;F;;F": false, "2;5;F;;": false, "2;;p;;": false, "2;;;F;": false, "2;;F;F/p;": true, "0;;p;p;p": false, "15;;p;p;p": false, "-1;;p;p;p": false,
	} {
		parts := strings.Split(text, ";")
		step := impl.ModalStep{Left: sideOf(parts[2]), Right: sideOf(parts[3]), Main: parts[4]}
		step.Rule, _ = strconv.ParseInt(parts[0], 10, 64)
		for _, number := range strings.FieldsFunc(parts[1], func(letter rune) bool { return letter == ',' }) {
			premise, _ := strconv.ParseInt(number, 10, 64)
			step.Premises = append(step.Premises, premise)
		}
		steps, wantBad := append(slices.Clone(before), step), int64(len(before))
		if want {
			wantBad = -1
		}
		for _, more := range [][]impl.ModalStep{steps, append(slices.Clone(steps), modalStep(impl.RuleAxiom, "p;p", "p"))} {
			expectBadStep(t, "K", more, wantBad)
		}
		// A later step that is bad, too, does not count.
		if !want {
			expectBadStep(t, "K", append(slices.Clone(steps), step, modalStep(impl.RuleAxiom, "p;q", "p")), wantBad)
		}
	}
}

// Numbers of premises and rules that do not fit in fewer than 64 bits.
func TestLargeNumbersInSteps(t *testing.T) {
	axiom := modalStep(impl.RuleAxiom, "p;p", "p")
	for _, number := range []int64{1, 2, -1, 60, math.MaxInt64, math.MinInt64, 1 << 32, 1 << 31, -1 << 32, 256} {
		expectBadStep(t, "K", []impl.ModalStep{axiom, modalStep(impl.RuleWeaken, "p;p", "", number)}, 1)
		expectBadStep(t, "K", []impl.ModalStep{axiom, modalStep(impl.RuleCut, "p;p", "p", 0, number)}, 1)
	}
	for _, rule := range []int64{1<<32 + 1, 1<<31 + 1, 257, -255, 1<<62 + 1, math.MinInt64 + 1, math.MaxInt64, math.MinInt64} {
		expectBadStep(t, "K", []impl.ModalStep{modalStep(rule, "p;p", "p")}, 0)
	}
	expectBadStep(t, "K", []impl.ModalStep{modalStep(impl.RuleWeaken, "p;p", "", 0)}, 0)
	expectBadStep(t, "K", []impl.ModalStep{axiom, modalStep(impl.RuleWeaken, "p;p", "", slices.Repeat([]int64{0}, 10000)...)}, 1)
	for _, s := range invalidSequents() {
		step := impl.ModalStep{Rule: impl.RuleWeaken, Premises: []int64{0}, Left: s.Left, Right: s.Right}
		expectBadStep(t, "K", []impl.ModalStep{axiom, step}, 1)
		step.Rule, step.Main, step.Premises = impl.RuleAxiom, "p", nil
		expectBadStep(t, "K", []impl.ModalStep{axiom, step, axiom}, 1)
	}
}

// The texts are those of proofs for some logics, and of none for the others.
func TestProofsOfSomeLogics(t *testing.T) {
	for _, row := range []struct{ logics, text string }{
		{"T S4 S5", "1;;[]p/p;p;p\n9;0;[]p;p;[]p\n"}, {"T S4 S5", "1;;p;<>p/p;p\n10;0;p;<>p;<>p\n"}, {"D", "1;;p;p;p\n12;0;[]p;<>p;\n"}, {"D", "2;;F;;\n12;0;[]F;;\n"},
		{"K D T", "1;;p;p;p\n11;0;[]p;[]p;[]p\n"}, {"K D T", "1;;p;p;p\n11;0;<>p;<>p;<>p\n"}, {"K4 GL", "1;;[]p/p;p;p\n11;0;[]p;[]p;[]p\n"}, {"K4 GL", "1;;p;<>p/p;p\n11;0;<>p;<>p;<>p\n"}, {"S4", "1;;p/q;<>p/p;p\n13;0;p/q;<>p/p/q;\n1;;[]p;[]p;[]p\n11;2;<>p/[]p;[][]p/[]q;[][]p\n"},
		{"S4 S5", "1;;[]p;[]p;[]p\n11;0;[]p;[][]p;[][]p\n"}, {"K4", "1;;[]p/p;[]p;[]p\n11;0;[]p;[][]p;[][]p\n"}, {"GL", "1;;[][]p/[]p/p;[]p;[]p\n11;0;[]p;[][]p;[][]p\n"}, {"K D T K4 S4 GL S5", "1;;p;p;p\n8;0;;p>p;p>p\n"},
		{"GL", "1;;[]([]p>p)/[]p;[]p/p;[]p\n1;;[]([]p>p)/[]p/p;p;p\n7;0,1;[]([]p>p)/[]p/[]p>p;p;[]p>p\n11;2;[]([]p>p);[]p;[]p\n"}, {"S5", "1;;<>p;<>p;<>p\n11;0;<>p;[]<>p;[]<>p\n"},
		{"S5", "1;;<>q/[]p;<>q/[]p/q;[]p\n11;0;<>q/[]p/r;<>q/[]p/[]q/s;[]q\n"}, {"S5", "1;;[]q;[]q/p;[]q\n11;0;[]p/[]q;[]p/[]q;[]p\n"}, {"S5", "1;;<>q/p;<>q;<>q\n11;0;<>p/<>q;<>p/<>q;<>p\n"}, {"", "1;;[]p;[]p/p;[]p\n11;0;[]p/[]q;[]p/[]q;[]p\n"},
	} {
		for _, logic := range sequentLogics() {
			want, isProof := modalProofOf(logic, row.text)
			if isListed := slices.Contains(strings.Fields(row.logics), logic); isListed != isProof {
				t.Errorf("for %s the text %q is of a proof: %v", logic, row.text, isProof)
			}
			got, code := impl.ParseModalProof(logic, row.text)
			if isProof {
				expectModalSteps(t, "ParseModalProof of "+row.text, got, code, want)
				expectProof(t, logic, got)
			} else {
				expectNoModalSteps(t, fmt.Sprintf("ParseModalProof for %s of %q", logic, row.text), got, code, impl.ErrSyntax)
			}
		}
	}
}

// The examples of the chapter, and proofs with steps that are used twice, not at all or by unused steps only.
func TestNamedProofs(t *testing.T) {
	only := []impl.ModalStep{{Rule: impl.RuleAxiom, Left: []string{"p"}, Right: []string{"p"}, Main: "p"}}
	text, code := impl.ModalProofText("K", only)
	expectName(t, "ModalProofText of the example", text, code, "1;;p;p;p\n", impl.ErrNone)
	for _, row := range []struct {
		text, pruned          string
		isCutFree, isAnalytic bool
	}{
		{"1;;p;p;p\n", "1;;p;p;p\n", true, true},
		{"1;;p;p;p\n11;0;[]p;[]p;[]p\n1;;q;q;q\n13;1;[]p/r;[]p;\n", "1;;p;p;p\n11;0;[]p;[]p;[]p\n13;1;[]p/r;[]p;\n", true, false},
		{"1;;p;p;p\n4;0,0;p;p&p;p&p\n", "1;;p;p;p\n4;0,0;p;p&p;p&p\n", true, true},
		{"1;;q;q;q\n1;;p;p;p\n13;0;q/r;q;\n13;2;q/r/s;q;\n", "1;;q;q;q\n13;0;q/r;q;\n13;1;q/r/s;q;\n", true, false},
		{"1;;q;q;q\n13;0;q/r;q;\n13;1;q/r/s;q;\n1;;p;p;p\n", "1;;p;p;p\n", true, false},
		{"1;;p;p;p\n13;0;p;p;\n13;1;p;p;\n13;0;p;p;\n", "1;;p;p;p\n13;0;p;p;\n", true, true},
		{"1;;p;p/q;p\n1;;p/q;p;p\n14;0,1;p;p;q\n", "1;;p;p/q;p\n1;;p/q;p;p\n14;0,1;p;p;q\n", false, false},
		{"1;;p/p>q;p/q;p\n1;;p/p>q/q;q;q\n13;0;p/p>q;p/q;\n14;0,1;p/p>q;p/q;q\n", "", false, false},
		{"1;;p;p;p\n14;0,0;p;p;p\n13;1;p/q;p;\n", "1;;p;p;p\n14;0,0;p;p;p\n13;1;p/q;p;\n", false, true},
		{"1;;p;p;p\n14;0,0;p;p;p\n1;;p;p;p\n", "1;;p;p;p\n", false, true},
		{"1;;F/p;F/p;p\n2;;F;;\n1;;p;p;p\n13;2;p/~p;F/p;\n", "1;;p;p;p\n13;0;p/~p;F/p;\n", true, true},
		{"1;;F;F;F\n1;;p;p;p\n13;1;T/p;p;\n", "1;;p;p;p\n13;0;T/p;p;\n", true, true},
		{"1;;~p;~p;~p\n1;;p;p;p\n11;1;[]p;[]p;[]p\n", "1;;p;p;p\n11;0;[]p;[]p;[]p\n", true, false},
		{"1;;[]p;[]p;[]p\n1;;p;p;p\n13;1;p;[]p&q/p;\n", "1;;p;p;p\n13;0;p;[]p&q/p;\n", true, true},
	} {
		if row.pruned == "" {
			_, isProof := modalProofOf("K", row.text)
			got, code := impl.ParseModalProof("K", row.text)
			if isProof {
				t.Errorf("%q is a proof", row.text)
			}
			expectNoModalSteps(t, "ParseModalProof of "+row.text, got, code, impl.ErrSyntax)
			continue
		}
		steps, code := impl.ParseModalProof("K", row.text)
		if code != impl.ErrNone || modalProofText(steps) != row.text {
			t.Fatalf("ParseModalProof of %q = %q, code %d", row.text, modalProofText(steps), code)
		}
		expectProof(t, "K", steps)
		free, code := impl.IsCutFree("K", steps)
		expectBool(t, "IsCutFree of "+row.text, free, code, row.isCutFree)
		analytic, code := impl.IsAnalytic("K", steps)
		expectBool(t, "IsAnalytic of "+row.text, analytic, code, row.isAnalytic)
		pruned, code := impl.PruneProof("K", steps)
		if code != impl.ErrNone || modalProofText(pruned) != row.pruned {
			t.Errorf("PruneProof of %q = %q, code %d, want %q", row.text, modalProofText(pruned), code, row.pruned)
		}
	}
}

// expectParsedProof expects what modalProofOf finds, and tells whether this is a proof.
func expectParsedProof(t *testing.T, logic, text string) bool {
	t.Helper()
	want, isProof := modalProofOf(logic, text)
	got, code := impl.ParseModalProof(logic, text)
	if isProof {
		expectModalSteps(t, fmt.Sprintf("ParseModalProof for %s of %q", logic, text), got, code, want)
	} else {
		expectNoModalSteps(t, fmt.Sprintf("ParseModalProof for %s of %q", logic, text), got, code, impl.ErrSyntax)
	}
	return isProof
}

// Texts that stop early, lack a newline, have more parts or other ones, or numbers that are written otherwise.
func TestTextsOfNoProof(t *testing.T) {
	axiom := "1;;p;p;p\n"
	texts := []string{
		"", "\n", ";;;;\n", "1\n", "1;\n", "1;;\n", "1;;p\n", "1;;p;p\n", "1;;p;p;\n", "1;;p;p;p", "1;;p;p;p;\n", "1;;p;p;p;p\n", "1;;p;p;p\n\n", "\n1;;p;p;p\n", "1;;p;p;p\r\n", "1;;p;p;p \n", " 1;;p;p;p\n", "1 ;;p;p;p\n", "1; ;p;p;p\n", "1;; p;p;p\n",
		"01;;p;p;p\n", "+1;;p;p;p\n", "-1;;p;p;p\n", "001;;p;p;p\n", "1.0;;p;p;p\n", "0x1;;p;p;p\n", "1e0;;p;p;p\n", "1_;;p;p;p\n", "one;;p;p;p\n", ";;p;p;p\n", "0;;p;p;p\n", "15;;p;p;p\n", "18446744073709551617;;p;p;p\n", "4294967297;;p;p;p\n", "99999999999999999999999999;;p;p;p\n", "9223372036854775808;;p;p;p\n",
		"1;0;p;p;p\n", "1;,;p;p;p\n", "1;;(p);p;p\n", "1;;p;(p);p\n", "1;;p;p;(p)\n", "1;;p,q;p;p\n", "1;;p/;p;p\n", "1;;/p;p;p\n", "1;;p//q;p;p\n", "1;;q/p;p;p\n", "1;;p/p;p;p\n", "1;;p>F;p>F;p>F\n", "1;;F>F;F>F;F>F\n", "1;;x;x;x\n", "2;;F;;F\n", "2;;F;\n", "1:;p;p;p\n", "1;;p;p;q\n", "13;0;p;p;\n",
		strings.Repeat("\n", 100), strings.Repeat(";", 1000), strings.Repeat(axiom, 61), strings.Repeat(axiom, 1000), axiom + strings.Repeat("x", 100000), "1;" + strings.Repeat("0,", 50000) + ";p;p;p\n", strings.Repeat("1;;p;p;p", 3), "\x00", "\xff\n", axiom + "\x00",
	}
	for _, line := range []string{
		"13;0;p/q;p;", "13;00;p/q;p;\n", "13;+0;p/q;p;\n", "13;-0;p/q;p;\n", "13;0,;p/q;p;\n", "13;,0;p/q;p;\n", "13;0 ;p/q;p;\n", "13;1;p/q;p;\n", "13;2;p/q;p;\n", "13;-1;p/q;p;\n", "13;;p/q;p;\n", "13;0,0;p/q;p;\n", "13;18446744073709551616;p/q;p;\n", "13;4294967296;p/q;p;\n", "13;60;p/q;p;\n", "13;0;p/q;p\n", "13;0;p/q;p;;\n", "13;0;p/q;p;p\n", "13.0;0;p/q;p;\n", "14;0,,0;p;p;p\n", "14;0;0;p;p;p\n", "14;0/0;p;p;p\n", "14;0,01;p;p;p\n", "4;0,0;p;p&p;p&p\n\n", "4;0,0\n;p;p&p;p&p\n", "11;0;[]p;[]p;[]p\n;", "11;0;[]p;[]p;[]p\n1",
	} {
		texts = append(texts, axiom+line)
	}
	for _, text := range texts {
		for _, logic := range []string{"K", "S5"} {
			if expectParsedProof(t, logic, text) {
				t.Errorf("%q is the text of a proof", text)
			}
		}
	}
	for _, text := range []string{axiom, strings.Repeat(axiom, 2), strings.Repeat(axiom, 60), axiom + "13;0;p/q;p;\n", axiom + "14;0,0;p;p;p\n", "1;;p/q;p;p\n", "2;;F;;\n", "1;;F;F;F\n", "1;;T;T;T\n", "1;;~p;~p;~p\n", axiom + "8;0;;p>p;p>p\n"} {
		if !expectParsedProof(t, "K", text) {
			t.Errorf("%q is not the text of a proof", text)
		}
	}
}

// Two numbers of two digits in one line.
func TestNumbersOfTwoDigitsInTexts(t *testing.T) {
	steps := longProof("p;p/q", 58)
	steps = append(steps, modalStep(impl.RuleAxiom, "p/q;p", "p"), modalStep(impl.RuleCut, "p;p", "q", 57, 58))
	text := modalProofText(steps)
	if !strings.HasSuffix(text, "14;57,58;p;p;q\n") || !expectParsedProof(t, "GL", text) {
		t.Errorf("%q", text)
	}
	expectProof(t, "GL", steps)
}

// Texts of proofs in which some bytes are changed.
func TestParseModalProofOfChangedTexts(t *testing.T) {
	letters := "0123;,/\npqFT~[]<>&|>() +-1"
	for at, logic := range sequentLogics() {
		t.Run(logic, func(t *testing.T) {
			t.Parallel()
			seed := uint64(181 + at)
			proofs := 0
			for _, steps := range sampleProofs(&seed, logic, 100) {
				for range 25 {
					text := modalProofText(steps)
					for range 1 + nextNumber(&seed)%2 {
						from := nextNumber(&seed) % int64(len(text)+1)
						to := min(from+nextNumber(&seed)%3, int64(len(text)))
						letter := string(letters[nextNumber(&seed)%int64(len(letters))])
						if nextNumber(&seed)%4 == 0 {
							letter = ""
						}
						text = text[:from] + letter + text[to:]
					}
					if expectParsedProof(t, logic, text) {
						proofs++
					}
				}
			}
			if proofs < 10 || proofs > 1500 {
				t.Errorf("%d changed texts are those of proofs", proofs)
			}
		})
	}
}

// A text that names no logic with sequents stands ahead of all other errors.
func TestNamesOfNoSequentLogic(t *testing.T) {
	bad := modalStep(impl.RuleAxiom, "p;q", "p")
	for _, name := range noSequentLogics() {
		for _, s := range append(invalidSequents()[:40], seq("p;p"), seq(mixed), impl.ModalSequent{Left: manyTexts(17)}) {
			for _, main := range []string{"p", "", "x"} {
				expectNoRule(t, []string{name}, impl.RuleAxiom, s, main, impl.ErrRange)
				expectNoRule(t, []string{name}, manyRule, s, main, impl.ErrRange)
			}
		}
		for _, steps := range [][]impl.ModalStep{nil, {bad}, longProof("p;p", 1), longProof("p;p", 60), longProof("p;p", 61), slices.Repeat([]impl.ModalStep{bad}, 61), {{}}} {
			expectProofErrors(t, name, steps, impl.ErrRange)
			got, code := impl.CutProofs(name, steps, steps, "")
			expectNoModalSteps(t, "CutProofs for "+name, got, code, impl.ErrRange)
			got, code = impl.ParseModalProof(name, modalProofText(steps))
			expectNoModalSteps(t, "ParseModalProof for "+name, got, code, impl.ErrRange)
		}
		got, code := impl.ParseModalProof(name, "x")
		expectNoModalSteps(t, "ParseModalProof for "+name, got, code, impl.ErrRange)
	}
}

// What is not a modal sequent stands ahead of rules that do not fit and of premises that are too large.
func TestErrorsOfModalSequents(t *testing.T) {
	for _, s := range invalidSequents() {
		a, code := impl.SequentFormula(s)
		expectNoNodes(t, fmt.Sprintf("SequentFormula of %q", s), a, code, impl.ErrInvalid)
		for _, main := range []string{"p", "", "x", "[]p"} {
			for _, rule := range []int64{impl.RuleAxiom, impl.RuleFalsity, impl.RuleModal, impl.RuleWeaken, impl.RuleCut, 0, manyRule} {
				expectNoRule(t, []string{"K", "S5"}, rule, s, main, impl.ErrInvalid)
			}
		}
	}
}

// Numbers of steps stand ahead of steps that are not correct, in both proofs of a cut, and these ahead of proofs that do
// not fit and of a cut with too many steps.
func TestErrorsOfProofs(t *testing.T) {
	good, long, none := longProof("p;p/q", 1), longProof("p;p/q", 60), []impl.ModalStep(nil)
	bad := []impl.ModalStep{modalStep(impl.RuleAxiom, "p;q", "p")}
	tooMany, badMany := longProof("p;p/q", 61), slices.Repeat(bad, 61)
	badLast := append(longProof("p;p/q", 59), bad...)
	invalid := []impl.ModalStep{modalStep(impl.RuleAxiom, "(p);(p)", "(p)")}
	for _, row := range []struct {
		p, q []impl.ModalStep
		want int64
	}{
		{none, bad, impl.ErrLimit}, {bad, none, impl.ErrLimit}, {tooMany, bad, impl.ErrLimit}, {bad, tooMany, impl.ErrLimit}, {badMany, good, impl.ErrLimit}, {good, badMany, impl.ErrLimit}, {none, none, impl.ErrLimit}, {tooMany, none, impl.ErrLimit}, {invalid, none, impl.ErrLimit}, {none, invalid, impl.ErrLimit},
		{bad, good, impl.ErrState}, {good, bad, impl.ErrState}, {long, bad, impl.ErrState}, {badLast, long, impl.ErrState}, {long, badLast, impl.ErrState}, {invalid, good, impl.ErrState}, {good, invalid, impl.ErrState}, {badLast, badLast, impl.ErrState},
		{good, good, impl.ErrNotFound}, {long, long, impl.ErrNotFound}, {long, longProof("p/q;p", 60), impl.ErrLimit},
	} {
		expectCut(t, "T", row.p, row.q, "q", nil, row.want)
		if row.want != impl.ErrNotFound && len(row.p)+len(row.q) < 120 {
			expectCut(t, "T", row.p, row.q, "(q)", nil, row.want)
			expectCut(t, "T", row.p, row.q, "", nil, row.want)
		}
	}
	expectBadStep(t, "T", bad, 0)
	expectBadStep(t, "T", badLast, 59)
	expectBadStep(t, "T", invalid, 0)
	expectBadStep(t, "T", []impl.ModalStep{{}}, 0)
	expectProofErrors(t, "T", badMany, impl.ErrLimit)
	for _, logic := range sequentLogics() {
		expectBadStep(t, logic, append(longProof("p;p/q", 1), bad...), 1)
	}
}

func expectOwnSequents(t *testing.T, what string, sequents ...impl.ModalSequent) {
	t.Helper()
	for _, s := range sequents {
		expectOwnNames(t, what, s.Left)
		expectOwnNames(t, what, s.Right)
	}
}

func expectOwnModalSteps(t *testing.T, what string, steps []impl.ModalStep) {
	t.Helper()
	if slices.ContainsFunc(steps, func(step impl.ModalStep) bool { return step.Rule == -9 }) {
		t.Errorf("%s: %v", what, steps)
	}
	for i, step := range steps {
		expectOwnSequents(t, what, sequentIn(step))
		expectOwnNumbers(t, what, [][]int64{step.Premises})
		steps[i].Rule = -9
	}
}

// No function changes an argument or the capacity behind it, and no result shares memory with an argument, within itself
// or with a later result.
func TestModalProofsAreNeitherChangedNorShared(t *testing.T) {
	spare := slices.Repeat([]string{"spare"}, 30)
	loose := func(texts []string) []string { return append(slices.Clone(texts), spare...)[:len(texts)] }
	s := seq("<>p/[]q/p&q/p>q/p|q/r;<>q/[]p/p&q/p>q/p|q/r")
	s.Left, s.Right = loose(s.Left), loose(s.Right)
	proofs := [][]impl.ModalStep{nil, nil}
	for i, text := range []string{"1;;p;p/q/r;p\n13;0;p/s;p/q/r;\n1;;t;t;t\n14;0,0;p;p/q/r;p\n13;3;p;p/q/r;\n", "1;;p/q;p/r;p\n4;0,0;p/q;p&p/r;p&p\n13;0;p/q;p/r;\n"} {
		steps, code := impl.ParseModalProof("T", text)
		if code != impl.ErrNone {
			t.Fatalf("ParseModalProof of %q: code %d", text, code)
		}
		for k, step := range steps {
			steps[k].Left, steps[k].Right = loose(step.Left), loose(step.Right)
			steps[k].Premises = append(slices.Clone(step.Premises), slices.Repeat([]int64{-7}, 9)...)[:len(step.Premises)]
		}
		proofs[i] = append(steps, slices.Repeat([]impl.ModalStep{{Rule: -7}}, 70)...)[:len(steps)]
	}
	seen := func() string {
		text := fmt.Sprint(s.Left[:cap(s.Left)], s.Right[:cap(s.Right)])
		for _, steps := range proofs {
			text += fmt.Sprint(steps[:cap(steps)])
			for _, step := range steps {
				text += fmt.Sprint(step.Left[:cap(step.Left)], step.Right[:cap(step.Right)], step.Premises[:cap(step.Premises)])
			}
		}
		return text
	}
	before := seen()
	for range 2 {
		for _, logic := range sequentLogics() {
			for rule := int64(impl.RuleAxiom); rule <= lastRule; rule++ {
				for _, main := range append(slices.Concat(s.Left, s.Right), "", "~p") {
					premises, _ := impl.RulePremises(logic, rule, s, main)
					expectOwnSequents(t, "RulePremises", premises...)
				}
			}
		}
		a, _ := impl.SequentFormula(s)
		expectOwnMemory(t, "SequentFormula", [][]impl.Node{a})
		impl.IsModalSequent(s)
		for _, steps := range proofs {
			impl.FirstBadModalStep("T", steps)
			impl.IsCutFree("T", steps)
			impl.IsAnalytic("T", steps)
			text, _ := impl.ModalProofText("T", steps)
			parsed, _ := impl.ParseModalProof("T", text)
			expectOwnModalSteps(t, "ParseModalProof", parsed)
			last, _ := impl.ModalConclusion("T", steps)
			expectOwnSequents(t, "ModalConclusion", last)
			pruned, _ := impl.PruneProof("T", steps)
			expectOwnModalSteps(t, "PruneProof", pruned)
		}
		joined, code := impl.CutProofs("T", proofs[0], proofs[1], "q")
		if code != impl.ErrNone || len(joined) != 9 {
			t.Errorf("CutProofs has %d steps, code %d", len(joined), code)
		}
		expectOwnModalSteps(t, "CutProofs", joined)
		if seen() != before {
			t.Fatalf("an argument was changed: %s", seen())
		}
	}
}
