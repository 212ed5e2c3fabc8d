package tests

import (
	"fmt"
	"math"
	"slices"
	"strings"
	"testing"

	"loop.example/g01089/impl"
)

// A tree is a formula as a tree; the tests know from it what the program has to find in lists.
type tree struct {
	node  impl.Node
	parts []tree
}

var treeAtoms = []tree{atomTree(impl.KindVariable, 0), atomTree(impl.KindVariable, 5), atomTree(impl.KindFalse, 0)}

func atomTree(kind, symbol int64) tree { return tree{node: impl.Node{Kind: kind, Symbol: symbol}} }

func joinTrees(kind int64, parts ...tree) tree {
	return tree{node: impl.Node{Kind: kind}, parts: parts}
}

func (x tree) nodes() []impl.Node {
	list := []impl.Node{x.node}
	for _, part := range x.parts {
		list = append(list, part.nodes()...)
	}
	return list
}

// all returns the tree and all trees in it, in the order of their nodes.
func (x tree) all() []tree {
	list := []tree{x}
	for _, part := range x.parts {
		list = append(list, part.all()...)
	}
	return list
}

// branches returns, for each way from the root to a node without parts, the kinds on it.
func (x tree) branches() [][]int64 {
	if len(x.parts) == 0 {
		return [][]int64{{x.node.Kind}}
	}
	var ways [][]int64
	for _, part := range x.parts {
		for _, way := range part.branches() {
			ways = append(ways, append([]int64{x.node.Kind}, way...))
		}
	}
	return ways
}

func (x tree) isNegation() bool {
	return x.node.Kind == impl.KindImply && x.parts[1].node.Kind == impl.KindFalse
}

// treesUpTo returns all trees of at most size nodes over treeAtoms, by their numbers of nodes.
func treesUpTo(size int) [][]tree {
	bySize := [][]tree{nil, treeAtoms}
	for n := 2; n <= size; n++ {
		var trees []tree
		for _, part := range bySize[n-1] {
			trees = append(trees, joinTrees(impl.KindBox, part), joinTrees(impl.KindDiamond, part))
		}
		for k := 1; k < n-1; k++ {
			for _, first := range bySize[k] {
				for _, second := range bySize[n-1-k] {
					for _, kind := range []int64{impl.KindAnd, impl.KindOr, impl.KindImply} {
						trees = append(trees, joinTrees(kind, first, second))
					}
				}
			}
		}
		bySize = append(bySize, trees)
	}
	return bySize
}

// irregularTree returns a tree of size nodes without visible order.
func irregularTree(seed *uint64, size int64) tree {
	choice := nextNumber(seed)
	switch {
	case size == 1 && choice%3 == 0:
		return atomTree(impl.KindFalse, 0)
	case size == 1:
		return atomTree(impl.KindVariable, nextNumber(seed)%impl.MaxVariables)
	case size == 2 || choice%4 == 0:
		return joinTrees(impl.KindBox+nextNumber(seed)%2, irregularTree(seed, size-1))
	}
	first := 1 + nextNumber(seed)%(size-2)
	if choice%3 == 0 {
		first = size - 2
	}
	return joinTrees(impl.KindAnd+nextNumber(seed)%3, irregularTree(seed, first), irregularTree(seed, size-1-first))
}

// sampleTrees returns all trees of at most 5 nodes, and some of each size up to MaxNodes.
func sampleTrees() []tree {
	samples := slices.Concat(treesUpTo(5)...)
	seed := uint64(3)
	for size := int64(6); size <= impl.MaxNodes; size++ {
		for range 40 {
			samples = append(samples, irregularTree(&seed, size))
		}
	}
	return samples
}

// A grammar finds what texts stand for by trying each place at which a rule may part them. The
// symbols are i for imply, o for or, a for and, p for prefix and m for atom.
type grammar map[string][][]impl.Node

func (g grammar) readings(symbol byte, text string) [][]impl.Node {
	key := string(symbol) + text
	if found, ok := g[key]; ok {
		return found
	}
	var found [][]impl.Node
	switch symbol {
	case 'i':
		found = append(g.linked(text, '>', impl.KindImply, 'o', 'i'), g.readings('o', text)...)
	case 'o':
		found = append(g.linked(text, '|', impl.KindOr, 'o', 'a'), g.readings('a', text)...)
	case 'a':
		found = append(g.linked(text, '&', impl.KindAnd, 'a', 'p'), g.readings('p', text)...)
	case 'p':
		found = g.prefixes(text)
	case 'm':
		found = g.atoms(text)
	}
	g[key] = found
	return found
}

func (g grammar) linked(text string, link byte, kind int64, left, right byte) [][]impl.Node {
	var found [][]impl.Node
	for at := range len(text) {
		if text[at] != link {
			continue
		}
		for _, first := range g.readings(left, text[:at]) {
			for _, second := range g.readings(right, text[at+1:]) {
				found = append(found, slices.Concat([]impl.Node{{Kind: kind}}, first, second))
			}
		}
	}
	return found
}

func (g grammar) prefixes(text string) [][]impl.Node {
	found := slices.Clone(g.readings('m', text))
	add := func(sign string, before, behind []impl.Node) {
		rest, ok := strings.CutPrefix(text, sign)
		if !ok {
			return
		}
		for _, part := range g.readings('p', rest) {
			found = append(found, slices.Concat(before, part, behind))
		}
	}
	add("~", []impl.Node{{Kind: impl.KindImply}}, []impl.Node{{Kind: impl.KindFalse}})
	add("[]", []impl.Node{{Kind: impl.KindBox}}, nil)
	add("<>", []impl.Node{{Kind: impl.KindDiamond}}, nil)
	return found
}

func (g grammar) atoms(text string) [][]impl.Node {
	switch text {
	case "p", "q", "r", "s", "t", "u":
		return [][]impl.Node{{{Kind: impl.KindVariable, Symbol: int64(text[0] - 'p')}}}
	case "F":
		return [][]impl.Node{{{Kind: impl.KindFalse}}}
	case "T":
		return [][]impl.Node{{{Kind: impl.KindImply}, {Kind: impl.KindFalse}, {Kind: impl.KindFalse}}}
	}
	if len(text) >= 2 && text[0] == '(' && text[len(text)-1] == ')' {
		return g.readings('i', text[1:len(text)-1])
	}
	return nil
}

// mayBegin tells whether a text of the grammar begins so: if there is one, the sign that has
// been begun, a variable and parentheses are enough to complete the text.
func (g grammar) mayBegin(text string) bool {
	for _, sign := range []string{"", "]", ">"} {
		for _, part := range []string{"", "p"} {
			for closing := range strings.Count(text, "(") + 1 {
				if len(g.readings('i', text+sign+part+strings.Repeat(")", closing))) > 0 {
					return true
				}
			}
		}
	}
	return false
}

func mustParse(t *testing.T, text string) []impl.Node {
	t.Helper()
	a, at, code := impl.ParseFormula(text)
	if at != 0 || code != impl.ErrNone {
		t.Fatalf("ParseFormula(%q) = %v, %d, code %d", text, a, at, code)
	}
	return a
}

func mustText(t *testing.T, a []impl.Node) string {
	t.Helper()
	text, code := impl.FormulaText(a)
	if code != impl.ErrNone {
		t.Fatalf("FormulaText(%v): code %d", a, code)
	}
	return text
}

func expectNodes(t *testing.T, what string, got []impl.Node, code int64, want []impl.Node) {
	t.Helper()
	if !slices.Equal(got, want) || code != impl.ErrNone {
		t.Errorf("%s = %v, code %d, want %v", what, got, code, want)
	}
}

func expectNoNodes(t *testing.T, what string, got []impl.Node, code, want int64) {
	t.Helper()
	if len(got) != 0 || code != want {
		t.Errorf("%s = %v, code %d, want code %d", what, got, code, want)
	}
}

func expectParseError(t *testing.T, text string, wantAt, wantCode int64) {
	t.Helper()
	if a, at, code := impl.ParseFormula(text); len(a) != 0 || at != wantAt || code != wantCode {
		t.Errorf("ParseFormula(%q) = %v, %d, code %d, want %d, code %d", text, a, at, code, wantAt, wantCode)
	}
}

// invalidLists returns lists that are not formulas.
func invalidLists() [][]impl.Node {
	p, f := impl.Node{Kind: impl.KindVariable}, impl.Node{Kind: impl.KindFalse}
	and, imply, box := impl.Node{Kind: impl.KindAnd}, impl.Node{Kind: impl.KindImply}, impl.Node{Kind: impl.KindBox}
	lists := [][]impl.Node{
		nil, {}, {box}, {and}, {and, p}, {imply, f}, {imply, p, box}, {and, and, p, p},
		{p, p}, {f, p}, {p, box}, {box, p, p}, {and, p, p, p}, {p, and, p}, {box, p, and},
		append(slices.Repeat([]impl.Node{box}, impl.MaxNodes), p),
		slices.Concat(slices.Repeat([]impl.Node{and}, 20), slices.Repeat([]impl.Node{p}, 21)),
		slices.Repeat([]impl.Node{box}, impl.MaxNodes),
		slices.Repeat([]impl.Node{p}, 1000),
	}
	for _, kind := range []int64{-1, 7, 8, math.MinInt64, math.MaxInt64, 1 << 32, 1<<32 + impl.KindFalse} {
		lists = append(lists, []impl.Node{{Kind: kind}}, []impl.Node{box, {Kind: kind}}, []impl.Node{{Kind: kind}, p})
	}
	for _, symbol := range []int64{-1, impl.MaxVariables, math.MinInt64, math.MaxInt64, 1 << 32} {
		lists = append(lists, []impl.Node{{Kind: impl.KindVariable, Symbol: symbol}})
	}
	for _, symbol := range []int64{-1, 1, 5, math.MinInt64, math.MaxInt64, 1 << 32} {
		lists = append(lists, []impl.Node{{Kind: impl.KindFalse, Symbol: symbol}})
		for _, kind := range []int64{impl.KindBox, impl.KindDiamond} {
			lists = append(lists, []impl.Node{{Kind: kind, Symbol: symbol}, p})
		}
		for _, kind := range []int64{impl.KindAnd, impl.KindOr, impl.KindImply} {
			lists = append(lists, []impl.Node{{Kind: kind, Symbol: symbol}, p, p})
		}
	}
	return lists
}

func TestFormulaConstants(t *testing.T) {
	kinds := []int64{impl.KindVariable, impl.KindFalse, impl.KindAnd, impl.KindOr, impl.KindImply, impl.KindBox, impl.KindDiamond}
	expectList(t, "kinds", kinds, impl.ErrNone, 0, 1, 2, 3, 4, 5, 6)
	limits := []int64{impl.MaxNodes, impl.MaxVariables, impl.MaxText}
	expectList(t, "limits", limits, impl.ErrNone, 40, 6, 200)
}

// Among all lists of at most 4 nodes of some kinds and symbols, the formulas are those that
// come from trees.
func TestIsFormulaByTrees(t *testing.T) {
	formulas := map[string]bool{}
	for _, x := range slices.Concat(treesUpTo(4)...) {
		formulas[fmt.Sprint(x.nodes())] = true
	}
	choices := []impl.Node{
		{Kind: -1}, {}, {Symbol: 5}, {Symbol: 6}, {Symbol: -1}, {Kind: 1}, {Kind: 1, Symbol: 1}, {Kind: 2},
		{Kind: 2, Symbol: 1}, {Kind: 3}, {Kind: 4}, {Kind: 5}, {Kind: 6}, {Kind: 6, Symbol: 1}, {Kind: 7},
	}
	found := 0
	var check func(list []impl.Node, more int)
	check = func(list []impl.Node, more int) {
		want := formulas[fmt.Sprint(list)]
		if got := impl.IsFormula(list); got != want {
			t.Errorf("IsFormula(%v) = %v", list, got)
		}
		if want {
			found++
		}
		if more == 0 {
			return
		}
		for _, node := range choices {
			check(append(slices.Clone(list), node), more-1)
		}
	}
	check(nil, 4)
	if found != len(formulas) {
		t.Errorf("%d of %d formulas are among the lists", found, len(formulas))
	}
}

func TestIsFormula(t *testing.T) {
	for _, x := range sampleTrees() {
		list := x.nodes()
		if !impl.IsFormula(list) {
			t.Errorf("IsFormula(%v) is false", list)
		}
		if len(list) > 1 && impl.IsFormula(list[:len(list)-1]) || impl.IsFormula(append(list, impl.Node{})) {
			t.Errorf("IsFormula is true of the list %v with a node less or more", list)
		}
	}
	for _, list := range invalidLists() {
		if impl.IsFormula(list) {
			t.Errorf("IsFormula(%v) is true", list)
		}
	}
}

// A formula may have one node and MaxNodes nodes, but not one more.
func TestFormulaSizes(t *testing.T) {
	p, box := impl.Node{}, impl.Node{Kind: impl.KindBox}
	single := []impl.Node{p}
	longest := append(slices.Repeat([]impl.Node{box}, 39), p)
	for _, a := range [][]impl.Node{single, longest} {
		expectNodes(t, "ParseFormula of the text", mustParse(t, mustText(t, a)), impl.ErrNone, a)
	}
	if text := mustText(t, longest); text != strings.Repeat("[]", 39)+"p" {
		t.Errorf("FormulaText of %d nodes = %q", impl.MaxNodes, text)
	}
	if impl.IsFormula(append([]impl.Node{box}, longest...)) {
		t.Errorf("IsFormula is true of %d nodes", impl.MaxNodes+1)
	}
}

func TestFormulaTexts(t *testing.T) {
	v, f := atomTree(impl.KindVariable, 0), atomTree(impl.KindFalse, 0)
	q, r := atomTree(impl.KindVariable, 1), atomTree(impl.KindVariable, 2)
	and := func(x, y tree) tree { return joinTrees(impl.KindAnd, x, y) }
	or := func(x, y tree) tree { return joinTrees(impl.KindOr, x, y) }
	imply := func(x, y tree) tree { return joinTrees(impl.KindImply, x, y) }
	not := func(x tree) tree { return imply(x, f) }
	box := func(x tree) tree { return joinTrees(impl.KindBox, x) }
	diamond := func(x tree) tree { return joinTrees(impl.KindDiamond, x) }
	truth := not(f)
	for _, c := range []struct {
		x    tree
		want string
	}{
		{not(and(v, q)), "~(p&q)"}, {f, "F"}, {truth, "T"}, {not(truth), "~T"}, {not(not(truth)), "~~T"},
		{imply(truth, f), "~T"}, {imply(f, v), "F>p"}, {imply(f, truth), "F>T"}, {imply(v, truth), "p>T"},
		{and(and(v, q), r), "p&q&r"}, {and(v, and(q, r)), "p&(q&r)"}, {or(or(v, q), r), "p|q|r"},
		{or(v, or(q, r)), "p|(q|r)"}, {imply(v, imply(q, r)), "p>q>r"}, {imply(imply(v, q), r), "(p>q)>r"},
		{and(or(v, q), r), "(p|q)&r"}, {or(and(v, q), r), "p&q|r"}, {and(v, or(q, r)), "p&(q|r)"},
		{or(v, and(q, r)), "p|q&r"}, {imply(or(v, q), and(q, r)), "p|q>q&r"}, {or(imply(v, q), r), "(p>q)|r"},
		{or(r, imply(v, q)), "r|(p>q)"}, {and(r, imply(v, q)), "r&(p>q)"}, {and(not(v), not(q)), "~p&~q"},
		{and(truth, truth), "T&T"}, {box(truth), "[]T"}, {box(f), "[]F"}, {not(box(v)), "~[]p"}, {box(not(v)), "[]~p"},
		{diamond(box(v)), "<>[]p"}, {diamond(or(v, q)), "<>(p|q)"}, {or(diamond(v), q), "<>p|q"},
		{imply(v, diamond(q)), "p><>q"}, {diamond(imply(v, q)), "<>(p>q)"}, {not(imply(v, q)), "~(p>q)"},
		{imply(not(v), q), "~p>q"}, {imply(v, not(q)), "p>~q"}, {not(not(v)), "~~p"}, {imply(imply(v, f), f), "~~p"},
	} {
		if text := mustText(t, c.x.nodes()); text != c.want {
			t.Errorf("FormulaText(%v) = %q, want %q", c.x.nodes(), text, c.want)
		}
	}
	for letter := range int64(impl.MaxVariables) {
		if text := mustText(t, []impl.Node{{Symbol: letter}}); text != "pqrstu"[letter:letter+1] {
			t.Errorf("FormulaText of the variable %d = %q", letter, text)
		}
	}
}

// P2: the text of each formula is parsed to it, and no two formulas have one text.
func TestTextsDetermineFormulas(t *testing.T) {
	formulas := map[string][]impl.Node{}
	seed := uint64(5)
	samples := slices.Concat(treesUpTo(6)...)
	for range 3000 {
		samples = append(samples, irregularTree(&seed, 1+nextNumber(&seed)%impl.MaxNodes))
	}
	for _, x := range samples {
		a := x.nodes()
		text := mustText(t, a)
		expectNodes(t, "ParseFormula of "+text, mustParse(t, text), impl.ErrNone, a)
		if other, ok := formulas[text]; ok && !slices.Equal(other, a) {
			t.Fatalf("%q is the text of %v and of %v", text, a, other)
		}
		formulas[text] = a
	}
}

// The text is one by the grammar, has ~ and T exactly where the chapter says, and no pair of
// parentheses in it could be left out.
func TestTextsFollowTheGrammar(t *testing.T) {
	g := grammar{}
	for _, x := range slices.Concat(treesUpTo(6)...) {
		a := x.nodes()
		text := mustText(t, a)
		if found := g.readings('i', text); len(found) != 1 || !slices.Equal(found[0], a) {
			t.Fatalf("FormulaText(%v) = %q, which stands for %v", a, text, found)
		}
		negations := 0
		for _, part := range x.all() {
			if part.isNegation() {
				negations++
			}
		}
		if strings.Count(text, "~")+strings.Count(text, "T") != negations || strings.Contains(text, "~F") {
			t.Fatalf("FormulaText(%v) = %q", a, text)
		}
		for open := range len(text) {
			if text[open] != '(' {
				continue
			}
			bare := withoutPair(text, open)
			if found := g.readings('i', bare); len(found) > 0 && slices.Equal(found[0], a) {
				t.Fatalf("FormulaText(%v) = %q, but %q is enough", a, text, bare)
			}
		}
	}
}

// withoutPair returns a text without the parenthesis at open and the one that closes it.
func withoutPair(text string, open int) string {
	for i, depth := open, 0; ; i++ {
		switch text[i] {
		case '(':
			depth++
		case ')':
			depth--
		}
		if depth == 0 {
			return text[:open] + text[open+1:i] + text[i+1:]
		}
	}
}

func TestParseFormula(t *testing.T) {
	for _, c := range [][2]string{
		{"T", "T"}, {"~F", "T"}, {"F>F", "T"}, {"(F)>(F)", "T"}, {"p>F", "~p"}, {"((p))", "p"}, {"(p&q)&r", "p&q&r"},
		{"p|(q&r)", "p|q&r"}, {"p>(q>r)", "p>q>r"}, {"(~p)", "~p"}, {"~(p)", "~p"}, {"[](p)", "[]p"}, {"~~F", "~T"},
		{"(~F)&T", "T&T"}, {"p>q>F", "p>~q"}, {"(p>q)>F", "~(p>q)"}, {"T>F", "~T"}, {"[](T)", "[]T"}, {"<>((T))", "<>T"},
		{"p><>q", "p><>q"}, {"(((p)>(q)))", "p>q"}, {"[](<>(~(u)))", "[]<>~u"}, {"(p>q)|((r))", "(p>q)|r"}, {"~p>q", "~p>q"},
		{"p&q|r>s", "p&q|r>s"}, {"p>q|r&s", "p>q|r&s"}, {"((p&q)|r)>s", "p&q|r>s"}, {"p&q&r|s|t>u", "p&q&r|s|t>u"},
	} {
		if text := mustText(t, mustParse(t, c[0])); text != c[1] {
			t.Errorf("the text of %q is %q, want %q", c[0], text, c[1])
		}
	}
	not := []impl.Node{{Kind: impl.KindImply}, {}, {Kind: impl.KindFalse}}
	expectNodes(t, "ParseFormula of ~p", mustParse(t, "~p"), impl.ErrNone, not)
	expectNodes(t, "ParseFormula of u", mustParse(t, "u"), impl.ErrNone, []impl.Node{{Symbol: 5}})
}

func TestParseFormulaSyntax(t *testing.T) {
	for _, c := range []struct {
		text string
		at   int64
	}{
		{"p>(q", 4}, {"p&&q", 2}, {"", 0}, {" ", 0}, {" p", 0}, {"p ", 1}, {"p q", 1}, {"pq", 1}, {"p\n", 1}, {"\x00", 0}, {"p\x00", 1},
		{"[", 1}, {"[p", 1}, {"[[", 1}, {"[]", 2}, {"]", 0}, {"<", 1}, {"<p", 1}, {"<<", 1}, {"<>", 2}, {"<]p", 1}, {"[>p", 1}, {">", 0},
		{"p<>q", 1}, {"p[]q", 1}, {"p~", 1}, {"p~q", 1}, {"~", 1}, {"~~", 2}, {"~>", 1}, {"()", 1}, {"(", 1}, {")", 0}, {"p)", 1},
		{"(p))", 3}, {"((p)", 4}, {"(p", 2}, {"(p&", 3}, {"p(q)", 1}, {"(p)(q)", 3}, {"(p)q", 3}, {"pT", 1}, {"TF", 1}, {"FT", 1},
		{"&p", 0}, {"|p", 0}, {"p&", 2}, {"p|", 2}, {"p>", 2}, {"p>>q", 2}, {"p&|q", 2}, {"p|)", 2}, {"(p>)", 3}, {"(p|q>)", 5},
		{"v", 0}, {"o", 0}, {"P", 0}, {"f", 0}, {"t&x", 2}, {"p&P", 2}, {"0", 0}, {"p-q", 1}, {"p=q", 1}, {"p->q", 1},
		{"pé", 1}, {"é", 0}, {"p&é", 2}, {"p∧q", 1}, {"p&\xff", 2}, {"\xff\xfe", 0}, {"p\xc3", 1}, {"[\xe2\x88", 1}, {"⊥", 0}, {"p>�", 2},
	} {
		expectParseError(t, c.text, c.at, impl.ErrSyntax)
	}
}

// expectAsGrammar checks what ParseFormula says of a short text against the grammar.
func expectAsGrammar(t *testing.T, g grammar, text string) {
	t.Helper()
	a, at, code := impl.ParseFormula(text)
	found := g.readings('i', text)
	if len(found) > 0 {
		if at != 0 || code != impl.ErrNone || !slices.Equal(a, found[0]) {
			t.Fatalf("ParseFormula(%q) = %v, %d, code %d, want %v", text, a, at, code, found[0])
		}
		return
	}
	if code != impl.ErrSyntax || len(a) != 0 || at < 0 || at > int64(len(text)) {
		t.Fatalf("ParseFormula(%q) = %v, %d, code %d", text, a, at, code)
	}
	if !g.mayBegin(text[:at]) || at < int64(len(text)) && g.mayBegin(text[:at+1]) {
		t.Fatalf("ParseFormula(%q) is wrong about the position %d", text, at)
	}
}

func TestParseFormulaOfAllShortTexts(t *testing.T) {
	g := grammar{}
	var check func(text string, more int)
	check = func(text string, more int) {
		expectAsGrammar(t, g, text)
		if more == 0 {
			return
		}
		for _, letter := range "pFT&|>~[]<() " {
			check(text+string(letter), more-1)
		}
	}
	check("", 4)
}

// Texts of formulas in which a byte is changed, put in or left out.
func TestParseFormulaOfChangedTexts(t *testing.T) {
	const letters = "pquFT&|>~[]<>()() x\xff"
	seed := uint64(9)
	for range 1500 {
		g := grammar{}
		text := mustText(t, irregularTree(&seed, 1+nextNumber(&seed)%9).nodes())
		at := nextNumber(&seed) % int64(len(text))
		letter := letters[nextNumber(&seed)%int64(len(letters))]
		expectAsGrammar(t, g, text[:at]+string([]byte{letter})+text[at+1:])
		expectAsGrammar(t, g, text[:at]+string([]byte{letter})+text[at:])
		expectAsGrammar(t, g, text[:at]+text[at+1:])
		expectAsGrammar(t, g, text[:at])
	}
}

func TestParseFormulaLimits(t *testing.T) {
	nested := func(open int) string { return strings.Repeat("(", open) + "p" + strings.Repeat(")", open) }
	if text := "~" + nested(99); len(text) != impl.MaxText || mustText(t, mustParse(t, text)) != "~p" {
		t.Errorf("a text of %d bytes is not read", len(text))
	}
	boxes := strings.Repeat("[]", 40)
	for _, text := range []string{
		nested(100), "~~" + nested(99), strings.Repeat(" ", 201), strings.Repeat("é", 101), strings.Repeat("(", 201), strings.Repeat("p", 1<<20),
		boxes + "p", "~" + boxes[2:] + "p", "p" + strings.Repeat("&q", 20), strings.Repeat("p>", 20) + "p", "p" + strings.Repeat("|(q", 20) + strings.Repeat(")", 20),
		"T" + strings.Repeat("&T", 10), strings.Repeat("~", 20) + "F", strings.Repeat("~", 199) + "p",
	} {
		expectParseError(t, text, 0, impl.ErrLimit)
	}
	for _, text := range []string{
		boxes[2:] + "p", "[]p" + strings.Repeat("&q", 19), "~" + boxes[8:] + "<>F", strings.Repeat("~", 18) + "T", strings.Repeat("~", 19) + "F", "[]" + strings.Repeat("p>", 19) + "p", "[]T" + strings.Repeat("&T", 9),
	} {
		if a := mustParse(t, text); len(a) > impl.MaxNodes || len(a) < impl.MaxNodes-2 {
			t.Errorf("%q has %d nodes", text, len(a))
		}
	}
}

// Wrong syntax comes before too many nodes, but behind too many bytes.
func TestParseFormulaOrderOfErrors(t *testing.T) {
	boxes := strings.Repeat("[]", 40)
	for _, c := range []struct {
		text string
		at   int64
	}{
		{boxes, 80}, {boxes + "p)", 81}, {boxes + "(p", 82}, {boxes + "p&", 82}, {boxes + "x", 80},
		{strings.Repeat("~", 200), 200}, {strings.Repeat("(", 200), 200}, {strings.Repeat("p&", 100), 200},
		{strings.Repeat("p&", 99) + "p ", 199}, {strings.Repeat("p&", 99) + "é", 198},
	} {
		expectParseError(t, c.text, c.at, impl.ErrSyntax)
	}
	for _, text := range []string{strings.Repeat("x", 201), boxes + boxes + boxes, "x" + strings.Repeat("p&", 100)} {
		expectParseError(t, text, 0, impl.ErrLimit)
	}
}

func TestPartEnd(t *testing.T) {
	end, code := impl.PartEnd(mustParse(t, "(p|q)&r"), 1)
	expectNumber(t, "PartEnd", end, code, 4)
	for _, x := range sampleTrees() {
		a := x.nodes()
		for i, part := range x.all() {
			end, code := impl.PartEnd(a, int64(i))
			expectNumber(t, "PartEnd", end, code, int64(i+len(part.nodes())))
		}
		for _, i := range []int64{-1, int64(len(a)), impl.MaxNodes, math.MinInt64, math.MaxInt64, 1 << 32} {
			if end, code := impl.PartEnd(a, i); end != 0 || code != impl.ErrRange {
				t.Errorf("PartEnd(%v, %d) = %d, code %d", a, i, end, code)
			}
		}
	}
}

func TestCompareFormulas(t *testing.T) {
	trees := slices.Concat(treesUpTo(3)...)
	for _, x := range trees {
		for _, y := range trees {
			want := int64(strings.Compare(mustText(t, x.nodes()), mustText(t, y.nodes())))
			got, code := impl.CompareFormulas(x.nodes(), y.nodes())
			expectNumber(t, "CompareFormulas", got, code, want)
		}
	}
	// In ascending order, where a beginning is less, and signs and capitals are less than letters.
	ascending := []string{"(p>q)&r", "<>p", "F", "F&p", "T", "[]p", "p", "p&q", "p&q&r", "p>q", "p|q", "q", "u", "~T", "~p", "~~p"}
	for i, first := range ascending {
		for j, second := range ascending {
			want := int64(0)
			if i < j {
				want = -1
			} else if i > j {
				want = 1
			}
			got, code := impl.CompareFormulas(mustParse(t, first), mustParse(t, second))
			expectNumber(t, "CompareFormulas of "+first+" and "+second, got, code, want)
		}
	}
}

func TestNotJoinAndPrefix(t *testing.T) {
	trees := slices.Concat(treesUpTo(3)...)
	for _, x := range trees {
		got, code := impl.NotFormula(x.nodes())
		expectNodes(t, "NotFormula", got, code, joinTrees(impl.KindImply, x, atomTree(impl.KindFalse, 0)).nodes())
		for _, kind := range []int64{impl.KindBox, impl.KindDiamond} {
			got, code = impl.PrefixFormula(kind, x.nodes())
			expectNodes(t, "PrefixFormula", got, code, joinTrees(kind, x).nodes())
		}
		for _, y := range trees {
			for _, kind := range []int64{impl.KindAnd, impl.KindOr, impl.KindImply} {
				got, code = impl.JoinFormulas(kind, x.nodes(), y.nodes())
				expectNodes(t, "JoinFormulas", got, code, joinTrees(kind, x, y).nodes())
			}
		}
	}
}

// boxed returns a formula of size nodes.
func boxed(size int) []impl.Node {
	return append(slices.Repeat([]impl.Node{{Kind: impl.KindBox}}, size-1), impl.Node{})
}

func TestNotJoinAndPrefixLimits(t *testing.T) {
	for size := 1; size <= impl.MaxNodes; size++ {
		got, code := impl.NotFormula(boxed(size))
		expectSize(t, "NotFormula", got, code, size+2)
		got, code = impl.PrefixFormula(impl.KindDiamond, boxed(size))
		expectSize(t, "PrefixFormula", got, code, size+1)
		for other := 1; other <= impl.MaxNodes; other++ {
			got, code = impl.JoinFormulas(impl.KindOr, boxed(size), boxed(other))
			expectSize(t, "JoinFormulas", got, code, size+other+1)
			got, code = impl.JoinAll(impl.KindAnd, [][]impl.Node{boxed(size), boxed(other)})
			expectSize(t, "JoinAll", got, code, size+other+1)
		}
	}
}

// expectSize expects a formula of size nodes, or ErrLimit if these are too many.
func expectSize(t *testing.T, what string, got []impl.Node, code int64, size int) {
	t.Helper()
	if size > impl.MaxNodes {
		expectNoNodes(t, what, got, code, impl.ErrLimit)
	} else if len(got) != size || code != impl.ErrNone {
		t.Errorf("%s = %v, code %d, want %d nodes", what, got, code, size)
	}
}

func TestKindErrors(t *testing.T) {
	small, large := boxed(1), boxed(impl.MaxNodes)
	for _, kind := range []int64{-1, 0, 1, 2, 3, 4, 5, 6, 7, math.MinInt64, math.MaxInt64, 1<<32 + 2, 1<<32 + 5} {
		isJoint := kind >= impl.KindAnd && kind <= impl.KindImply
		isPrefix := kind == impl.KindBox || kind == impl.KindDiamond
		isList := kind == impl.KindAnd || kind == impl.KindOr
		if !isJoint {
			got, code := impl.JoinFormulas(kind, small, small)
			expectNoNodes(t, "JoinFormulas", got, code, impl.ErrRange)
			got, code = impl.JoinFormulas(kind, large, large)
			expectNoNodes(t, "JoinFormulas of large formulas", got, code, impl.ErrRange)
		}
		if !isPrefix {
			got, code := impl.PrefixFormula(kind, small)
			expectNoNodes(t, "PrefixFormula", got, code, impl.ErrRange)
			got, code = impl.PrefixFormula(kind, large)
			expectNoNodes(t, "PrefixFormula of a large formula", got, code, impl.ErrRange)
		}
		if !isList {
			for _, list := range [][][]impl.Node{nil, {small}, {small, small}, {large, large}} {
				got, code := impl.JoinAll(kind, list)
				expectNoNodes(t, "JoinAll", got, code, impl.ErrRange)
			}
		}
	}
}

func TestJoinAll(t *testing.T) {
	for _, c := range []struct {
		kind  int64
		texts []string
		want  string
	}{
		{impl.KindAnd, nil, "T"}, {impl.KindOr, nil, "F"}, {impl.KindAnd, []string{"p"}, "p"}, {impl.KindOr, []string{"p>q"}, "p>q"},
		{impl.KindAnd, []string{"p", "q"}, "p&q"}, {impl.KindOr, []string{"p", "q"}, "p|q"}, {impl.KindAnd, []string{"p", "q", "r"}, "p&q&r"},
		{impl.KindOr, []string{"p", "q", "r", "s"}, "p|q|r|s"}, {impl.KindAnd, []string{"q", "p", "q"}, "q&p&q"}, {impl.KindAnd, []string{"p|q", "r>s", "t&u"}, "(p|q)&(r>s)&(t&u)"},
		{impl.KindOr, []string{"p&q", "~r", "s|t"}, "p&q|~r|(s|t)"}, {impl.KindAnd, []string{"T", "F"}, "T&F"},
	} {
		var list [][]impl.Node
		for _, text := range c.texts {
			list = append(list, mustParse(t, text))
		}
		got, code := impl.JoinAll(c.kind, list)
		expectNodes(t, "JoinAll for "+c.want, got, code, mustParse(t, c.want))
	}
	empty, code := impl.JoinAll(impl.KindAnd, [][]impl.Node{})
	expectNodes(t, "JoinAll of an empty list", empty, code, mustParse(t, "T"))
	for _, count := range []int{1, 2, 19, 20, 21, 40, 41, 42, 5000} {
		got, code := impl.JoinAll(impl.KindOr, slices.Repeat([][]impl.Node{boxed(1)}, count))
		expectSize(t, "JoinAll of atoms", got, code, 2*count-1)
	}
	got, code := impl.JoinAll(impl.KindOr, [][]impl.Node{boxed(impl.MaxNodes)})
	expectNodes(t, "JoinAll of the largest formula", got, code, boxed(impl.MaxNodes))
}

func TestWhatFormulasHave(t *testing.T) {
	for _, x := range sampleTrees() {
		a := x.nodes()
		var variables []int64
		counts, plain := make([]int64, 7), true
		for _, part := range x.all() {
			counts[part.node.Kind]++
			if part.node.Kind == impl.KindVariable && !slices.Contains(variables, part.node.Symbol) {
				variables = append(variables, part.node.Symbol)
			}
			plain = plain && part.node.Kind != impl.KindBox && part.node.Kind != impl.KindDiamond
		}
		slices.Sort(variables)
		got, code := impl.VariablesOf(a)
		expectList(t, "VariablesOf", got, code, variables...)
		got, code = impl.KindCounts(a)
		expectList(t, "KindCounts", got, code, counts...)
		if got, code := impl.IsPlain(a); got != plain || code != impl.ErrNone {
			t.Errorf("IsPlain(%v) = %v, code %d", a, got, code)
		}
	}
	got, code := impl.VariablesOf(mustParse(t, "r>p"))
	expectList(t, "VariablesOf", got, code, 0, 2)
	got, code = impl.VariablesOf(mustParse(t, "[]T&F"))
	expectList(t, "VariablesOf of a letterless formula", got, code)
	got, code = impl.KindCounts(mustParse(t, "~p"))
	expectList(t, "KindCounts", got, code, 1, 1, 0, 0, 1, 0, 0)
}

func TestDepthsOf(t *testing.T) {
	check := func(a []impl.Node, wantHeight, wantModal int64) {
		t.Helper()
		height, modal, code := impl.DepthsOf(a)
		if height != wantHeight || modal != wantModal || code != impl.ErrNone {
			t.Errorf("DepthsOf(%v) = %d, %d, code %d, want %d, %d", a, height, modal, code, wantHeight, wantModal)
		}
	}
	for _, x := range sampleTrees() {
		var height, modal int64
		for _, way := range x.branches() {
			inner := int64(0)
			for _, kind := range way {
				if kind == impl.KindBox || kind == impl.KindDiamond {
					inner++
				}
			}
			height, modal = max(height, int64(len(way)-1)), max(modal, inner)
		}
		check(x.nodes(), height, modal)
	}
	check(mustParse(t, "[]p&q"), 2, 1)
	check(mustParse(t, "p"), 0, 0)
	check(mustParse(t, "T"), 1, 0)
	check(mustParse(t, "[]<>p>q&[]r"), 3, 2)
	check(boxed(impl.MaxNodes), 39, 39)
}

func TestSubformulasOf(t *testing.T) {
	check := func(a []impl.Node, want []string) {
		t.Helper()
		if got, code := impl.SubformulasOf(a); !slices.Equal(got, want) || code != impl.ErrNone {
			t.Errorf("SubformulasOf(%v) = %v, code %d, want %v", a, got, code, want)
		}
	}
	for _, x := range sampleTrees() {
		var texts []string
		for _, part := range x.all() {
			if text := mustText(t, part.nodes()); !slices.Contains(texts, text) {
				texts = append(texts, text)
			}
		}
		slices.Sort(texts)
		check(x.nodes(), texts)
	}
	check(mustParse(t, "p>~p"), []string{"F", "p", "p>~p", "~p"})
	check(mustParse(t, "T"), []string{"F", "T"})
	check(mustParse(t, "u"), []string{"u"})
	check(mustParse(t, "p&p&(p&p)"), []string{"p", "p&p", "p&p&(p&p)"})
	check(mustParse(t, "<>[]T|T"), []string{"<>[]T", "<>[]T|T", "F", "T", "[]T"})
}

// Each function that takes formulas says ErrInvalid of a list that is none, ahead of its other
// errors, and returns nothing else.
func TestFormulaErrors(t *testing.T) {
	good := boxed(1)
	for _, bad := range invalidLists() {
		text, code := impl.FormulaText(bad)
		end, endCode := impl.PartEnd(bad, 0)
		if text != "" || code != impl.ErrInvalid || end != 0 || endCode != impl.ErrInvalid {
			t.Errorf("of %v: FormulaText %q, code %d; PartEnd %d, code %d", bad, text, code, end, endCode)
		}
		end, code = impl.PartEnd(bad, -1)
		before, beforeCode := impl.CompareFormulas(bad, good)
		behind, behindCode := impl.CompareFormulas(good, bad)
		if end != 0 || code != impl.ErrInvalid || before != 0 || beforeCode != impl.ErrInvalid || behind != 0 || behindCode != impl.ErrInvalid {
			t.Errorf("of %v: PartEnd of -1 %d, code %d; CompareFormulas %d and %d, codes %d and %d", bad, end, code, before, behind, beforeCode, behindCode)
		}
		variables, code := impl.VariablesOf(bad)
		counts, countCode := impl.KindCounts(bad)
		height, modal, depthCode := impl.DepthsOf(bad)
		if len(variables) != 0 || code != impl.ErrInvalid || len(counts) != 0 || countCode != impl.ErrInvalid || height != 0 || modal != 0 || depthCode != impl.ErrInvalid {
			t.Errorf("of %v: VariablesOf %v, code %d; KindCounts %v, code %d; DepthsOf %d, %d, code %d", bad, variables, code, counts, countCode, height, modal, depthCode)
		}
		texts, code := impl.SubformulasOf(bad)
		plain, plainCode := impl.IsPlain(bad)
		if len(texts) != 0 || code != impl.ErrInvalid || plain || plainCode != impl.ErrInvalid {
			t.Errorf("of %v: SubformulasOf %v, code %d; IsPlain %v, code %d", bad, texts, code, plain, plainCode)
		}
	}
}

func TestErrorsOfBuiltFormulas(t *testing.T) {
	good, large := boxed(1), boxed(impl.MaxNodes)
	for _, bad := range invalidLists() {
		got, code := impl.NotFormula(bad)
		expectNoNodes(t, "NotFormula", got, code, impl.ErrInvalid)
		for _, kind := range []int64{impl.KindAnd, impl.KindOr, impl.KindImply, impl.KindBox, impl.KindDiamond, impl.KindFalse, -1, 7} {
			got, code = impl.PrefixFormula(kind, bad)
			expectNoNodes(t, "PrefixFormula", got, code, impl.ErrInvalid)
			got, code = impl.JoinFormulas(kind, bad, large)
			expectNoNodes(t, "JoinFormulas of a bad first part", got, code, impl.ErrInvalid)
			got, code = impl.JoinFormulas(kind, large, bad)
			expectNoNodes(t, "JoinFormulas of a bad second part", got, code, impl.ErrInvalid)
			for _, list := range [][][]impl.Node{{bad}, {bad, good}, {good, bad}, {large, large, bad}} {
				got, code = impl.JoinAll(kind, list)
				expectNoNodes(t, "JoinAll", got, code, impl.ErrInvalid)
			}
		}
	}
}

// No function changes a formula or the capacity behind it, and no result shares memory with one.
func TestFormulasAreNeitherChangedNorShared(t *testing.T) {
	store := slices.Concat(mustParse(t, "[]p&~q"), slices.Repeat([]impl.Node{{Kind: -9, Symbol: -9}}, 60))
	before := slices.Clone(store)
	a := store[:6]
	results := func() [][]impl.Node {
		not, _ := impl.NotFormula(a)
		join, _ := impl.JoinFormulas(impl.KindAnd, a, a)
		prefix, _ := impl.PrefixFormula(impl.KindBox, a)
		one, _ := impl.JoinAll(impl.KindOr, [][]impl.Node{a})
		three, _ := impl.JoinAll(impl.KindOr, [][]impl.Node{a, a, a})
		return [][]impl.Node{not, join, prefix, one, three}
	}
	impl.IsFormula(a)
	impl.FormulaText(a)
	impl.PartEnd(a, 1)
	impl.CompareFormulas(a, a)
	impl.VariablesOf(a)
	impl.KindCounts(a)
	impl.DepthsOf(a)
	impl.SubformulasOf(a)
	impl.IsPlain(a)
	sizes := []int{8, 13, 7, 6, 20}
	for i, result := range results() {
		if len(result) != sizes[i] {
			t.Errorf("the result %d has %d nodes, want %d", i, len(result), sizes[i])
		}
		result = result[:cap(result)]
		for j := range result {
			result[j] = impl.Node{Kind: -1, Symbol: -1}
		}
	}
	if !slices.Equal(store, before) {
		t.Errorf("a formula was changed: %v", store)
	}
	for _, kind := range []int64{impl.KindAnd, impl.KindOr} {
		first, _ := impl.JoinAll(kind, nil)
		first[0].Kind = -1
		second, code := impl.JoinAll(kind, nil)
		if !impl.IsFormula(second) || code != impl.ErrNone {
			t.Errorf("JoinAll of nothing keeps what it returned: %v, code %d", second, code)
		}
	}
}
