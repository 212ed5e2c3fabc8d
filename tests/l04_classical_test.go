package tests

import (
	"fmt"
	"math"
	"slices"
	"strings"
	"testing"

	"loop.example/g01089/impl"
)

func (x tree) isPlain() bool {
	for _, part := range x.all() {
		if part.node.Kind == impl.KindBox || part.node.Kind == impl.KindDiamond {
			return false
		}
	}
	return true
}

// table returns the values of a plain tree in the rows.
func (x tree) table() []int64 {
	values := make([]int64, impl.MaxRows)
	for row := range values {
		valuation := make([]int64, impl.MaxVariables)
		for v := range valuation {
			valuation[v] = int64(row) >> v & 1
		}
		if x.truthAt(nil, valuation, 0) {
			values[row] = 1
		}
	}
	return values
}

func tableOf(a []impl.Node) []int64 {
	x, _ := treeOf(a)
	return x.table()
}

// tableWhere returns a table that has the value 1 in the rows for which holds is true.
func tableWhere(holds func(row int) bool) []int64 {
	values := make([]int64, impl.MaxRows)
	for row := range values {
		if holds(row) {
			values[row] = 1
		}
	}
	return values
}

// plainTree returns a tree with these numbers of leaves and, at most, of variables, without
// modalities and without visible order.
func plainTree(seed *uint64, leaves, variables int64) tree {
	switch {
	case leaves > 1:
		first := 1 + nextNumber(seed)%(leaves-1)
		return joinTrees(impl.KindAnd+nextNumber(seed)%3, plainTree(seed, first, variables), plainTree(seed, leaves-first, variables))
	case variables == 0 || nextNumber(seed)%8 == 0:
		return atomTree(impl.KindFalse, 0)
	}
	return atomTree(impl.KindVariable, nextNumber(seed)%variables)
}

// plainSamples returns all trees without modalities of at most 5 nodes, and some of each size up
// to the greatest one, which is MaxNodes - 1.
func plainSamples() []tree {
	samples := slices.DeleteFunc(slices.Concat(treesUpTo(5)...), func(x tree) bool { return !x.isPlain() })
	seed := uint64(67)
	for leaves := int64(4); leaves <= 20; leaves++ {
		for i := range int64(21) {
			samples = append(samples, plainTree(&seed, leaves, i%7))
		}
	}
	return samples
}

// literalHolds tells whether a literal is true in a row.
func literalHolds(literal int64, row int) bool { return row>>(literal/2)&1 == 1-int(literal%2) }

func clauseHolds(clause []int64, row int) bool {
	return slices.ContainsFunc(clause, func(literal int64) bool { return literalHolds(literal, row) })
}

func termHolds(term []int64, row int) bool {
	return !slices.ContainsFunc(term, func(literal int64) bool { return !literalHolds(literal, row) })
}

func clausesHold(clauses [][]int64, row int) bool {
	return !slices.ContainsFunc(clauses, func(clause []int64) bool { return !clauseHolds(clause, row) })
}

func hasModel(clauses [][]int64) bool {
	return slices.Contains(tableWhere(func(row int) bool { return clausesHold(clauses, row) }), 1)
}

// literalLists returns all clauses of the first variables, sorted.
func literalLists(variables int64) [][]int64 {
	lists := [][]int64{{}}
	for v := range variables {
		for _, list := range slices.Clone(lists) {
			lists = append(lists, append(slices.Clone(list), 2*v), append(slices.Clone(list), 2*v+1))
		}
	}
	slices.SortFunc(lists, slices.Compare)
	return lists
}

func isPartOf(part, list []int64) bool {
	return !slices.ContainsFunc(part, func(literal int64) bool { return !slices.Contains(list, literal) })
}

// primesWhere returns the lists for which holds is true and of which no other such list is a
// part, in the order of the lists.
func primesWhere(lists [][]int64, holds func(list []int64) bool) [][]int64 {
	var found, primes [][]int64
	for _, list := range lists {
		if holds(list) {
			found = append(found, list)
		}
	}
	for _, list := range found {
		if !slices.ContainsFunc(found, func(part []int64) bool { return len(part) < len(list) && isPartOf(part, list) }) {
			primes = append(primes, list)
		}
	}
	return primes
}

// primeImplicates returns the prime implicates of a formula with a table, which has none of the
// variables behind the first ones.
func primeImplicates(table []int64, variables int64) [][]int64 {
	return primesWhere(literalLists(variables), func(clause []int64) bool {
		for row, value := range table {
			if value == 1 && !clauseHolds(clause, row) {
				return false
			}
		}
		return true
	})
}

func primeImplicants(table []int64) [][]int64 {
	return primesWhere(literalLists(impl.MaxVariables), func(term []int64) bool {
		for row, value := range table {
			if value == 0 && termHolds(term, row) {
				return false
			}
		}
		return true
	})
}

// literalTexts returns the texts of literals.
func literalTexts(list []int64) []string {
	texts := []string{}
	for _, literal := range list {
		texts = append(texts, strings.Repeat("~", int(literal%2))+polishVariables[literal/2:literal/2+1])
	}
	return texts
}

// normalText returns the text of the disjunction of the conjunctions of the literals of terms.
func normalText(terms [][]int64) string {
	var texts []string
	for _, term := range terms {
		if len(term) == 0 {
			return "T"
		}
		texts = append(texts, strings.Join(literalTexts(term), "&"))
	}
	if len(texts) == 0 {
		return "F"
	}
	return strings.Join(texts, "|")
}

// expectText expects the formula that ParseFormula reads from a text, or ErrLimit if it would
// have too many nodes.
func expectText(t *testing.T, what string, got []impl.Node, code int64, text string) {
	t.Helper()
	want, _, wantCode := impl.ParseFormula(text)
	if !slices.Equal(got, want) || code != wantCode {
		t.Errorf("%s = %v, code %d, want %s, code %d", what, got, code, text, wantCode)
	}
}

func expectLists(t *testing.T, what string, got [][]int64, code int64, want ...[]int64) {
	t.Helper()
	if !slices.EqualFunc(got, want, slices.Equal[[]int64]) || code != impl.ErrNone {
		t.Errorf("%s = %v, code %d, want %v", what, got, code, want)
	}
}

func expectNoLists(t *testing.T, what string, got [][]int64, code, want int64) {
	t.Helper()
	if len(got) != 0 || code != want {
		t.Errorf("%s = %v, code %d, want code %d", what, got, code, want)
	}
}

// given returns a step that has one of the clauses.
func given(clause ...int64) impl.Resolvent { return derived(-1, -1, -1, clause...) }

// derived returns a step that has a resolvent.
func derived(first, second, v int64, clause ...int64) impl.Resolvent {
	return impl.Resolvent{Clause: clause, First: first, Second: second, Variable: v}
}

func areSameSteps(a, b []impl.Resolvent) bool { return fmt.Sprint(a) == fmt.Sprint(b) }

func expectSteps(t *testing.T, what string, got []impl.Resolvent, code int64, want ...impl.Resolvent) {
	t.Helper()
	if !areSameSteps(got, want) || code != impl.ErrNone {
		t.Errorf("%s = %v, code %d, want %v", what, got, code, want)
	}
}

func expectNoSteps(t *testing.T, what string, got []impl.Resolvent, code, want int64) {
	t.Helper()
	if len(got) != 0 || code != want {
		t.Errorf("%s = %v, code %d, want code %d", what, got, code, want)
	}
}

// irregularClauses returns count clauses of the first variables without visible order, which may
// occur twice. Each variable is left out of a clause if the sequence says so.
func irregularClauses(seed *uint64, count, variables int64) [][]int64 {
	var clauses [][]int64
	for range count {
		clause := []int64{}
		for v := range variables {
			if choice := nextNumber(seed) % 4; choice < 2 {
				clause = append(clause, 2*v+choice)
			}
		}
		clauses = append(clauses, clause)
	}
	return clauses
}

// invalidClauses returns lists that are not clauses.
func invalidClauses() [][]int64 {
	return [][]int64{
		{0, 1}, {2, 3}, {10, 11}, {0, 2, 3}, {0, 1, 2}, {1, 2, 4, 6, 8, 9}, {0, 0}, {1, 1}, {0, 2, 2}, {1, 0}, {2, 0}, {3, 1}, {0, 4, 2}, {11, 0}, {0, 3, 1},
		{-1}, {-2}, {-1, 0}, {-1, 2}, {0, -1}, {12}, {13}, {0, 12}, {12, 0}, {10, 12}, {math.MinInt64}, {math.MaxInt64}, {0, math.MaxInt64}, {math.MinInt64, 0},
		{1 << 32}, {1<<32 + 2}, {64}, {0, 64}, {0, 1, 2, 3, 4, 5, 6, 7, 8, 9, 10, 11}, make([]int64, 5000),
	}
}

// modalFormulas returns formulas that are not plain.
func modalFormulas() [][]impl.Node {
	list := [][]impl.Node{boxed(2), boxed(impl.MaxNodes)}
	for _, text := range []string{"<p", "&p[q", "|[pq", ">p>q<F", ">[>FFF"} {
		list = append(list, unpolish(text))
	}
	return list
}

func TestClassicalConstants(t *testing.T) {
	expectList(t, "limits", []int64{impl.MaxRows, impl.MaxClauses}, impl.ErrNone, 64, 40)
}

func expectTableResults(t *testing.T, a []impl.Node, table []int64) {
	t.Helper()
	what := " of " + polish(a)
	values, code := impl.TruthTable(a)
	expectList(t, "TruthTable"+what, values, code, table...)
	tautology, code := impl.IsTautology(a)
	expectBool(t, "IsTautology"+what, tautology, code, !slices.Contains(table, 0))
	row, code := impl.FirstModel(a)
	if first := slices.Index(table, 1); first >= 0 {
		expectNumber(t, "FirstModel"+what, row, code, int64(first))
	} else if row != 0 || code != impl.ErrNotFound {
		t.Errorf("FirstModel%s = %d, code %d", what, row, code)
	}
	var depends []int64
	for v := range impl.MaxVariables {
		for i := range table {
			if table[i] != table[i^1<<v] {
				depends = append(depends, int64(v))
				break
			}
		}
	}
	variables, code := impl.DependsOn(a)
	expectList(t, "DependsOn"+what, variables, code, depends...)
}

func expectCounts(t *testing.T, x tree, table []int64) {
	t.Helper()
	greatest := int64(-1)
	for _, part := range x.all() {
		if part.node.Kind == impl.KindVariable {
			greatest = max(greatest, part.node.Symbol)
		}
	}
	a, sum := x.nodes(), int64(0)
	for n := int64(-2); n <= impl.MaxVariables+2; n++ {
		count, code := impl.CountModels(a, n)
		if n < 0 || n > impl.MaxVariables || greatest >= n {
			if count != 0 || code != impl.ErrRange {
				t.Errorf("CountModels(%s, %d) = %d, code %d", polish(a), n, count, code)
			}
			continue
		}
		sum = 0
		for row := range 1 << n {
			sum += table[row]
		}
		expectNumber(t, "CountModels of "+polish(a), count, code, sum)
	}
}

func TestTruthTables(t *testing.T) {
	for _, x := range plainSamples() {
		table := x.table()
		expectTableResults(t, x.nodes(), table)
		expectCounts(t, x, table)
	}
	for _, c := range []struct {
		text  string
		holds func(row int) bool
	}{
		{"p&q", func(row int) bool { return row%4 == 3 }}, {"F", func(row int) bool { return false }}, {"T", func(row int) bool { return true }},
		{"p", func(row int) bool { return row%2 == 1 }}, {"u", func(row int) bool { return row >= 32 }}, {"p>q", func(row int) bool { return row%4 != 1 }},
		{"p|~p", func(row int) bool { return true }}, {"q&~p", func(row int) bool { return row%4 == 2 }}, {"p&q&r&s&t&u", func(row int) bool { return row == impl.MaxRows-1 }},
		{"~(p|q|r|s|t|u)", func(row int) bool { return row == 0 }}, {"((p>q)>p)>p", func(row int) bool { return true }}, {"p&~p", func(row int) bool { return false }},
	} {
		expectTableResults(t, mustParse(t, c.text), tableWhere(c.holds))
	}
	row, code := impl.FirstModel(mustParse(t, "q&~p"))
	expectNumber(t, "FirstModel of q&~p", row, code, 2)
	row, code = impl.FirstModel(mustParse(t, "p&q&r&s&t&u"))
	expectNumber(t, "FirstModel of all variables", row, code, 63)
	variables, code := impl.DependsOn(mustParse(t, "p&(q|~q)"))
	expectList(t, "DependsOn p&(q|~q)", variables, code, 0)
	variables, code = impl.DependsOn(mustParse(t, "u&t>s|r&~q|p"))
	expectList(t, "DependsOn all variables", variables, code, 0, 1, 2, 3, 4, 5)
}

func TestCountModels(t *testing.T) {
	for _, c := range []struct {
		text    string
		n, want int64
	}{
		{"p|q", 2, 3}, {"p|q", 3, 6}, {"p|q", 6, 48}, {"T", 0, 1}, {"F", 0, 0}, {"T", 6, 64}, {"F", 6, 0}, {"p", 1, 1}, {"~u", 6, 32}, {"p&q&r&s&t&u", 6, 1}, {"q", 2, 2},
	} {
		count, code := impl.CountModels(mustParse(t, c.text), c.n)
		expectNumber(t, "CountModels of "+c.text, count, code, c.want)
	}
	for _, n := range []int64{-1, 7, 64, math.MinInt64, math.MaxInt64, 1 << 32, 1<<32 + 6} {
		for _, text := range []string{"T", "p", "u"} {
			if count, code := impl.CountModels(mustParse(t, text), n); count != 0 || code != impl.ErrRange {
				t.Errorf("CountModels(%s, %d) = %d, code %d", text, n, count, code)
			}
		}
	}
	// A variable counts even where the value does not depend on it.
	if count, code := impl.CountModels(mustParse(t, "p|(u>u)"), 5); count != 0 || code != impl.ErrRange {
		t.Errorf("CountModels of a formula with u = %d, code %d", count, code)
	}
}

func TestClassicalEntails(t *testing.T) {
	seed := uint64(71)
	entailed := 0
	for range 1500 {
		var premises [][]impl.Node
		rows := tableWhere(func(row int) bool { return true })
		for range nextNumber(&seed) % 5 {
			x := plainTree(&seed, 1+nextNumber(&seed)%4, 3)
			premises = append(premises, x.nodes())
			table := x.table()
			rows = tableWhere(func(row int) bool { return rows[row]*table[row] == 1 })
		}
		x := plainTree(&seed, 1+nextNumber(&seed)%5, 3)
		table := x.table()
		want := !slices.Contains(tableWhere(func(row int) bool { return rows[row] > table[row] }), 1)
		got, code := impl.ClassicalEntails(premises, x.nodes())
		expectBool(t, "ClassicalEntails of "+polish(x.nodes()), got, code, want)
		if want {
			entailed++
		}
	}
	if entailed < 300 || entailed > 1200 {
		t.Errorf("%d of 1500 samples are entailed", entailed)
	}
	for _, c := range []struct {
		premises, text string
		want           bool
	}{
		{"p,p>q", "q", true}, {"", "T", true}, {"", "p|~p", true}, {"", "p", false}, {"", "F", false}, {"F", "F", true}, {"p,~p", "F", true}, {"p", "p&q", false},
		{"p>q,q>r,r>s,s>t,t>u,p", "u", true}, {"p>q,q>r,r>s,t>u,p", "u", false}, {"~p>q,~q", "p", true}, {"p|q|r|s|t", "p|q|r|s|t|u", true}, {"p|q|r|s|t|u", "p|q|r|s|t", false},
		{"", "p|q|r|s|t|u", false}, {"", "~(p&q&r&s&t&u)", false}, {"p,q,r,s,t", "~u", false}, {"~p,~q,~r,~s,~t", "u", false}, {"p,q,r,s,t", "~u|u&p", true},
	} {
		var premises [][]impl.Node
		for _, text := range strings.FieldsFunc(c.premises, func(letter rune) bool { return letter == ',' }) {
			premises = append(premises, mustParse(t, text))
		}
		got, code := impl.ClassicalEntails(premises, mustParse(t, c.text))
		expectBool(t, "ClassicalEntails of "+c.premises+" and "+c.text, got, code, c.want)
	}
	many := append(slices.Repeat([][]impl.Node{mustParse(t, "p")}, 5000), mustParse(t, "p>q"))
	got, code := impl.ClassicalEntails(many, mustParse(t, "q"))
	expectBool(t, "ClassicalEntails of many premises", got, code, true)
}

func TestClassicalClasses(t *testing.T) {
	var list [][]impl.Node
	var want []int64
	numbers := map[string]int64{}
	for _, x := range plainSamples() {
		table := fmt.Sprint(x.table())
		if _, known := numbers[table]; !known {
			numbers[table] = int64(len(numbers))
		}
		list, want = append(list, x.nodes()), append(want, numbers[table])
	}
	got, code := impl.ClassicalClasses(list)
	expectList(t, "ClassicalClasses of the samples", got, code, want...)
	got, code = impl.ClassicalClasses(nil)
	expectList(t, "ClassicalClasses of nothing", got, code)
	for _, c := range []struct {
		texts string
		want  []int64
	}{
		{"p>q ~p|q q", []int64{0, 0, 1}}, {"u", []int64{0}}, {"q p q&q p|p F", []int64{0, 1, 0, 1, 2}}, {"F T ~T ~F p", []int64{0, 1, 0, 1, 2}}, {"p p p", []int64{0, 0, 0}},
	} {
		list = nil
		for _, text := range strings.Fields(c.texts) {
			list = append(list, mustParse(t, text))
		}
		got, code = impl.ClassicalClasses(list)
		expectList(t, "ClassicalClasses of "+c.texts, got, code, c.want...)
	}
}

// The clauses among all lists of at most 3 numbers, and among all sets of literals.
func TestIsClause(t *testing.T) {
	isListed := map[string]bool{}
	for _, clause := range literalLists(impl.MaxVariables) {
		isListed[fmt.Sprint(clause)] = true
	}
	if len(isListed) != 729 {
		t.Fatalf("the tests know %d clauses", len(isListed))
	}
	check := func(list []int64) {
		if want := isListed[fmt.Sprint(list)]; impl.IsClause(list) != want {
			t.Errorf("IsClause(%v) is not %v", list, want)
		}
	}
	check(nil)
	for i := int64(-2); i < 14; i++ {
		check([]int64{i})
		for j := int64(-2); j < 14; j++ {
			check([]int64{i, j})
			for k := int64(-2); k < 14; k++ {
				check([]int64{i, j, k})
			}
		}
	}
	for mask := range 1 << 12 {
		var list []int64
		for literal := range int64(12) {
			if mask>>literal&1 == 1 {
				list = append(list, literal)
			}
		}
		check(list)
	}
	for _, list := range invalidClauses() {
		if impl.IsClause(list) {
			t.Errorf("IsClause(%v) is true", list)
		}
	}
}

// P4: a formula is the conjunction of its prime implicates and the disjunction of its prime
// implicants.
func TestPrimes(t *testing.T) {
	for _, x := range plainSamples() {
		a, table := x.nodes(), x.table()
		what := " of " + polish(a)
		implicates, code := impl.PrimeImplicates(a)
		implicants, implicantCode := impl.PrimeImplicants(a)
		conjunction := tableWhere(func(row int) bool { return clausesHold(implicates, row) })
		expectList(t, "the conjunction of the prime implicates"+what, conjunction, code, table...)
		disjunction := tableWhere(func(row int) bool {
			return slices.ContainsFunc(implicants, func(term []int64) bool { return termHolds(term, row) })
		})
		expectList(t, "the disjunction of the prime implicants"+what, disjunction, implicantCode, table...)
		expectLists(t, "PrimeImplicates"+what, implicates, code, primeImplicates(table, impl.MaxVariables)...)
		expectLists(t, "PrimeImplicants"+what, implicants, implicantCode, primeImplicants(table)...)
	}
}

func TestPrimesOfNamedFormulas(t *testing.T) {
	for _, c := range []struct {
		text                   string
		implicates, implicants [][]int64
	}{
		{"p&(p>q)", [][]int64{{0}, {2}}, [][]int64{{0, 2}}}, {"p>q", [][]int64{{1, 2}}, [][]int64{{1}, {2}}}, {"F", [][]int64{{}}, nil}, {"T", nil, [][]int64{{}}},
		{"p&~p", [][]int64{{}}, nil}, {"u|~u", nil, [][]int64{{}}}, {"p", [][]int64{{0}}, [][]int64{{0}}}, {"~u", [][]int64{{11}}, [][]int64{{11}}},
		{"(p>q)&(q>p)", [][]int64{{0, 3}, {1, 2}}, [][]int64{{0, 2}, {1, 3}}}, {"p&q|~p&r", [][]int64{{0, 4}, {1, 2}, {2, 4}}, [][]int64{{0, 2}, {1, 4}, {2, 4}}},
		{"p&q&r&s&t&u", [][]int64{{0}, {2}, {4}, {6}, {8}, {10}}, [][]int64{{0, 2, 4, 6, 8, 10}}}, {"~(p&q&r&s&t&u)", [][]int64{{1, 3, 5, 7, 9, 11}}, [][]int64{{1}, {3}, {5}, {7}, {9}, {11}}},
		{"(p|u)&(~p|t)", [][]int64{{0, 10}, {1, 8}, {8, 10}}, [][]int64{{0, 8}, {1, 10}, {8, 10}}}, {"q&(p|~p)", [][]int64{{2}}, [][]int64{{2}}},
	} {
		got, code := impl.PrimeImplicates(mustParse(t, c.text))
		expectLists(t, "PrimeImplicates of "+c.text, got, code, c.implicates...)
		got, code = impl.PrimeImplicants(mustParse(t, c.text))
		expectLists(t, "PrimeImplicants of "+c.text, got, code, c.implicants...)
	}
}

func TestNormalFormula(t *testing.T) {
	for _, x := range plainSamples() {
		got, code := impl.NormalFormula(x.nodes())
		expectText(t, "NormalFormula of "+polish(x.nodes()), got, code, normalText(primeImplicants(x.table())))
	}
	for _, c := range []struct{ text, want string }{
		{"p>q", "~p|q"}, {"F", "F"}, {"T", "T"}, {"p|~p", "T"}, {"u&~u", "F"}, {"u", "u"}, {"~u", "~u"}, {"q&p", "p&q"}, {"q|p", "p|q"}, {"u&t&s&r&q&p", "p&q&r&s&t&u"},
		{"(p>q)&(q>p)", "p&q|~p&~q"}, {"p&q|~p&r", "p&q|~p&r|q&r"}, {"p&(q>p)", "p"}, {"~(p&q&r)", "~p|~q|~r"},
	} {
		got, code := impl.NormalFormula(mustParse(t, c.text))
		expectNodes(t, "NormalFormula of "+c.text, got, code, mustParse(t, c.want))
	}
}

// A normal formula has no parentheses, so its text has a byte for each node but for the two
// behind each ~. A plain formula has an odd number of nodes, so at most MaxNodes - 1 of them.
func TestNormalFormulaLimits(t *testing.T) {
	for _, c := range []struct {
		text, want string
		size       int
	}{
		{"p&~q&~r|~p&q&~r|~p&~q&r", "p&~q&~r|~p&q&~r|~p&~q&r", 29},
		{"((p>q)&(q>p)>r)&(r>(p>q)&(q>p))", "p&q&r|p&~q&~r|~p&q&~r|~p&~q&r", 35},
		{"p&(q|r|s|t)|q&(r|s|t)|r&(s|t)", "p&q|p&r|p&s|p&t|q&r|q&s|q&t|r&s|r&t", 35},
		{"p&(q|r|s|t)|q&(r|s|t)|r&(s|t)|s&t", "p&q|p&r|p&s|p&t|q&r|q&s|q&t|r&s|r&t|s&t", 39},
		{"p&(q|r|s|t)|q&(r|s|t)|r&(s|t)|s&~u", "p&q|p&r|p&s|p&t|q&r|q&s|q&t|r&s|r&t|s&~u", 41},
		{"p&(q|r|s|t|u)|q&(r|s|t|u)|r&(s|t)", "p&q|p&r|p&s|p&t|p&u|q&r|q&s|q&t|q&u|r&s|r&t", 43},
	} {
		if size := len(c.want) + strings.Count(c.want, "~"); size != c.size {
			t.Errorf("%s has %d nodes, not %d", c.want, size, c.size)
		}
		a := mustParse(t, c.text)
		got, code := impl.NormalFormula(a)
		expectText(t, "NormalFormula of "+c.text, got, code, c.want)
		got, code = impl.ForgetVariables(a, 0)
		expectText(t, "ForgetVariables of none in "+c.text, got, code, c.want)
		got, code = impl.ClassicalInterpolant(a, mustParse(t, "p|q|r|s|t|u|T"))
		expectText(t, "ClassicalInterpolant of "+c.text, got, code, c.want)
		if (code == impl.ErrLimit) != (c.size > impl.MaxNodes) {
			t.Errorf("ClassicalInterpolant of %s: code %d", c.text, code)
		}
	}
}

func TestForgetVariables(t *testing.T) {
	for i, x := range plainSamples() {
		table := x.table()
		for _, mask := range []int64{0, int64(i) % 64, 63}[i%2:] {
			agreeing := tableWhere(func(row int) bool {
				for model, value := range table {
					if value == 1 && (row^model)&^int(mask) == 0 {
						return true
					}
				}
				return false
			})
			got, code := impl.ForgetVariables(x.nodes(), mask)
			expectText(t, fmt.Sprintf("ForgetVariables of %d in %s", mask, polish(x.nodes())), got, code, normalText(primeImplicants(agreeing)))
		}
	}
	for _, c := range []struct {
		text string
		mask int64
		want string
	}{
		{"p&(p>q)", 1, "q"}, {"p&(p>q)", 2, "p"}, {"p&(p>q)", 3, "T"}, {"p&(p>q)", 0, "p&q"}, {"p>q", 63, "T"}, {"p&~p", 63, "F"}, {"F", 0, "F"}, {"T", 63, "T"},
		{"(p>q)&(q>r)", 2, "~p|r"}, {"u&p", 32, "p"}, {"u&p", 31, "u"}, {"p&q|~p&r", 1, "q|r"},
	} {
		got, code := impl.ForgetVariables(mustParse(t, c.text), c.mask)
		expectNodes(t, "ForgetVariables in "+c.text, got, code, mustParse(t, c.want))
	}
	for _, mask := range []int64{-1, 64, 65, math.MinInt64, math.MaxInt64, 1 << 32} {
		for _, text := range []string{"p", "F", "p&(q|r|s|t)|q&(r|s|t)|r&(s|t)|s&~u"} {
			got, code := impl.ForgetVariables(mustParse(t, text), mask)
			expectNoNodes(t, "ForgetVariables of a wrong mask", got, code, impl.ErrRange)
		}
	}
	got, code := impl.ForgetVariables(mustParse(t, "p&(q|r|s|t)|q&(r|s|t)|r&(s|t)|s&~u"), 32)
	expectText(t, "ForgetVariables of u", got, code, "p&q|p&r|p&t|q&r|q&t|r&t|s")
}

// An interpolant is entailed, entails, has only variables of both formulas and is the normal
// formula that ForgetVariables returns.
func TestClassicalInterpolant(t *testing.T) {
	seed := uint64(73)
	found := 0
	for range 3000 {
		x, y := plainTree(&seed, 1+nextNumber(&seed)%8, 4), plainTree(&seed, 1+nextNumber(&seed)%6, 4)
		if nextNumber(&seed)%2 == 0 {
			y = joinTrees(impl.KindOr, y, plainTree(&seed, 2, 6))
		}
		a, b := x.nodes(), y.nodes()
		what := "ClassicalInterpolant of " + polish(a) + " and " + polish(b)
		first, second, mask := x.table(), y.table(), int64(63)
		for _, part := range y.all() {
			if part.node.Kind == impl.KindVariable {
				mask &^= 1 << part.node.Symbol
			}
		}
		got, code := impl.ClassicalInterpolant(a, b)
		if slices.Contains(tableWhere(func(row int) bool { return first[row] > second[row] }), 1) {
			expectNoNodes(t, what, got, code, impl.ErrNotFound)
			continue
		}
		found++
		want, wantCode := impl.ForgetVariables(a, mask)
		if !slices.Equal(got, want) || code != wantCode {
			t.Fatalf("%s = %v, code %d, want %v, code %d", what, got, code, want, wantCode)
		}
		if code == impl.ErrLimit {
			continue
		}
		between := tableOf(got)
		if slices.Contains(tableWhere(func(row int) bool { return first[row] > between[row] || between[row] > second[row] }), 1) {
			t.Errorf("%s = %s is not between them", what, polish(got))
		}
		for _, letter := range polishVariables {
			if strings.ContainsRune(polish(got), letter) && !(strings.ContainsRune(polish(a), letter) && strings.ContainsRune(polish(b), letter)) {
				t.Errorf("%s = %s has a variable of its own", what, polish(got))
			}
		}
	}
	if found < 500 || found > 2500 {
		t.Errorf("%d of 3000 samples are entailed", found)
	}
	for _, c := range []struct{ a, b, want string }{
		{"p&q", "q|r", "q"}, {"F", "p", "F"}, {"p", "T", "T"}, {"p&~p", "q", "F"}, {"q", "p|~p", "T"}, {"F", "F", "F"}, {"T", "T", "T"}, {"p", "p", "p"}, {"p", "p|(q|~q)", "p"},
		{"(p>q)&(q>r)", "p&s>r", "~p|r"}, {"q&(p>q)", "q|p", "q"},
	} {
		got, code := impl.ClassicalInterpolant(mustParse(t, c.a), mustParse(t, c.b))
		expectNodes(t, "ClassicalInterpolant of "+c.a+" and "+c.b, got, code, mustParse(t, c.want))
	}
	for _, c := range [][2]string{{"p", "q"}, {"T", "p"}, {"p|q", "p&q"}, {"T", "F"}, {"p", "F"}, {"p&(q|r|s|t)|q&(r|s|t)|r&(s|t)|s&~u", "p&q&r&s&t&u"}} {
		got, code := impl.ClassicalInterpolant(mustParse(t, c[0]), mustParse(t, c[1]))
		expectNoNodes(t, "ClassicalInterpolant of "+c[0]+" and "+c[1], got, code, impl.ErrNotFound)
	}
}

// clausesText returns the text of the formula of clauses.
func clausesText(clauses [][]int64) string {
	var texts []string
	for _, clause := range clauses {
		text := strings.Join(literalTexts(clause), "|")
		switch {
		case len(clause) == 0:
			text = "F"
		case len(clause) > 1:
			text = "(" + text + ")"
		}
		texts = append(texts, text)
	}
	if len(texts) == 0 {
		return "T"
	}
	return strings.Join(texts, "&")
}

func TestClausesFormula(t *testing.T) {
	for _, clause := range literalLists(impl.MaxVariables) {
		got, code := impl.ClausesFormula([][]int64{clause})
		expectText(t, "ClausesFormula of one clause", got, code, clausesText([][]int64{clause}))
	}
	seed := uint64(79)
	for range 1000 {
		clauses := irregularClauses(&seed, nextNumber(&seed)%7, 1+nextNumber(&seed)%6)
		got, code := impl.ClausesFormula(clauses)
		expectText(t, fmt.Sprint("ClausesFormula of ", clauses), got, code, clausesText(clauses))
		if code == impl.ErrNone {
			expectList(t, "the table of the formula", tableOf(got), code, tableWhere(func(row int) bool { return clausesHold(clauses, row) })...)
		}
	}
	for _, c := range []struct {
		clauses [][]int64
		want    string
	}{
		{[][]int64{{0, 3}, {2}}, "(p|~q)&q"}, {[][]int64{{2}, {0, 3}}, "q&(p|~q)"}, {nil, "T"}, {[][]int64{{}}, "F"}, {[][]int64{{}, {11}, {}}, "F&~u&F"}, {[][]int64{{0}, {0}}, "p&p"},
	} {
		got, code := impl.ClausesFormula(c.clauses)
		expectNodes(t, "ClausesFormula", got, code, mustParse(t, c.want))
	}
	for _, count := range []int{1, 19, 20, 21, 22, 40, 41, 5000} {
		for _, c := range []struct {
			clause []int64
			size   int
		}{{[]int64{0}, 1}, {[]int64{}, 1}, {[]int64{1}, 3}, {[]int64{0, 3}, 5}, {[]int64{1, 3, 5, 7, 9, 11}, 23}} {
			got, code := impl.ClausesFormula(slices.Repeat([][]int64{c.clause}, count))
			expectSize(t, "ClausesFormula of clauses that are all the same", got, code, count*c.size+count-1)
		}
	}
}

// resolvent returns the resolvent of two clauses on a variable as the chapter says it, and
// whether it exists.
func resolvent(c, d []int64, v int64) ([]int64, bool) {
	if !slices.Contains(c, 2*v) || !slices.Contains(d, 2*v+1) {
		return nil, false
	}
	list := slices.DeleteFunc(slices.Concat(c, d), func(literal int64) bool { return literal/2 == v })
	slices.Sort(list)
	list = slices.Compact(list)
	for i := 1; i < len(list); i++ {
		if list[i]/2 == list[i-1]/2 {
			return nil, false
		}
	}
	return list, true
}

func TestResolventsOf(t *testing.T) {
	lists := literalLists(3)
	for _, clause := range literalLists(impl.MaxVariables)[:60] {
		lists = append(lists, clause)
	}
	seed := uint64(83)
	lists = append(lists, irregularClauses(&seed, 60, impl.MaxVariables)...)
	exist := 0
	for _, c := range lists {
		for _, d := range lists {
			var want [][]int64
			for v := range int64(impl.MaxVariables) {
				if list, exists := resolvent(c, d, v); exists {
					want = append(want, list)
				}
			}
			exist += len(want)
			got, code := impl.ResolventsOf(c, d)
			expectLists(t, fmt.Sprint("ResolventsOf ", c, d), got, code, want...)
		}
	}
	if exist < 500 {
		t.Errorf("only %d samples have a resolvent", exist)
	}
	for _, c := range []struct{ c, d, want []int64 }{
		{[]int64{0, 2}, []int64{1, 2}, []int64{2}}, {[]int64{0}, []int64{1}, []int64{}}, {[]int64{10}, []int64{11}, []int64{}}, {[]int64{0, 3}, []int64{2, 5}, nil},
		{[]int64{2, 5}, []int64{0, 3}, []int64{0, 5}}, {[]int64{0, 2, 4}, []int64{1, 6, 9}, []int64{2, 4, 6, 9}},
	} {
		got, code := impl.ResolventsOf(c.c, c.d)
		if c.want == nil {
			expectLists(t, "ResolventsOf", got, code)
		} else {
			expectLists(t, "ResolventsOf", got, code, c.want)
		}
	}
	// With two variables to resolve on, the resolvent on either one has both literals of the other.
	for _, c := range [][2][]int64{{{0, 2}, {1, 3}}, {{0, 3}, {1, 2}}, {{1}, {0}}, {{0}, {0}}, {{}, {}}, {{}, {0}}, {{0}, {3}}, {{0, 2, 4}, {1, 3, 4}}} {
		got, code := impl.ResolventsOf(c[0], c[1])
		expectLists(t, fmt.Sprint("ResolventsOf ", c), got, code)
	}
}

// closureOf returns all that is resolved from clauses, found by rounds over all pairs.
func closureOf(clauses [][]int64) [][]int64 {
	known := map[string]bool{}
	var closure [][]int64
	add := func(clause []int64) {
		if !known[fmt.Sprint(clause)] {
			known[fmt.Sprint(clause)] = true
			closure = append(closure, clause)
		}
	}
	for _, clause := range clauses {
		add(clause)
	}
	for before := -1; before < len(closure); {
		before = len(closure)
		for _, c := range closure[:before] {
			for _, d := range closure[:before] {
				for v := range int64(impl.MaxVariables) {
					if list, exists := resolvent(c, d, v); exists {
						add(list)
					}
				}
			}
		}
	}
	slices.SortFunc(closure, slices.Compare)
	return closure
}

func TestResolutionClosure(t *testing.T) {
	seed := uint64(89)
	for range 400 {
		clauses := irregularClauses(&seed, nextNumber(&seed)%9, 1+nextNumber(&seed)%4)
		got, code := impl.ResolutionClosure(clauses)
		expectLists(t, fmt.Sprint("ResolutionClosure of ", clauses), got, code, closureOf(clauses)...)
		for _, prime := range primeImplicates(tableWhere(func(row int) bool { return clausesHold(clauses, row) }), 4) {
			if !slices.ContainsFunc(got, func(clause []int64) bool { return slices.Equal(clause, prime) }) {
				t.Errorf("ResolutionClosure of %v has no %v", clauses, prime)
			}
		}
	}
	for _, c := range []struct{ clauses, want [][]int64 }{
		{nil, nil}, {[][]int64{{0}, {1}}, [][]int64{{}, {0}, {1}}}, {[][]int64{{}}, [][]int64{{}}}, {[][]int64{{4}, {4}}, [][]int64{{4}}}, {[][]int64{{2}, {0, 3}, {2}}, [][]int64{{0}, {0, 3}, {2}}},
		{[][]int64{{0, 2}, {1, 3}}, [][]int64{{0, 2}, {1, 3}}}, {[][]int64{{1, 10}, {0, 10}, {11}}, [][]int64{{}, {0}, {0, 10}, {1}, {1, 10}, {10}, {11}}},
	} {
		got, code := impl.ResolutionClosure(c.clauses)
		expectLists(t, fmt.Sprint("ResolutionClosure of ", c.clauses), got, code, c.want...)
	}
	all := literalLists(impl.MaxVariables)
	got, code := impl.ResolutionClosure(all)
	expectLists(t, "ResolutionClosure of all clauses", got, code, all...)
	full := slices.DeleteFunc(slices.Clone(all), func(clause []int64) bool { return len(clause) < impl.MaxVariables })
	got, code = impl.ResolutionClosure(slices.Repeat(full, 20))
	expectLists(t, "ResolutionClosure of all clauses with all variables", got, code, all...)
}

// firstBad returns what FirstBadResolvent has to say.
func firstBad(clauses [][]int64, steps []impl.Resolvent) int64 {
	for i, step := range steps {
		isGiven := func(clause []int64) bool { return slices.Equal(clause, step.Clause) }
		if step.First == -1 && step.Second == -1 && step.Variable == -1 {
			if !slices.ContainsFunc(clauses, isGiven) {
				return int64(i)
			}
			continue
		}
		if min(step.First, step.Second) < 0 || max(step.First, step.Second) >= int64(i) {
			return int64(i)
		}
		list, exists := resolvent(steps[step.First].Clause, steps[step.Second].Clause, step.Variable)
		if !exists || !slices.Equal(list, step.Clause) {
			return int64(i)
		}
	}
	return -1
}

// irregularDerivation returns a derivation of at most count steps without visible order, in which
// clauses may occur several times.
func irregularDerivation(seed *uint64, clauses [][]int64, count int) []impl.Resolvent {
	var steps []impl.Resolvent
	for range 20 * count {
		if len(clauses) == 0 || len(steps) == count {
			break
		}
		if nextNumber(seed)%20 == 0 || len(steps) == 0 {
			clause := clauses[nextNumber(seed)%int64(len(clauses))]
			steps = append(steps, given(slices.Clone(clause)...))
			continue
		}
		i, j, v := nextNumber(seed)%int64(len(steps)), nextNumber(seed)%int64(len(steps)), nextNumber(seed)%impl.MaxVariables
		if list, exists := resolvent(steps[i].Clause, steps[j].Clause, v); exists {
			steps = append(steps, derived(i, j, v, list...))
		}
	}
	return steps
}

// changeStep makes one number, or the clause, of a step another one.
func changeStep(seed *uint64, step *impl.Resolvent) {
	number := nextNumber(seed)%14 - 3
	switch nextNumber(seed) % 5 {
	case 0:
		step.First = number
	case 1:
		step.Second = number
	case 2:
		step.Variable = number
	case 3:
		step.First, step.Second = step.Second, step.First
	default:
		step.Clause = irregularClauses(seed, 1, 3)[0]
	}
}

func TestFirstBadResolvent(t *testing.T) {
	seed := uint64(97)
	resolved, bad := 0, 0
	for range 4000 {
		clauses := irregularClauses(&seed, nextNumber(&seed)%6, 1+nextNumber(&seed)%4)
		steps := irregularDerivation(&seed, clauses, int(nextNumber(&seed)%12))
		got, code := impl.FirstBadResolvent(clauses, steps)
		expectNumber(t, fmt.Sprint("FirstBadResolvent of ", clauses, steps), got, code, -1)
		for range len(steps) {
			changed := slices.Clone(steps)
			changeStep(&seed, &changed[nextNumber(&seed)%int64(len(steps))])
			want := firstBad(clauses, changed)
			got, code = impl.FirstBadResolvent(clauses, changed)
			expectNumber(t, fmt.Sprint("FirstBadResolvent of ", clauses, changed), got, code, want)
			if want >= 0 {
				bad++
			}
		}
		if slices.ContainsFunc(steps, func(step impl.Resolvent) bool { return step.First >= 0 }) {
			resolved++
		}
	}
	if resolved < 400 || bad < 5000 {
		t.Errorf("%d samples have a resolvent, %d changed ones a bad step", resolved, bad)
	}
}

func TestBadResolvents(t *testing.T) {
	clauses := [][]int64{{0}, {1}, {0, 2}, {1, 3}, {0}, {4, 6}, {5, 6}}
	before := []impl.Resolvent{given(0), given(1), given(0, 2), given(1, 3), given(4, 6), given(5, 6)}
	for i := range len(before) + 1 {
		got, code := impl.FirstBadResolvent(clauses, before[:i])
		expectNumber(t, "FirstBadResolvent of given clauses", got, code, -1)
	}
	for _, step := range []impl.Resolvent{derived(0, 1, 0), derived(2, 1, 0, 2), derived(0, 3, 0, 3), derived(4, 5, 2, 6), given(1, 3), given(0)} {
		got, code := impl.FirstBadResolvent(clauses, append(slices.Clone(before), step, step))
		expectNumber(t, fmt.Sprint("FirstBadResolvent of ", step), got, code, -1)
	}
	number := []impl.Resolvent{
		derived(1, 0, 0), derived(0, 1, 1), derived(0, 0, 0), derived(0, 6, 0), derived(6, 1, 0), derived(6, 6, 0), derived(0, 7, 0), derived(7, 1, 0), derived(-1, 1, 0), derived(0, -1, 0), derived(0, 1, -1), derived(-2, -2, -2),
		derived(0, 1, 6), derived(0, 1, 64), derived(0, 1, math.MaxInt64), derived(0, 1, math.MinInt64), derived(0, math.MaxInt64, 0), derived(math.MinInt64, 1, 0), derived(1<<32, 1, 0), derived(0, 1<<32+1, 0), derived(0, 1, 1<<32),
		given(), derived(0, 3, 0), derived(0, 1, 2),
	}
	clause := []impl.Resolvent{
		given(2), derived(-1, -1, 0, 0), derived(-1, 0, -1, 0), derived(0, -1, -1, 0), derived(-2, -1, -1, 0), derived(-1, -2, -1, 0), derived(-1, -1, -2, 0), derived(0, 0, 0, 0),
		derived(2, 3, 0, 2, 3), derived(2, 3, 1, 0, 1), derived(2, 3, 0, 2), derived(2, 3, 0, 3), derived(2, 3, 0), derived(0, 1, 0, 0), derived(4, 5, 2, 6, 6), derived(4, 5, 2, 6, 8), derived(4, 5, 2), derived(4, 5, 2, 4, 6),
		given(0, 1), given(2, 0), given(0, 0), given(-1), given(12), given(64),
	}
	for _, step := range append(number, clause...) {
		for _, rest := range [][]impl.Resolvent{nil, {step}, {derived(0, 1, 0)}} {
			got, code := impl.FirstBadResolvent(clauses, slices.Concat(before, []impl.Resolvent{step}, rest))
			expectNumber(t, fmt.Sprint("FirstBadResolvent of ", step), got, code, 6)
		}
	}
	for _, list := range invalidClauses() {
		got, code := impl.FirstBadResolvent(clauses, append(slices.Clone(before), given(list...)))
		expectNumber(t, fmt.Sprint("FirstBadResolvent of ", list), got, code, 6)
	}
	got, code := impl.FirstBadResolvent(nil, nil)
	expectNumber(t, "FirstBadResolvent of nothing", got, code, -1)
	got, code = impl.FirstBadResolvent(nil, before)
	expectNumber(t, "FirstBadResolvent without clauses", got, code, 0)
	got, code = impl.FirstBadResolvent([][]int64{{}}, []impl.Resolvent{given(), given()})
	expectNumber(t, "FirstBadResolvent of the empty clause", got, code, -1)
}

// refutation returns the derivation that RefuteClauses has to find, step by step as the chapter
// says it, or nothing.
func refutation(clauses [][]int64) []impl.Resolvent {
	var steps []impl.Resolvent
	known := map[string]bool{}
	put := func(clause []int64, first, second, v int64) bool {
		if !known[fmt.Sprint(clause)] {
			known[fmt.Sprint(clause)] = true
			steps = append(steps, derived(first, second, v, clause...))
		}
		return len(clause) == 0
	}
	sorted := slices.Clone(clauses)
	slices.SortFunc(sorted, slices.Compare)
	for _, clause := range sorted {
		if put(clause, -1, -1, -1) {
			return steps
		}
	}
	for j := 0; j < len(steps); j++ {
		for i := range j {
			for v := range int64(impl.MaxVariables) {
				first, second := int64(i), int64(j)
				list, exists := resolvent(steps[i].Clause, steps[j].Clause, v)
				if !exists {
					first, second = second, first
					list, exists = resolvent(steps[j].Clause, steps[i].Clause, v)
				}
				if exists && put(list, first, second, v) {
					return usedSteps(steps)
				}
			}
		}
	}
	return nil
}

// usedSteps returns the last one of some steps and those that it uses, numbered anew.
func usedSteps(steps []impl.Resolvent) []impl.Resolvent {
	numbers := map[int64]int64{}
	var use func(i int64)
	use = func(i int64) {
		numbers[i] = 0
		if steps[i].First >= 0 {
			use(steps[i].First)
			use(steps[i].Second)
		}
	}
	use(int64(len(steps) - 1))
	var kept []impl.Resolvent
	for i, step := range steps {
		if _, used := numbers[int64(i)]; !used {
			continue
		}
		numbers[int64(i)] = int64(len(kept))
		if step.First >= 0 {
			step.First, step.Second = numbers[step.First], numbers[step.Second]
		}
		kept = append(kept, step)
	}
	return kept
}

// expectRefutation expects a refutation of clauses exactly if they have no model, and the one
// that the chapter describes.
func expectRefutation(t *testing.T, clauses [][]int64) {
	t.Helper()
	what := fmt.Sprint("RefuteClauses of ", clauses)
	got, code := impl.RefuteClauses(clauses)
	if hasModel(clauses) {
		expectNoSteps(t, what, got, code, impl.ErrNotFound)
		return
	}
	expectSteps(t, what, got, code, refutation(clauses)...)
	bad, code := impl.FirstBadResolvent(clauses, got)
	expectNumber(t, "FirstBadResolvent of the refutation", bad, code, -1)
	if len(got) == 0 || len(got[len(got)-1].Clause) != 0 {
		t.Errorf("%s = %v does not end with the empty clause", what, got)
	}
}

// P4: clauses have a refutation exactly if they have no common model.
func TestRefuteClauses(t *testing.T) {
	lists := literalLists(2)
	for mask := range 1 << len(lists) {
		var clauses [][]int64
		for i, list := range lists {
			if mask>>i&1 == 1 {
				clauses = append(clauses, list)
			}
		}
		slices.Reverse(clauses)
		expectRefutation(t, clauses)
	}
	seed := uint64(101)
	refuted := 0
	for i := range int64(800) {
		variables := 1 + i%6
		clauses := irregularClauses(&seed, nextNumber(&seed)%(4*variables), variables)
		clauses = slices.DeleteFunc(clauses, func(clause []int64) bool { return len(clause) == 0 && i%20 > 0 })
		expectRefutation(t, clauses)
		if !hasModel(clauses) {
			refuted++
		}
	}
	if refuted < 200 || refuted > 600 {
		t.Errorf("%d of 800 samples have a refutation", refuted)
	}
}

func TestNamedRefutations(t *testing.T) {
	for _, c := range []struct {
		clauses [][]int64
		want    []impl.Resolvent
	}{
		{[][]int64{{1}, {0}}, []impl.Resolvent{given(0), given(1), derived(0, 1, 0)}},
		{[][]int64{{}}, []impl.Resolvent{given()}}, {[][]int64{{1}, {}, {0}, {}}, []impl.Resolvent{given()}},
		{[][]int64{{3}, {1, 2}, {0}, {10}}, []impl.Resolvent{given(0), given(1, 2), given(3), derived(0, 1, 0, 2), derived(3, 2, 1)}},
		{[][]int64{{11}, {10}, {4}, {5}}, []impl.Resolvent{given(4), given(5), derived(0, 1, 2)}},
		{[][]int64{{1, 3}, {0, 2}, {1, 2}, {0, 3}, {1, 2}}, []impl.Resolvent{
			given(0, 2), given(0, 3), given(1, 2), given(1, 3), derived(0, 2, 0, 2), derived(1, 3, 0, 3), derived(4, 5, 1),
		}},
	} {
		got, code := impl.RefuteClauses(c.clauses)
		expectSteps(t, fmt.Sprint("RefuteClauses of ", c.clauses), got, code, c.want...)
	}
	for _, clauses := range [][][]int64{nil, {}, {{0}}, {{0}, {0}}, {{0, 2}, {1, 3}}, {{0}, {3}, {5}}} {
		got, code := impl.RefuteClauses(clauses)
		expectNoSteps(t, fmt.Sprint("RefuteClauses of ", clauses), got, code, impl.ErrNotFound)
	}
}

// MaxClauses clauses are refuted, one more is too many, whether or not they have a refutation and
// whether or not they are all the same.
func TestRefuteClausesLimits(t *testing.T) {
	full := slices.DeleteFunc(literalLists(impl.MaxVariables), func(clause []int64) bool { return len(clause) < impl.MaxVariables })
	five := slices.DeleteFunc(literalLists(5), func(clause []int64) bool { return len(clause) < 5 })
	expectRefutation(t, slices.Concat(five, five[:8]))
	expectRefutation(t, full[:impl.MaxClauses])
	expectRefutation(t, slices.Concat(slices.Repeat([][]int64{{4}}, 39), [][]int64{{5}}))
	expectRefutation(t, slices.Repeat([][]int64{{4}}, impl.MaxClauses))
	expectRefutation(t, slices.Repeat([][]int64{{}}, impl.MaxClauses))
	for _, clauses := range [][][]int64{
		slices.Concat(five, five[:9]), full[:41], full, slices.Concat(slices.Repeat([][]int64{{4}}, 40), [][]int64{{5}}),
		slices.Repeat([][]int64{{4}}, 41), slices.Repeat([][]int64{{}}, 41), slices.Repeat([][]int64{{0}}, 5000),
	} {
		got, code := impl.RefuteClauses(clauses)
		expectNoSteps(t, fmt.Sprint("RefuteClauses of ", len(clauses), " clauses"), got, code, impl.ErrLimit)
	}
}

// The other functions of clauses have no limit for their number.
func TestManyClauses(t *testing.T) {
	many := slices.Concat(slices.Repeat([][]int64{{0, 2}}, 5000), [][]int64{{1, 2}})
	got, code := impl.ResolutionClosure(many)
	expectLists(t, "ResolutionClosure of many clauses", got, code, []int64{0, 2}, []int64{1, 2}, []int64{2})
	bad, code := impl.FirstBadResolvent(many, append(slices.Repeat([]impl.Resolvent{given(1, 2), given(0, 2)}, 1000), derived(1999, 0, 0, 2), derived(0, 1999, 0, 2)))
	expectNumber(t, "FirstBadResolvent of many steps", bad, code, 2001)
}

// plainErrors returns the code of each function of one formula, or nothing if one of them returns
// anything else beside it.
func plainErrors(a []impl.Node, number int64) []int64 {
	table, code1 := impl.TruthTable(a)
	tautology, code2 := impl.IsTautology(a)
	row, code3 := impl.FirstModel(a)
	count, code4 := impl.CountModels(a, number)
	depends, code5 := impl.DependsOn(a)
	implicates, code6 := impl.PrimeImplicates(a)
	implicants, code7 := impl.PrimeImplicants(a)
	normal, code8 := impl.NormalFormula(a)
	forgotten, code9 := impl.ForgetVariables(a, number)
	if len(table)+len(depends)+len(implicates)+len(implicants)+len(normal)+len(forgotten) > 0 || tautology || row != 0 || count != 0 {
		return nil
	}
	return []int64{code1, code2, code3, code4, code5, code6, code7, code8, code9}
}

// pairErrors does what plainErrors does, for the functions of several formulas.
func pairErrors(a, b []impl.Node) []int64 {
	entails1, code1 := impl.ClassicalEntails([][]impl.Node{a}, b)
	entails2, code2 := impl.ClassicalEntails([][]impl.Node{{{}}, a, {{}}, b}, []impl.Node{{}})
	classes1, code3 := impl.ClassicalClasses([][]impl.Node{a, b})
	classes2, code4 := impl.ClassicalClasses([][]impl.Node{{{}}, a, {{}}, b, {{}}})
	interpolant, code5 := impl.ClassicalInterpolant(a, b)
	if entails1 || entails2 || len(classes1)+len(classes2)+len(interpolant) > 0 {
		return nil
	}
	return []int64{code1, code2, code3, code4, code5}
}

// Lists that are not formulas come before formulas that are not plain, and these before numbers
// and masks that are out of range.
func TestErrorsOfPlainFormulas(t *testing.T) {
	good := unpolish("&p>pF")
	for _, number := range []int64{0, 3, 6, -1, 7, 64, math.MinInt64, math.MaxInt64} {
		for _, a := range modalFormulas() {
			expectList(t, "the codes of "+polish(a), plainErrors(a, number), impl.ErrNone, slices.Repeat([]int64{impl.ErrState}, 9)...)
		}
		for _, bad := range invalidLists() {
			expectList(t, fmt.Sprint("the codes of ", bad), plainErrors(bad, number), impl.ErrNone, slices.Repeat([]int64{impl.ErrInvalid}, 9)...)
		}
	}
	for _, a := range modalFormulas() {
		for _, pair := range [][2][]impl.Node{{a, good}, {good, a}, {a, a}, {a, boxed(2)}} {
			expectList(t, "the codes of "+polish(a), pairErrors(pair[0], pair[1]), impl.ErrNone, slices.Repeat([]int64{impl.ErrState}, 5)...)
		}
	}
	for _, bad := range invalidLists() {
		for _, pair := range [][2][]impl.Node{{bad, good}, {good, bad}, {bad, bad}, {bad, boxed(2)}, {boxed(2), bad}, {boxed(impl.MaxNodes), bad}} {
			expectList(t, fmt.Sprint("the codes of ", bad), pairErrors(pair[0], pair[1]), impl.ErrNone, slices.Repeat([]int64{impl.ErrInvalid}, 5)...)
		}
	}
	if entails, code := impl.ClassicalEntails(nil, boxed(2)); entails || code != impl.ErrState {
		t.Errorf("ClassicalEntails of no premises and a modal formula: %v, code %d", entails, code)
	}
	if entails, code := impl.ClassicalEntails(nil, nil); entails || code != impl.ErrInvalid {
		t.Errorf("ClassicalEntails of nothing: %v, code %d", entails, code)
	}
}

// Lists that are not clauses come before too many nodes or clauses, and before bad steps.
func TestErrorsOfClauses(t *testing.T) {
	large := slices.Repeat([][]int64{{0}, {1}}, 30)
	for _, bad := range invalidClauses() {
		for _, clauses := range [][][]int64{{bad}, {{0}, bad}, {bad, {0}, {1}}, {{0}, {1}, bad, {}}, append(slices.Clone(large), bad), append([][]int64{bad}, large...)} {
			formula, code := impl.ClausesFormula(clauses)
			expectNoNodes(t, fmt.Sprint("ClausesFormula of ", bad), formula, code, impl.ErrInvalid)
			closure, code := impl.ResolutionClosure(clauses)
			expectNoLists(t, fmt.Sprint("ResolutionClosure of ", bad), closure, code, impl.ErrInvalid)
			steps, code := impl.RefuteClauses(clauses)
			expectNoSteps(t, fmt.Sprint("RefuteClauses of ", bad), steps, code, impl.ErrInvalid)
			for _, steps := range [][]impl.Resolvent{nil, {given(bad...)}, {given(0)}, {given(0, 1)}, {derived(5, 5, 5)}} {
				if index, code := impl.FirstBadResolvent(clauses, steps); index != 0 || code != impl.ErrInvalid {
					t.Errorf("FirstBadResolvent of %v and %v = %d, code %d", clauses, steps, index, code)
				}
			}
		}
		for _, pair := range [][2][]int64{{bad, {0}}, {{0}, bad}, {bad, bad}, {bad, nil}, {nil, bad}} {
			resolvents, code := impl.ResolventsOf(pair[0], pair[1])
			expectNoLists(t, fmt.Sprint("ResolventsOf ", pair), resolvents, code, impl.ErrInvalid)
		}
	}
}

// expectOwnNumbers overwrites the lists of a result, one by one, which must not change those that
// follow.
func expectOwnNumbers(t *testing.T, what string, lists [][]int64) {
	t.Helper()
	for i, list := range lists {
		if slices.Contains(list, -77) {
			t.Errorf("%s: the list %d is %v", what, i, list)
		}
		list = list[:cap(list)]
		for j := range list {
			list[j] = -77
		}
	}
}

func clausesIn(steps []impl.Resolvent) [][]int64 {
	var lists [][]int64
	for _, step := range steps {
		lists = append(lists, step.Clause)
	}
	return lists
}

// No function changes an argument or the capacity behind it, and no result shares memory with an
// argument, within itself or with a later result.
func TestClassicalArgumentsAreNeitherChangedNorShared(t *testing.T) {
	store := slices.Concat(mustParse(t, "(p>q)&(q>p)"), slices.Repeat([]impl.Node{{Kind: -9, Symbol: -9}}, 60))
	numbers := append([]int64{0, 2, 1, 3, 1, 2, 0, 3}, slices.Repeat([]int64{-9}, 30)...)
	clauses := [][]int64{numbers[0:2], numbers[2:4], numbers[4:6], numbers[6:8], numbers[2:4], {-9}}
	steps := []impl.Resolvent{given(0), given(1), derived(0, 1, 0)}
	formulas := [][]impl.Node{store[:7], store[:7], nil}
	before := fmt.Sprint(store, numbers, clauses, steps, formulas)
	a, list, premises := store[:7], clauses[:5], formulas[:2]
	for range 2 {
		table, _ := impl.TruthTable(a)
		depends, _ := impl.DependsOn(a)
		classes, _ := impl.ClassicalClasses(premises)
		expectOwnNumbers(t, "a list", [][]int64{table, depends, classes})
		implicates, _ := impl.PrimeImplicates(a)
		implicants, _ := impl.PrimeImplicants(a)
		expectOwnNumbers(t, "primes", slices.Concat(implicates, implicants))
		normal, _ := impl.NormalFormula(a)
		forgotten, _ := impl.ForgetVariables(a, 4)
		interpolant, _ := impl.ClassicalInterpolant(a, a)
		formula, _ := impl.ClausesFormula(list)
		expectOwnMemory(t, "a formula", [][]impl.Node{normal, forgotten, interpolant, formula})
		resolvents, _ := impl.ResolventsOf(list[0], []int64{1, 2})
		closure, _ := impl.ResolutionClosure(list)
		refutation, _ := impl.RefuteClauses(list)
		expectOwnNumbers(t, "clauses", slices.Concat(resolvents, closure, clausesIn(refutation)))
		impl.IsTautology(a)
		impl.FirstModel(a)
		impl.CountModels(a, 2)
		impl.ClassicalEntails(premises, a)
		impl.IsClause(list[0])
		impl.FirstBadResolvent(list, steps[:2])
		if after := fmt.Sprint(store, numbers, clauses, steps, formulas); after != before {
			t.Fatalf("an argument was changed: %s", after)
		}
		if len(implicates) != 2 || len(implicants) != 2 || len(refutation) != 7 || len(closure) < 9 || len(resolvents) != 1 || len(formula) != 31 {
			t.Errorf("the samples have changed: %v, %v, %v, %v, %v, %v", implicates, implicants, refutation, closure, resolvents, formula)
		}
	}
}
