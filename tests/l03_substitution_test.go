package tests

import (
	"math"
	"slices"
	"strings"
	"testing"

	"loop.example/g01089/impl"
)

const (
	polishVariables = "pqrstu"
	// The letters of the kinds; a variable has a letter of its own instead.
	polishKinds = "?F&|>[<"
)

// polish returns a formula as a text with one letter for each node, which the tests calculate
// with: a substitution replaces letters in it.
func polish(a []impl.Node) string {
	text := ""
	for _, node := range a {
		if node.Kind == impl.KindVariable {
			text += polishVariables[node.Symbol : node.Symbol+1]
		} else {
			text += polishKinds[node.Kind : node.Kind+1]
		}
	}
	return text
}

func unpolish(text string) []impl.Node {
	var a []impl.Node
	for _, letter := range text {
		if v := strings.IndexRune(polishVariables, letter); v >= 0 {
			a = append(a, impl.Node{Symbol: int64(v)})
		} else {
			a = append(a, impl.Node{Kind: int64(strings.IndexRune(polishKinds, letter))})
		}
	}
	return a
}

// polishPart returns the part of a formula that begins with the letter at.
func polishPart(text string, at int) string {
	missing := 1
	for end := at; ; end++ {
		switch {
		case strings.IndexByte("&|>", text[end]) >= 0:
			missing++
		case strings.IndexByte("[<", text[end]) < 0:
			missing--
		}
		if missing == 0 {
			return text[at : end+1]
		}
	}
}

// A polishMap has the images of the six variables.
type polishMap [impl.MaxVariables]string

var polishIdentity = polishMap{"p", "q", "r", "s", "t", "u"}

func polishMapOf(images [][]impl.Node) polishMap {
	m := polishMap{}
	for v, image := range images {
		m[v] = polish(image)
	}
	return m
}

func (m polishMap) images() [][]impl.Node {
	var images [][]impl.Node
	for _, text := range m {
		images = append(images, unpolish(text))
	}
	return images
}

func (m polishMap) of(text string) string {
	image := ""
	for i := range len(text) {
		if v := strings.IndexByte(polishVariables, text[i]); v >= 0 {
			image += m[v]
		} else {
			image += text[i : i+1]
		}
	}
	return image
}

func (m polishMap) with(v int, image string) polishMap {
	m[v] = image
	return m
}

// then returns the images under next of the images.
func (m polishMap) then(next polishMap) polishMap {
	for v := range m {
		m[v] = next.of(m[v])
	}
	return m
}

func (m polishMap) isTooLong() bool {
	return slices.ContainsFunc(m[:], func(text string) bool { return len(text) > impl.MaxNodes })
}

// polishUnify goes the way to a unifier that the chapter tells.
func polishUnify(a, b string) (polishMap, int64) {
	m := polishIdentity
	for a != b {
		at := 0
		for a[at] == b[at] {
			at++
		}
		c, d := polishPart(a, at), polishPart(b, at)
		x, y := strings.Index(polishVariables, c), strings.Index(polishVariables, d)
		switch {
		case x < 0 && y < 0:
			return polishMap{}, impl.ErrNotFound
		case x >= 0 && y >= 0:
			x, d = max(x, y), polishVariables[min(x, y):][:1]
		case x < 0:
			x, c, d = y, d, c
		}
		if len(d) > 1 && strings.Contains(d, c) {
			return polishMap{}, impl.ErrNotFound
		}
		step := polishIdentity.with(x, d)
		a, b, m = step.of(a), step.of(b), m.then(step)
		if len(a) > impl.MaxNodes || len(b) > impl.MaxNodes || m.isTooLong() {
			return polishMap{}, impl.ErrLimit
		}
	}
	return m, impl.ErrNone
}

// mapTexts returns the substitution that maps the first variables to the formulas with some
// texts and the others to themselves.
func mapTexts(t *testing.T, texts ...string) [][]impl.Node {
	t.Helper()
	images := polishIdentity.images()
	for v, text := range texts {
		images[v] = mustParse(t, text)
	}
	return images
}

// irregularMap returns a substitution without visible order whose images have at most size
// nodes.
func irregularMap(seed *uint64, size int64) [][]impl.Node {
	var images [][]impl.Node
	for range impl.MaxVariables {
		images = append(images, irregularTree(seed, 1+nextNumber(seed)%size).nodes())
	}
	return images
}

func expectSubstitution(t *testing.T, what string, got [][]impl.Node, code int64, want [][]impl.Node) {
	t.Helper()
	if !slices.EqualFunc(got, want, slices.Equal[[]impl.Node]) || code != impl.ErrNone {
		t.Errorf("%s = %v, code %d, want %v", what, polishMapOf(got), code, polishMapOf(want))
	}
}

func expectNoSubstitution(t *testing.T, what string, got [][]impl.Node, code, want int64) {
	t.Helper()
	if len(got) != 0 || code != want {
		t.Errorf("%s = %v, code %d, want code %d", what, got, code, want)
	}
}

func expectBool(t *testing.T, what string, got bool, code int64, want bool) {
	t.Helper()
	if got != want || code != impl.ErrNone {
		t.Errorf("%s = %v, code %d, want %v", what, got, code, want)
	}
}

// expectImage expects what SubstituteFormula has to say, which is ErrLimit of a long image.
func expectImage(t *testing.T, a []impl.Node, images [][]impl.Node) {
	t.Helper()
	want := unpolish(polishMapOf(images).of(polish(a)))
	got, code := impl.SubstituteFormula(a, images)
	if len(want) > impl.MaxNodes {
		expectNoNodes(t, "SubstituteFormula of "+polish(a), got, code, impl.ErrLimit)
	} else {
		expectNodes(t, "SubstituteFormula of "+polish(a), got, code, want)
	}
}

func TestSubstituteFormula(t *testing.T) {
	for _, c := range []struct {
		text, want string
		images     []string
	}{
		{"p>q", "q>p>p", []string{"q", "p>p"}}, {"p>q", "q>p", []string{"q", "p"}}, {"p>p", "(p&q)>p&q", []string{"p&q"}},
		{"p&q&r&s&t&u", "q&r&s&t&u&p", []string{"q", "r", "s", "t", "u", "p"}}, {"[](p><>q)", "[](<>q><>p)", []string{"<>q", "p"}},
		{"~p", "~T", []string{"T"}}, {"~p", "T", []string{"F"}}, {"p>q", "p>F", []string{"p", "F"}}, {"F", "F", []string{"q"}}, {"T", "T", []string{"q"}},
		{"u", "u", []string{"q", "q", "q", "q", "q"}},
	} {
		got, code := impl.SubstituteFormula(mustParse(t, c.text), mapTexts(t, c.images...))
		expectNodes(t, "SubstituteFormula of "+c.text, got, code, mustParse(t, c.want))
	}
	seed := uint64(31)
	for _, x := range sampleTrees() {
		a := x.nodes()
		expectImage(t, a, polishIdentity.images())
		expectImage(t, a, irregularMap(&seed, 1))
		expectImage(t, a, irregularMap(&seed, 5))
		expectImage(t, a, irregularMap(&seed, impl.MaxNodes))
	}
}

// Images and results may have MaxNodes nodes, and a long image of a variable that does not occur
// does no harm.
func TestSubstituteFormulaLimits(t *testing.T) {
	longest := boxed(impl.MaxNodes)
	for size := 1; size <= impl.MaxNodes; size++ {
		images := polishIdentity.images()
		images[0], images[1] = boxed(size), longest
		for _, c := range []struct{ text, want int }{{1, size}, {2, size + 1}, {impl.MaxNodes, size + 39}} {
			got, code := impl.SubstituteFormula(boxed(c.text), images)
			expectSize(t, "SubstituteFormula of boxes", got, code, c.want)
		}
		got, code := impl.SubstituteFormula(mustParse(t, "[](p|p)"), images)
		expectSize(t, "SubstituteFormula of [](p|p)", got, code, 2*size+2)
		got, code = impl.SubstituteFormula(mustParse(t, "p>[]p"), images)
		expectSize(t, "SubstituteFormula of p>[]p", got, code, 2*size+2)
	}
	got, code := impl.SubstituteFormula(mustParse(t, "r&F"), slices.Repeat([][]impl.Node{longest, longest, {{Kind: impl.KindFalse}}}, 2))
	expectNodes(t, "SubstituteFormula of r&F", got, code, mustParse(t, "F&F"))
	most := append(slices.Repeat([]impl.Node{{Kind: impl.KindAnd}}, 19), slices.Repeat([]impl.Node{{}}, 20)...)
	got, code = impl.SubstituteFormula(most, slices.Repeat([][]impl.Node{longest}, impl.MaxVariables))
	expectNoNodes(t, "SubstituteFormula of 20 variables", got, code, impl.ErrLimit)
}

func TestReplaceVariable(t *testing.T) {
	for _, c := range []struct {
		text string
		v    int64
		by   string
		want string
	}{
		{"p&[]p", 0, "q|r", "(q|r)&[](q|r)"}, {"p>q", 0, "p>q", "(p>q)>q"}, {"p>p", 0, "q", "q>q"}, {"p>q", 1, "F", "~p"}, {"p>q", 2, "F", "p>q"},
		{"u", 5, "~u", "~u"}, {"T", 0, "q", "T"}, {"F", 5, "q", "F"},
	} {
		got, code := impl.ReplaceVariable(mustParse(t, c.text), c.v, mustParse(t, c.by))
		expectNodes(t, "ReplaceVariable in "+c.text, got, code, mustParse(t, c.want))
	}
	seed := uint64(37)
	for _, x := range sampleTrees() {
		a, v := x.nodes(), nextNumber(&seed)%impl.MaxVariables
		b := irregularTree(&seed, 1+nextNumber(&seed)%6).nodes()
		want := strings.ReplaceAll(polish(a), polishVariables[v:v+1], polish(b))
		got, code := impl.ReplaceVariable(a, v, b)
		expectSize(t, "ReplaceVariable", got, code, len(want))
		if code == impl.ErrNone && polish(got) != want {
			t.Errorf("ReplaceVariable(%v, %d, %v) = %v", a, v, b, got)
		}
	}
	for size := 1; size <= impl.MaxNodes; size++ {
		got, code := impl.ReplaceVariable(mustParse(t, "[](p|p)"), 0, boxed(size))
		expectSize(t, "ReplaceVariable in [](p|p)", got, code, 2*size+2)
		got, code = impl.ReplaceVariable(boxed(size), 0, boxed(2))
		expectSize(t, "ReplaceVariable in boxes", got, code, size+1)
	}
}

func TestComposeSubstitutions(t *testing.T) {
	got, code := impl.ComposeSubstitutions(mapTexts(t, "q", "r"), mapTexts(t, "s", "~p", "q"))
	expectSubstitution(t, "ComposeSubstitutions", got, code, mapTexts(t, "~p", "q", "q"))
	swap := mapTexts(t, "q", "p")
	got, code = impl.ComposeSubstitutions(swap, swap)
	expectSubstitution(t, "ComposeSubstitutions of a swap", got, code, polishIdentity.images())
	turn := mapTexts(t, "q", "r", "s", "t", "u", "p")
	got, code = impl.ComposeSubstitutions(turn, turn)
	expectSubstitution(t, "ComposeSubstitutions of a turn", got, code, mapTexts(t, "r", "s", "t", "u", "p", "q"))
	seed := uint64(41)
	for range 300 {
		images := irregularMap(&seed, impl.MaxNodes)
		got, code = impl.ComposeSubstitutions(images, polishIdentity.images())
		expectSubstitution(t, "ComposeSubstitutions with the identity behind", got, code, images)
		got, code = impl.ComposeSubstitutions(polishIdentity.images(), images)
		expectSubstitution(t, "ComposeSubstitutions with the identity before", got, code, images)
	}
}

// One image that is too long is enough, whichever it is.
func TestComposeSubstitutionsLimits(t *testing.T) {
	for v := range impl.MaxVariables {
		for size := 1; size <= impl.MaxNodes; size++ {
			first, second := polishIdentity.images(), polishIdentity.images()
			first[v], second[0] = mustParse(t, "[](p|p)"), boxed(size)
			want := polishMapOf(first).then(polishMapOf(second))
			got, code := impl.ComposeSubstitutions(first, second)
			if 2*size+2 > impl.MaxNodes {
				expectNoSubstitution(t, "ComposeSubstitutions", got, code, impl.ErrLimit)
			} else {
				expectSubstitution(t, "ComposeSubstitutions", got, code, want.images())
			}
		}
	}
}

// P3: the image under a composed substitution is the image of the image.
func TestSubstitutionsCompose(t *testing.T) {
	seed := uint64(43)
	composed := 0
	for range 4000 {
		first, second := irregularMap(&seed, 4), irregularMap(&seed, 4)
		both, code := impl.ComposeSubstitutions(first, second)
		if code == impl.ErrLimit {
			continue
		}
		expectSubstitution(t, "ComposeSubstitutions", both, code, polishMapOf(first).then(polishMapOf(second)).images())
		a := irregularTree(&seed, 1+nextNumber(&seed)%6).nodes()
		between, betweenCode := impl.SubstituteFormula(a, first)
		got, gotCode := impl.SubstituteFormula(a, both)
		if betweenCode != impl.ErrNone || gotCode != impl.ErrNone {
			continue
		}
		want, wantCode := impl.SubstituteFormula(between, second)
		if !slices.Equal(got, want) || wantCode != impl.ErrNone {
			t.Errorf("the image of %v is %v, but that of its image is %v, code %d", a, got, want, wantCode)
		}
		composed++
	}
	if composed < 2000 {
		t.Errorf("only %d samples are within the limit", composed)
	}
}

func TestMatchFormula(t *testing.T) {
	for _, c := range []struct {
		a, b   string
		images []string
	}{
		{"p>p", "~q>~q", []string{"~q"}}, {"p>q", "q>p", []string{"q", "p"}}, {"p", "p", nil}, {"p", "~p", []string{"~p"}}, {"p>q", "p>p", []string{"p", "p"}},
		{"p>q", "~r", []string{"r", "F"}}, {"~p", "T", []string{"F"}}, {"p>p", "T", []string{"F"}}, {"p&(q|p)", "r&q&([]s|r&q)", []string{"r&q", "[]s"}},
		{"T", "T", nil}, {"F", "F", nil}, {"[]p><>q", "[](q>q)><>T", []string{"q>q", "T"}}, {"u", "p", []string{"p", "q", "r", "s", "t", "p"}},
	} {
		got, code := impl.MatchFormula(mustParse(t, c.a), mustParse(t, c.b))
		expectSubstitution(t, "MatchFormula of "+c.a+" and "+c.b, got, code, mapTexts(t, c.images...))
	}
	for _, c := range [][2]string{
		{"p>p", "p>q"}, {"p>p", "q>p"}, {"p>p", "p>p&p"}, {"p>q", "p&q"}, {"p&q", "p"}, {"F", "p"}, {"F", "T"}, {"T", "F"}, {"~p", "p"}, {"~p", "p>q"},
		{"[]p", "<>p"}, {"[]p", "p"}, {"p&q&p", "r&s&t"}, {"p&[]p", "[]q&q"}, {"p&(p&p)", "q&q&q"}, {"T", "F>p"},
	} {
		got, code := impl.MatchFormula(mustParse(t, c[0]), mustParse(t, c[1]))
		expectNoSubstitution(t, "MatchFormula of "+c[0]+" and "+c[1], got, code, impl.ErrNotFound)
	}
	longest := boxed(impl.MaxNodes)
	got, code := impl.MatchFormula(unpolish("p"), longest)
	expectSubstitution(t, "MatchFormula of p", got, code, append([][]impl.Node{longest}, polishIdentity.images()[1:]...))
	got, code = impl.MatchFormula(longest, longest)
	expectSubstitution(t, "MatchFormula of a formula and itself", got, code, polishIdentity.images())
	got, code = impl.MatchFormula(longest, unpolish("p"))
	expectNoSubstitution(t, "MatchFormula of boxes and p", got, code, impl.ErrNotFound)
}

// polishMatches returns all substitutions that match a to b and move only variables of a, which
// are among p and u: their images can only be parts of b.
func polishMatches(a, b string) []polishMap {
	found := []polishMap{polishIdentity}
	for v, letter := range polishVariables {
		if !strings.ContainsRune(a, letter) {
			continue
		}
		var more []polishMap
		for _, m := range found {
			for at := range len(b) {
				more = append(more, m.with(v, polishPart(b, at)))
			}
		}
		found = more
	}
	found = slices.DeleteFunc(found, func(m polishMap) bool { return m.of(a) != b })
	slices.SortFunc(found, func(x, y polishMap) int { return slices.Compare(x[:], y[:]) })
	return slices.Compact(found)
}

// P3: a match is found exactly if there is one.
func TestMatchesAreFound(t *testing.T) {
	trees := treesUpTo(5)
	patterns, instances := slices.Concat(trees[:5]...), slices.Concat(trees...)
	matched := 0
	for i, x := range patterns {
		for j, y := range instances {
			if len(y.nodes()) == 5 && (i+j)%7 > 0 {
				continue
			}
			a, b := x.nodes(), y.nodes()
			want := polishMatches(polish(a), polish(b))
			got, code := impl.MatchFormula(a, b)
			if len(want) > 1 {
				t.Fatalf("%d substitutions match %v to %v", len(want), a, b)
			}
			if len(want) == 0 {
				expectNoSubstitution(t, "MatchFormula of "+polish(a)+" and "+polish(b), got, code, impl.ErrNotFound)
				continue
			}
			expectSubstitution(t, "MatchFormula of "+polish(a)+" and "+polish(b), got, code, want[0].images())
			matched++
		}
	}
	if matched < 1000 {
		t.Errorf("only %d samples match", matched)
	}
}

// A match leads from a formula to its image, and one wrong node in the image leaves none or
// another one that leads to it.
func TestMatchesOfImages(t *testing.T) {
	seed := uint64(47)
	for range 3000 {
		a := irregularTree(&seed, 1+nextNumber(&seed)%8).nodes()
		images := irregularMap(&seed, 5)
		b := unpolish(polishMapOf(images).of(polish(a)))
		if len(b) > impl.MaxNodes {
			continue
		}
		for v := range images {
			if !slices.Contains(a, impl.Node{Symbol: int64(v)}) {
				images[v] = []impl.Node{{Symbol: int64(v)}}
			}
		}
		got, code := impl.MatchFormula(a, b)
		expectSubstitution(t, "MatchFormula of "+polish(a), got, code, images)
		b[len(b)-1] = impl.Node{Symbol: nextNumber(&seed) % impl.MaxVariables}
		got, code = impl.MatchFormula(a, b)
		if code == impl.ErrNone && polishMapOf(got).of(polish(a)) != polish(b) || code != impl.ErrNone && code != impl.ErrNotFound {
			t.Errorf("MatchFormula(%v, %v) = %v, code %d", a, b, got, code)
		}
	}
}

func TestUnifyFormulas(t *testing.T) {
	for _, c := range []struct {
		a, b   string
		images []string
	}{
		{"p>q", "q>r", []string{"p", "p", "p"}}, {"p", "p", nil}, {"p", "q", []string{"p", "p"}}, {"q", "p", []string{"p", "p"}}, {"p&q", "q&p", []string{"p", "p"}},
		{"p&q", "[]q&~r", []string{"[]~r", "~r"}}, {"p", "~q", []string{"~q"}}, {"~q", "p", []string{"~q"}}, {"p>p", "q>F", []string{"F", "F"}}, {"p>p", "~F", []string{"F"}},
		{"T", "T", nil}, {"F", "p", []string{"F"}}, {"p>q", "~p", []string{"p", "F"}}, {"(p>q)&(q>r)", "(s>t)&(t>u)", []string{"p", "q", "r", "p", "q", "r"}},
		{"t&u", "u&r", []string{"p", "q", "r", "s", "r", "r"}}, {"p&(q&r)", "(q|q)&((r|r)&s)", []string{"(r|r)|(r|r)", "r|r", "r", "r"}},
		{"q&p", "p&[]r", []string{"[]r", "[]r"}}, {"p|(q|p)", "q|([]r|s)", []string{"[]r", "[]r", "r", "[]r"}},
	} {
		images := mapTexts(t, c.images...)
		got, code := impl.UnifyFormulas(mustParse(t, c.a), mustParse(t, c.b))
		expectSubstitution(t, "UnifyFormulas of "+c.a+" and "+c.b, got, code, images)
	}
	for _, c := range [][2]string{
		{"p", "~p"}, {"~p", "p"}, {"u", "[]u"}, {"p>q", "p&q"}, {"F", "T"}, {"[]p", "<>p"}, {"p&p", "q&[]q"}, {"p&q", "[]q&[]p"}, {"p&q&p", "q&[]r&r"},
		{"p&(q&F)", "[]q&(r&T)"}, {"(p>p)>p", "q>[]q"}, {"p|F", "[]q|T"},
	} {
		got, code := impl.UnifyFormulas(mustParse(t, c[0]), mustParse(t, c[1]))
		expectNoSubstitution(t, "UnifyFormulas of "+c[0]+" and "+c[1], got, code, impl.ErrNotFound)
	}
	longest := boxed(impl.MaxNodes)
	got, code := impl.UnifyFormulas(unpolish("u"), longest)
	expectSubstitution(t, "UnifyFormulas of u", got, code, polishIdentity.with(5, polish(longest)).images())
	got, code = impl.UnifyFormulas(longest, unpolish("p"))
	expectNoSubstitution(t, "UnifyFormulas of boxes and p", got, code, impl.ErrNotFound)
}

// smallMaps returns substitutions that give p and u small images.
func smallMaps() []polishMap {
	var maps []polishMap
	for i, x := range slices.Concat(treesUpTo(3)...) {
		for j, y := range slices.Concat(treesUpTo(3)...) {
			if i < 9 || j < 9 {
				maps = append(maps, polishIdentity.with(0, polish(x.nodes())).with(5, polish(y.nodes())))
			}
		}
	}
	return maps
}

// P3: the result unifies, each other unifier goes through it, and where there is no result there
// is no unifier.
func TestResultsOfUnificationAreMostGeneral(t *testing.T) {
	maps := smallMaps()
	var formulas []string
	images := map[string][]string{}
	for _, x := range slices.Concat(treesUpTo(4)...) {
		a := polish(x.nodes())
		formulas = append(formulas, a)
		for _, m := range maps {
			images[a] = append(images[a], m.of(a))
		}
	}
	found := map[int64]int{}
	for _, a := range formulas {
		for _, b := range formulas {
			got, code := impl.UnifyFormulas(unpolish(a), unpolish(b))
			found[code]++
			general := polishMapOf(got)
			if code == impl.ErrNone && (len(got) != impl.MaxVariables || general.of(a) != general.of(b)) {
				t.Errorf("UnifyFormulas of %s and %s = %v, which is no unifier", a, b, general)
			}
			for i, m := range maps {
				if images[a][i] == images[b][i] {
					expectThrough(t, general, code, m)
				}
			}
		}
	}
	if found[impl.ErrNone] < 500 || found[impl.ErrNotFound] < 500 || len(found) != 2 {
		t.Errorf("codes of UnifyFormulas: %v", found)
	}
}

// expectThrough expects that there is a result, and that a unifier goes through it. The images of
// the result do not change under the result, so that the unifier can only go through it by itself.
func expectThrough(t *testing.T, general polishMap, code int64, unifier polishMap) {
	t.Helper()
	if code != impl.ErrNone || general.then(unifier) != unifier {
		t.Errorf("UnifyFormulas = %v, code %d, but %v is a unifier", general, code, unifier)
	}
}

// generalized returns a formula in which some parts have been replaced by variables.
func generalized(seed *uint64, text string) string {
	for range 1 + nextNumber(seed)%4 {
		at := int(nextNumber(seed) % int64(len(text)))
		letter := polishVariables[nextNumber(seed)%impl.MaxVariables:][:1]
		text = text[:at] + letter + text[at+len(polishPart(text, at)):]
	}
	return text
}

// expectUnification expects the result of the way that the chapter tells, step by step.
func expectUnification(t *testing.T, a, b string) int64 {
	t.Helper()
	want, wantCode := polishUnify(a, b)
	got, code := impl.UnifyFormulas(unpolish(a), unpolish(b))
	if wantCode == impl.ErrNone {
		expectSubstitution(t, "UnifyFormulas of "+a+" and "+b, got, code, want.images())
	} else {
		expectNoSubstitution(t, "UnifyFormulas of "+a+" and "+b, got, code, wantCode)
	}
	return code
}

func TestUnificationGoesItsWay(t *testing.T) {
	seed := uint64(53)
	found := map[int64]int{}
	for range 20000 {
		whole := polish(irregularTree(&seed, 1+nextNumber(&seed)%impl.MaxNodes).nodes())
		found[expectUnification(t, generalized(&seed, whole), generalized(&seed, whole))]++
	}
	if found[impl.ErrNone] < 500 || found[impl.ErrNotFound] < 500 || found[impl.ErrLimit] < 50 {
		t.Errorf("codes of UnifyFormulas: %v", found)
	}
	for _, x := range slices.Concat(treesUpTo(4)...) {
		for _, y := range slices.Concat(treesUpTo(3)...) {
			expectUnification(t, polish(x.nodes()), polish(y.nodes()))
			expectUnification(t, polish(y.nodes()), polish(x.nodes()))
		}
	}
}

func TestUnifyFormulasLimits(t *testing.T) {
	boxes := func(size int) string { return polish(boxed(size)) }
	for size := 1; size <= 18; size++ {
		// The second formula gets the part once more, and is the longer one on the way.
		b := "[&" + strings.Replace(boxes(size+1), "p", "q", 1) + "p"
		want := int64(impl.ErrNone)
		if 2*(size+1)+2 > impl.MaxNodes {
			want = impl.ErrLimit
		}
		if code := expectUnification(t, "[&pr", b); code != want {
			t.Errorf("UnifyFormulas with a part of %d nodes: code %d", size+1, code)
		}
	}
	for _, c := range []struct {
		a, b string
		want int64
	}{
		// q&q, r&r, s&s and t&t double the size again and again.
		{"&p&q&rs", "&&qq&&rr&&ssF", impl.ErrNone},
		{"&p&q&rs", "&&qq&&rr&&ss[F", impl.ErrLimit},
		{"&p&qr", "&&qq&&rrs", impl.ErrNone},
		{"[&p&qr", "[&&qq&&rr&ss", impl.ErrNone},
		{"&p&q&rs", "&&qq&&rr&&ss&tt", impl.ErrLimit},
		// More than MaxNodes nodes come before what has no result, or are not reached.
		{"&p&pF", "&" + strings.Replace(boxes(20), "p", "q", 1) + "&p[F", impl.ErrLimit},
		{"&F&pp", "&[F&" + strings.Replace(boxes(20), "p", "q", 1) + "p", impl.ErrNotFound},
		{"&p&pp", "&" + strings.Replace(boxes(20), "p", "q", 1) + "&pp", impl.ErrLimit},
		{"&pq", "&" + strings.Replace(boxes(20), "p", "q", 1) + "p", impl.ErrLimit},
		{"&pr", "&" + strings.Replace(boxes(20), "p", "q", 1) + "p", impl.ErrLimit},
		{"&pq", "&" + strings.Replace(boxes(19), "p", "q", 1) + "p", impl.ErrNotFound},
		{"&pr", "&" + strings.Replace(boxes(19), "p", "q", 1) + "p", impl.ErrNone},
	} {
		if code := expectUnification(t, c.a, c.b); code != c.want {
			t.Errorf("UnifyFormulas of %s and %s: code %d, want %d", c.a, c.b, code, c.want)
		}
	}
}

// polarities returns the polarities of all nodes of a tree in order.
func (x tree) polarities(own int64) []int64 {
	list := []int64{own}
	for i, part := range x.parts {
		below := own
		if x.node.Kind == impl.KindImply && i == 0 {
			below = -own
		}
		list = append(list, part.polarities(below)...)
	}
	return list
}

func TestPolarities(t *testing.T) {
	for _, x := range sampleTrees() {
		a, polarities := x.nodes(), x.polarities(1)
		want := make([]int64, impl.MaxVariables)
		for i, node := range a {
			got, code := impl.NodePolarity(a, int64(i))
			expectNumber(t, "NodePolarity", got, code, polarities[i])
			if node.Kind == impl.KindVariable && polarities[i] == 1 {
				want[node.Symbol] |= 1
			} else if node.Kind == impl.KindVariable {
				want[node.Symbol] |= 2
			}
		}
		for v := range int64(impl.MaxVariables) {
			got, code := impl.VariablePolarity(a, v)
			expectNumber(t, "VariablePolarity", got, code, want[v])
		}
	}
	for _, c := range []struct {
		text string
		want []int64
	}{
		{"(p>q)>r", []int64{1, -1, 1, -1, 1}}, {"~p", []int64{1, -1, 1}}, {"~~p", []int64{1, -1, 1, -1, 1}}, {"T", []int64{1, -1, 1}}, {"p", []int64{1}},
		{"p>q>r", []int64{1, -1, 1, -1, 1}}, {"[](p>q)&p", []int64{1, 1, 1, -1, 1, 1}}, {"<>[]p>q|p", []int64{1, -1, -1, -1, 1, 1, 1}},
	} {
		for i, want := range c.want {
			got, code := impl.NodePolarity(mustParse(t, c.text), int64(i))
			expectNumber(t, "NodePolarity in "+c.text, got, code, want)
		}
	}
	for _, c := range []struct {
		text string
		v    int64
		want int64
	}{
		{"p", 0, 1}, {"p", 1, 0}, {"~p", 0, 2}, {"~~p", 0, 1}, {"p>p", 0, 3}, {"p>q", 0, 2}, {"p>q", 1, 1}, {"(p>q)>p", 0, 1}, {"(p>q)>q", 1, 3},
		{"p&~p", 0, 3}, {"[]u><>u", 5, 3}, {"p|p", 0, 1}, {"(p&p)>q", 0, 2}, {"T", 0, 0}, {"p&q", 2, 0},
	} {
		got, code := impl.VariablePolarity(mustParse(t, c.text), c.v)
		expectNumber(t, "VariablePolarity in "+c.text, got, code, c.want)
	}
}

// unguarded returns the nodes of a tree that are not below a modality.
func (x tree) unguarded() []impl.Node {
	list := []impl.Node{x.node}
	if x.node.Kind == impl.KindBox || x.node.Kind == impl.KindDiamond {
		return list
	}
	for _, part := range x.parts {
		list = append(list, part.unguarded()...)
	}
	return list
}

func TestIsGuarded(t *testing.T) {
	for _, x := range sampleTrees() {
		unguarded := x.unguarded()
		for v := range int64(impl.MaxVariables) {
			got, code := impl.IsGuarded(x.nodes(), v)
			expectBool(t, "IsGuarded in "+polish(x.nodes()), got, code, !slices.Contains(unguarded, impl.Node{Symbol: v}))
		}
	}
	for _, c := range []struct {
		text string
		v    int64
		want bool
	}{
		{"[]p>p", 0, false}, {"p>[]p", 0, false}, {"[]p><>(q&p)", 0, true}, {"[]p><>(q&p)", 1, true}, {"[]p><>(q&p)", 2, true}, {"p", 0, false}, {"p", 1, true},
		{"[]p", 0, true}, {"<>p", 0, true}, {"F", 0, true}, {"~[](p>q)&q", 0, true}, {"~[](p>q)&q", 1, false}, {"[][]u|[]u", 5, true},
	} {
		got, code := impl.IsGuarded(mustParse(t, c.text), c.v)
		expectBool(t, "IsGuarded in "+c.text, got, code, c.want)
	}
}

// withPart returns a tree in which the tree at a node is replaced.
func (x tree) withPart(at int, part tree) tree {
	if at == 0 {
		return part
	}
	changed := tree{node: x.node}
	begin := 1
	for _, old := range x.parts {
		end := begin + len(old.nodes())
		if at >= begin && at < end {
			old = old.withPart(at-begin, part)
		}
		changed.parts = append(changed.parts, old)
		begin = end
	}
	return changed
}

func TestReplacePart(t *testing.T) {
	got, code := impl.ReplacePart(mustParse(t, "p&q"), 1, mustParse(t, "r>s"))
	expectNodes(t, "ReplacePart", got, code, mustParse(t, "(r>s)&q"))
	got, code = impl.ReplacePart(mustParse(t, "p&q"), 0, mustParse(t, "r>s"))
	expectNodes(t, "ReplacePart of the whole", got, code, mustParse(t, "r>s"))
	got, code = impl.ReplacePart(mustParse(t, "[](p|q)>q"), 1, mustParse(t, "F"))
	expectNodes(t, "ReplacePart of a part with parts", got, code, mustParse(t, "F>q"))
	seed := uint64(59)
	for _, x := range sampleTrees() {
		y := irregularTree(&seed, 1+nextNumber(&seed)%impl.MaxNodes)
		for at := range x.nodes() {
			want := x.withPart(at, y).nodes()
			got, code := impl.ReplacePart(x.nodes(), int64(at), y.nodes())
			expectSize(t, "ReplacePart", got, code, len(want))
			if code == impl.ErrNone {
				expectNodes(t, "ReplacePart", got, code, want)
			}
		}
	}
	for size := 1; size <= impl.MaxNodes; size++ {
		got, code = impl.ReplacePart(boxed(4), 3, boxed(size))
		expectSize(t, "ReplacePart in boxes", got, code, 3+size)
		got, code = impl.ReplacePart(boxed(impl.MaxNodes), 20, boxed(size))
		expectSize(t, "ReplacePart in the longest formula", got, code, 20+size)
		got, code = impl.ReplacePart(boxed(impl.MaxNodes), 0, boxed(size))
		expectSize(t, "ReplacePart of the longest formula", got, code, size)
	}
}

func TestOccurrencesOf(t *testing.T) {
	for _, x := range sampleTrees() {
		parts := []string{"p", "u", "F"}
		indices := map[string][]int64{}
		for i, part := range x.all() {
			text := polish(part.nodes())
			parts = append(parts, text)
			indices[text] = append(indices[text], int64(i))
		}
		for _, part := range parts {
			got, code := impl.OccurrencesOf(x.nodes(), unpolish(part))
			expectList(t, "OccurrencesOf "+part, got, code, indices[part]...)
		}
	}
	for _, c := range []struct {
		a, b string
		want []int64
	}{
		{"p>(p>q)&p", "p", []int64{1, 4, 6}}, {"p>(p>q)&p", "p>q", []int64{3}}, {"p>(p>q)&p", "q>p", nil}, {"p", "p", []int64{0}}, {"p", "p&p", nil}, {"p&p&p", "p&p", []int64{1}},
		{"~T", "F", []int64{2, 3, 4}}, {"~T", "T", []int64{1}}, {"[][]u", "[]u", []int64{1}}, {"q&q|q&q", "q&q", []int64{1, 4}},
	} {
		got, code := impl.OccurrencesOf(mustParse(t, c.a), mustParse(t, c.b))
		expectList(t, "OccurrencesOf in "+c.a, got, code, c.want...)
	}
}

// normal returns n of a tree as the chapter says it, and opposite m.
func (x tree) normal() tree {
	switch x.node.Kind {
	case impl.KindAnd, impl.KindOr:
		return joinTrees(x.node.Kind, x.parts[0].normal(), x.parts[1].normal())
	case impl.KindBox, impl.KindDiamond:
		return joinTrees(x.node.Kind, x.parts[0].normal())
	case impl.KindImply:
		firstFalse, secondFalse := x.parts[0].node.Kind == impl.KindFalse, x.parts[1].node.Kind == impl.KindFalse
		switch {
		case firstFalse && secondFalse:
			return joinTrees(impl.KindImply, atomTree(impl.KindFalse, 0), atomTree(impl.KindFalse, 0))
		case secondFalse:
			return x.parts[0].opposite()
		}
		return joinTrees(impl.KindOr, x.parts[0].opposite(), x.parts[1].normal())
	}
	return x
}

func (x tree) opposite() tree {
	switch x.node.Kind {
	case impl.KindAnd:
		return joinTrees(impl.KindOr, x.parts[0].opposite(), x.parts[1].opposite())
	case impl.KindOr:
		return joinTrees(impl.KindAnd, x.parts[0].opposite(), x.parts[1].opposite())
	case impl.KindBox:
		return joinTrees(impl.KindDiamond, x.parts[0].opposite())
	case impl.KindDiamond:
		return joinTrees(impl.KindBox, x.parts[0].opposite())
	case impl.KindImply:
		firstFalse, secondFalse := x.parts[0].node.Kind == impl.KindFalse, x.parts[1].node.Kind == impl.KindFalse
		switch {
		case firstFalse && secondFalse:
			return atomTree(impl.KindFalse, 0)
		case secondFalse:
			return x.parts[0].normal()
		}
		return joinTrees(impl.KindAnd, x.parts[0].normal(), x.parts[1].opposite())
	}
	return joinTrees(impl.KindImply, x, atomTree(impl.KindFalse, 0))
}

// expectNormal expects a negation normal form, or ErrLimit if it is too long.
func expectNormal(t *testing.T, a []impl.Node, positive bool, want []impl.Node) {
	t.Helper()
	got, code := impl.NegationNormal(a, positive)
	if len(want) > impl.MaxNodes {
		expectNoNodes(t, "NegationNormal of "+polish(a), got, code, impl.ErrLimit)
	} else {
		expectNodes(t, "NegationNormal of "+polish(a), got, code, want)
	}
}

func TestNegationNormal(t *testing.T) {
	for _, x := range append(slices.Concat(treesUpTo(6)...), sampleTrees()...) {
		expectNormal(t, x.nodes(), true, x.normal().nodes())
		expectNormal(t, x.nodes(), false, x.opposite().nodes())
	}
	for _, c := range []struct{ text, positive, negative string }{
		{"[](p>q)", "[](~p|q)", "<>(p&~q)"}, {"p", "p", "~p"}, {"F", "F", "T"}, {"T", "T", "F"}, {"~p", "~p", "p"}, {"~~p", "p", "~p"}, {"~~~p", "~p", "p"},
		{"~T", "F", "T"}, {"~~T", "T", "F"}, {"T>p", "F|p", "T&~p"}, {"F>p", "T|p", "F&~p"}, {"p>T", "~p|T", "p&F"}, {"p>~T", "~p|F", "p&T"}, {"p>q>F", "~p|~q", "p&q"},
		{"T&p", "T&p", "F|~p"}, {"~(p|F)", "~p&T", "p|F"}, {"~p>q", "p|q", "~p&~q"}, {"~(p>q)", "p&~q", "~p|q"}, {"<>p>[]q", "[]~p|[]q", "<>p&<>~q"},
		{"~[]~p", "<>p", "[]~p"}, {"[]~<>p", "[][]~p", "<><>p"}, {"~<>F", "[]T", "<>F"}, {"~(p&~q)", "~p|q", "p&~q"}, {"(p>q)>p", "p&~q|p", "(~p|q)&~p"}, {"p>p", "~p|p", "p&~p"},
	} {
		expectNormal(t, mustParse(t, c.text), true, mustParse(t, c.positive))
		expectNormal(t, mustParse(t, c.text), false, mustParse(t, c.negative))
	}
}

// A conjunction of k variables has 2k - 1 nodes; in the normal form of its negation each has 3.
func TestNegationNormalLimits(t *testing.T) {
	for k := 1; k <= 20; k++ {
		a := append(slices.Repeat([]impl.Node{{Kind: impl.KindAnd}}, k-1), slices.Repeat([]impl.Node{{}}, k)...)
		got, code := impl.NegationNormal(a, true)
		expectNodes(t, "NegationNormal", got, code, a)
		got, code = impl.NegationNormal(a, false)
		expectSize(t, "NegationNormal of the negation", got, code, 4*k-1)
		if len(a)+1 > impl.MaxNodes {
			continue
		}
		boxedNodes := append([]impl.Node{{Kind: impl.KindBox}}, a...)
		got, code = impl.NegationNormal(boxedNodes, false)
		expectSize(t, "NegationNormal of the negation with a box", got, code, 4*k)
		if len(boxedNodes)+1 > impl.MaxNodes {
			continue
		}
		got, code = impl.NegationNormal(append([]impl.Node{{Kind: impl.KindDiamond}}, boxedNodes...), false)
		expectSize(t, "NegationNormal of the negation with two modalities", got, code, 4*k+1)
	}
	longest := boxed(impl.MaxNodes)
	got, code := impl.NegationNormal(longest, true)
	expectNodes(t, "NegationNormal of boxes", got, code, longest)
	got, code = impl.NegationNormal(longest, false)
	expectNoNodes(t, "NegationNormal of the negation of boxes", got, code, impl.ErrLimit)
}

// truthAt tells whether a tree is true at a world of a model, given by its relation and, for
// each variable, the mask of its worlds.
func (x tree) truthAt(relation, valuation []int64, world int) bool {
	var parts []bool
	switch x.node.Kind {
	case impl.KindVariable:
		return relates(valuation, int(x.node.Symbol), world)
	case impl.KindFalse:
		return false
	case impl.KindBox, impl.KindDiamond:
		isBox := x.node.Kind == impl.KindBox
		for next := range relation {
			if relates(relation, world, next) && x.parts[0].truthAt(relation, valuation, next) != isBox {
				return !isBox
			}
		}
		return isBox
	}
	for _, part := range x.parts {
		parts = append(parts, part.truthAt(relation, valuation, world))
	}
	switch x.node.Kind {
	case impl.KindAnd:
		return parts[0] && parts[1]
	case impl.KindOr:
		return parts[0] || parts[1]
	}
	return !parts[0] || parts[1]
}

// treeOf returns the tree that a formula begins with, and its number of nodes.
func treeOf(a []impl.Node) (tree, int) {
	x, size := tree{node: a[0]}, 1
	count := []int{0, 0, 2, 2, 2, 1, 1}[a[0].Kind]
	for range count {
		part, length := treeOf(a[size:])
		x.parts = append(x.parts, part)
		size += length
	}
	return x, size
}

// A negation normal form is true where the formula, or its negation, is, and has implications
// only as negations of variables and as truth.
func TestNegationNormalMeansTheSame(t *testing.T) {
	seed := uint64(61)
	for range 4000 {
		x := irregularTree(&seed, 1+nextNumber(&seed)%14)
		relation, valuation := make([]int64, 3), make([]int64, impl.MaxVariables)
		for i := range relation {
			relation[i] = nextNumber(&seed) & 7
		}
		for v := range valuation {
			valuation[v] = nextNumber(&seed) & 7
		}
		for _, positive := range []bool{true, false} {
			got, code := impl.NegationNormal(x.nodes(), positive)
			if code != impl.ErrNone || !impl.IsFormula(got) {
				t.Fatalf("NegationNormal(%v) = %v, code %d", x.nodes(), got, code)
			}
			y, _ := treeOf(got)
			for world := range relation {
				if y.truthAt(relation, valuation, world) != (x.truthAt(relation, valuation, world) == positive) {
					t.Errorf("NegationNormal of %s, %v = %s", polish(x.nodes()), positive, polish(got))
				}
			}
			for _, part := range y.all() {
				if part.node.Kind == impl.KindImply && !(part.isNegation() && len(part.parts[0].parts) == 0) {
					t.Errorf("NegationNormal of %s, %v = %s", polish(x.nodes()), positive, polish(got))
				}
			}
		}
	}
}

// Lists that are not formulas come before variables and nodes that do not exist, and before
// results that are too long.
func TestSubstitutionErrors(t *testing.T) {
	good, longest := mustParse(t, "p&p"), boxed(impl.MaxNodes)
	for _, bad := range invalidLists() {
		for _, pair := range [][2][]impl.Node{{bad, good}, {good, bad}, {bad, bad}, {bad, longest}, {longest, bad}} {
			a, b := pair[0], pair[1]
			for _, number := range []int64{0, 1, -1, 99} {
				got, code := impl.ReplaceVariable(a, number, b)
				expectNoNodes(t, "ReplaceVariable", got, code, impl.ErrInvalid)
				got, code = impl.ReplacePart(a, number, b)
				expectNoNodes(t, "ReplacePart", got, code, impl.ErrInvalid)
			}
			images, code := impl.MatchFormula(a, b)
			expectNoSubstitution(t, "MatchFormula", images, code, impl.ErrInvalid)
			images, code = impl.UnifyFormulas(a, b)
			expectNoSubstitution(t, "UnifyFormulas", images, code, impl.ErrInvalid)
			list, code := impl.OccurrencesOf(a, b)
			if len(list) != 0 || code != impl.ErrInvalid {
				t.Errorf("OccurrencesOf(%v, %v) = %v, code %d", a, b, list, code)
			}
		}
		for _, positive := range []bool{true, false} {
			got, code := impl.NegationNormal(bad, positive)
			expectNoNodes(t, "NegationNormal", got, code, impl.ErrInvalid)
		}
		for _, number := range []int64{0, -1, 99} {
			node, nodeCode := impl.NodePolarity(bad, number)
			variable, variableCode := impl.VariablePolarity(bad, number)
			guarded, guardedCode := impl.IsGuarded(bad, number)
			if node != 0 || nodeCode != impl.ErrInvalid || variable != 0 || variableCode != impl.ErrInvalid || guarded || guardedCode != impl.ErrInvalid {
				t.Errorf("of %v and %d: NodePolarity %d, code %d; VariablePolarity %d, code %d; IsGuarded %v, code %d", bad, number, node, nodeCode, variable, variableCode, guarded, guardedCode)
			}
		}
	}
}

// badSubstitutions returns lists that are not substitutions.
func badSubstitutions() [][][]impl.Node {
	identity := polishIdentity.images()
	lists := [][][]impl.Node{nil, {}, identity[:1], identity[:5], append(slices.Clone(identity), []impl.Node{{}}), slices.Repeat(identity, 1000), make([][]impl.Node, impl.MaxVariables)}
	for i, bad := range invalidLists() {
		list := slices.Clone(identity)
		list[i%impl.MaxVariables] = bad
		lists = append(lists, list)
	}
	return lists
}

func TestErrorsOfSubstitutions(t *testing.T) {
	good, longest := polishIdentity.images(), boxed(impl.MaxNodes)
	tooLong := mapTexts(t, "p&p")
	long := polishIdentity.with(0, polish(longest)).images()
	for _, bad := range badSubstitutions() {
		for _, a := range [][]impl.Node{unpolish("p"), unpolish("F"), longest, nil, append(longest, impl.Node{})} {
			got, code := impl.SubstituteFormula(a, bad)
			expectNoNodes(t, "SubstituteFormula with bad images", got, code, impl.ErrInvalid)
		}
		for _, other := range [][][]impl.Node{good, bad, tooLong, long} {
			got, code := impl.ComposeSubstitutions(bad, other)
			expectNoSubstitution(t, "ComposeSubstitutions with bad images before", got, code, impl.ErrInvalid)
			got, code = impl.ComposeSubstitutions(other, bad)
			expectNoSubstitution(t, "ComposeSubstitutions with bad images behind", got, code, impl.ErrInvalid)
		}
	}
	for _, bad := range invalidLists() {
		for _, images := range [][][]impl.Node{good, long} {
			got, code := impl.SubstituteFormula(bad, images)
			expectNoNodes(t, "SubstituteFormula of a bad list", got, code, impl.ErrInvalid)
		}
	}
	for v := range impl.MaxVariables {
		bad := slices.Clone(good)
		bad[v] = nil
		got, code := impl.SubstituteFormula(unpolish("F"), bad)
		expectNoNodes(t, "SubstituteFormula with an empty image", got, code, impl.ErrInvalid)
	}
}

// Variables and nodes that do not exist come before results that are too long.
func TestRangesOfVariablesAndNodes(t *testing.T) {
	longest := boxed(impl.MaxNodes)
	for _, v := range []int64{-1, impl.MaxVariables, impl.MaxVariables + 1, math.MinInt64, math.MaxInt64, 1 << 32} {
		for _, a := range [][]impl.Node{unpolish("p"), unpolish("&pu"), longest} {
			got, code := impl.ReplaceVariable(a, v, longest)
			expectNoNodes(t, "ReplaceVariable", got, code, impl.ErrRange)
			polarity, code := impl.VariablePolarity(a, v)
			guarded, guardedCode := impl.IsGuarded(a, v)
			if polarity != 0 || code != impl.ErrRange || guarded || guardedCode != impl.ErrRange {
				t.Errorf("of the variable %d: VariablePolarity %d, code %d; IsGuarded %v, code %d", v, polarity, code, guarded, guardedCode)
			}
		}
	}
	for _, a := range [][]impl.Node{unpolish("p"), unpolish("&pu"), longest} {
		for _, i := range []int64{-1, int64(len(a)), int64(len(a)) + 1, math.MinInt64, math.MaxInt64, 1 << 32} {
			got, code := impl.ReplacePart(a, i, longest)
			expectNoNodes(t, "ReplacePart", got, code, impl.ErrRange)
			polarity, code := impl.NodePolarity(a, i)
			if polarity != 0 || code != impl.ErrRange {
				t.Errorf("NodePolarity of %d = %d, code %d", i, polarity, code)
			}
		}
	}
}

// expectOwnMemory overwrites the formulas of a result, one by one, which must not change those
// that follow.
func expectOwnMemory(t *testing.T, what string, result [][]impl.Node) {
	t.Helper()
	for i, a := range result {
		if !impl.IsFormula(a) {
			t.Errorf("%s: the formula %d is %v", what, i, a)
		}
		a = a[:cap(a)]
		for j := range a {
			a[j] = impl.Node{Kind: -1, Symbol: -1}
		}
	}
}

// No function changes an argument or the capacity behind it, and no result shares memory with an
// argument or within itself.
func TestSubstitutionsAreNeitherChangedNorShared(t *testing.T) {
	store := slices.Concat(mustParse(t, "[]p&(q>~p)"), slices.Repeat([]impl.Node{{Kind: -9, Symbol: -9}}, 60))
	before := slices.Clone(store)
	a, b := store[:8], mustParse(t, "r&s")
	one := store[2:3]
	images := [][]impl.Node{one, a, one, one, a, one}
	for range 2 {
		for _, pair := range [][2][]impl.Node{{a, a}, {b, a}, {a, b}, {one, a}, {unpolish("u"), a}, {a, unpolish("u")}, {one, one}} {
			match, _ := impl.MatchFormula(pair[0], pair[1])
			expectOwnMemory(t, "MatchFormula", match)
			unifier, _ := impl.UnifyFormulas(pair[0], pair[1])
			expectOwnMemory(t, "UnifyFormulas", unifier)
		}
		composed, _ := impl.ComposeSubstitutions(images, polishIdentity.images())
		expectOwnMemory(t, "ComposeSubstitutions", composed)
		composed, _ = impl.ComposeSubstitutions(polishIdentity.images(), images)
		expectOwnMemory(t, "ComposeSubstitutions", composed)
		image, _ := impl.SubstituteFormula(one, images)
		image2, _ := impl.SubstituteFormula(b, polishIdentity.images())
		replaced, _ := impl.ReplaceVariable(one, 0, a)
		part, _ := impl.ReplacePart(a, 0, a)
		part2, _ := impl.ReplacePart(a, 7, one)
		normal, _ := impl.NegationNormal(a, true)
		normal2, _ := impl.NegationNormal(one, true)
		normal3, _ := impl.NegationNormal(a, false)
		expectOwnMemory(t, "a result", [][]impl.Node{image, image2, replaced, part, part2, normal, normal2, normal3})
		impl.NodePolarity(a, 3)
		impl.VariablePolarity(a, 0)
		impl.IsGuarded(a, 0)
		impl.OccurrencesOf(a, one)
		if !slices.Equal(store, before) || polish(b) != "&rs" || polish(images[1]) != polish(a) || len(images) != impl.MaxVariables {
			t.Fatalf("an argument was changed: %v", store)
		}
	}
}
