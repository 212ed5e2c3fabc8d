package tests

import (
	"fmt"
	"math"
	"slices"
	"testing"

	"loop.example/g01089/impl"
)

// The tests do not look for the morphisms between frames for which they would have to keep more maps
// than this.
const manyMaps = 3000

// A frameMap has for each world of f a world of g, or for the first ones only.
type frameMap struct {
	f, g   impl.Frame
	images []int64
}

// keepsArrows tells whether the images of worlds that see each other do so, too.
func (m frameMap) keepsArrows() bool {
	for x, image := range m.images {
		for y, other := range m.images {
			if relates(m.f.Arrows, x, y) && !relates(m.g.Arrows, int(image), int(other)) {
				return false
			}
		}
	}
	return true
}

// liftsArrows tells whether each world that the image of a world x sees is the image of one that x sees.
func (m frameMap) liftsArrows() bool {
	for x, image := range m.images {
		for w := range m.g.Arrows {
			isLifted := false
			for y, other := range m.images {
				isLifted = isLifted || other == int64(w) && relates(m.f.Arrows, x, y)
			}
			if relates(m.g.Arrows, int(image), w) && !isLifted {
				return false
			}
		}
	}
	return true
}

func (m frameMap) isMorphism() bool { return m.keepsArrows() && m.liftsArrows() }

// mayBecomeMorphism tells what is left of isMorphism if not all worlds have images: arrows are kept, and
// the image of a world sees none exactly if the world sees none.
func (m frameMap) mayBecomeMorphism() bool {
	for x, image := range m.images {
		if (m.f.Arrows[x] == 0) != (m.g.Arrows[image] == 0) {
			return false
		}
	}
	return m.keepsArrows()
}

func (m frameMap) isOnto() bool {
	for w := range m.g.Worlds {
		if !slices.Contains(m.images, w) {
			return false
		}
	}
	return true
}

// isIsomorphism tells whether the map is a bijection that keeps and reflects arrows.
func (m frameMap) isIsomorphism() bool {
	for x, image := range m.images {
		for y, other := range m.images {
			if x != y && image == other || relates(m.f.Arrows, x, y) != relates(m.g.Arrows, int(image), int(other)) {
				return false
			}
		}
	}
	return m.f.Worlds == m.g.Worlds
}

// mapsWhere returns all maps from f to g for which holds is true, and was true of their beginnings, in
// ascending order, and whether there were few enough on the way.
func mapsWhere(f, g impl.Frame, holds func(m frameMap) bool) ([]frameMap, bool) {
	maps := []frameMap{{f: f, g: g}}
	for range f.Worlds {
		var longer []frameMap
		for _, m := range maps {
			for w := range g.Worlds {
				next := frameMap{f, g, append(slices.Clone(m.images), w)}
				if holds(next) {
					longer = append(longer, next)
				}
			}
		}
		maps = longer
		if len(maps) > manyMaps {
			return nil, false
		}
	}
	return maps, true
}

// allMaps returns all maps from f to g. There are few enough worlds for it.
func allMaps(f, g impl.Frame) []frameMap {
	maps, _ := mapsWhere(f, g, func(m frameMap) bool { return true })
	return maps
}

func imagesOf(maps []frameMap) [][]int64 {
	var lists [][]int64
	for _, m := range maps {
		lists = append(lists, m.images)
	}
	return lists
}

func identityOn(f impl.Frame) []int64 {
	images := make([]int64, len(f.Arrows))
	for w := range images {
		images[w] = int64(w)
	}
	return images
}

// leastForms returns the least forms of all frames with at most some number of worlds.
func leastForms(worlds int64) []impl.Frame {
	var frames []impl.Frame
	for n := range worlds + 1 {
		all, _ := impl.AllFrames(n)
		frames = append(frames, all...)
	}
	return frames
}

// A framePair has two frames between which there are maps.
type framePair struct{ f, g impl.Frame }

// morphicPairs returns pairs of frames of all sizes: unrelated ones, a frame in another order, a frame
// and one that it is an image of, and such ones of which one arrow is changed.
func morphicPairs() []framePair {
	seed := uint64(109)
	var pairs []framePair
	for i := range 9 * 9 * 6 {
		worlds, others := i%9, int64(i/9%9)
		g := irregularFrame(&seed, worlds, 1+int(nextNumber(&seed)%4))
		f := irregularFrame(&seed, int(others), 1+int(nextNumber(&seed)%4))
		if kind := nextNumber(&seed) % 5; worlds > 0 && kind > 0 {
			m := inflated(&seed, modelWith(g), others)
			if kind == 1 {
				m = withArrow(m, nextNumber(&seed)%m.Frame.Worlds, nextNumber(&seed)%m.Frame.Worlds)
			}
			f = m.Frame
		}
		pairs = append(pairs, framePair{f, g})
	}
	for _, f := range namedFrames() {
		for _, g := range namedFrames() {
			pairs = append(pairs, framePair{f, g})
		}
		order := arrangements(int(f.Worlds))
		pairs = append(pairs, framePair{f, reordered(f, order[len(order)*5/7])})
	}
	return pairs
}

func TestFoundConstant(t *testing.T) {
	if impl.MaxFound != 200 {
		t.Errorf("MaxFound = %d", impl.MaxFound)
	}
}

func (m frameMap) expectKind(t *testing.T) bool {
	t.Helper()
	want := m.isMorphism()
	got, code := impl.IsMorphism(m.f, m.g, m.images)
	expectBool(t, fmt.Sprint("IsMorphism of ", m), got, code, want)
	return want
}

// expectFirst expects the images of the first of some maps, or ErrNotFound if there is none.
func expectFirst(t *testing.T, what string, got []int64, code int64, maps []frameMap) {
	t.Helper()
	if len(maps) == 0 {
		expectNoList(t, what, got, code, impl.ErrNotFound)
	} else {
		expectList(t, what, got, code, maps[0].images...)
	}
}

func selected(maps []frameMap, holds func(m frameMap) bool) []frameMap {
	return slices.DeleteFunc(slices.Clone(maps), func(m frameMap) bool { return !holds(m) })
}

// expectMorphisms expects what is known from all morphisms between two frames, and returns these and
// whether they are known.
func (p framePair) expectMorphisms(t *testing.T) ([]frameMap, bool) {
	t.Helper()
	maps, areKnown := mapsWhere(p.f, p.g, frameMap.mayBecomeMorphism)
	if !areKnown {
		return nil, false
	}
	morphisms := selected(maps, frameMap.isMorphism)
	what := fmt.Sprint(" of ", p)
	list, code := impl.AllMorphisms(p.f, p.g)
	if len(morphisms) > impl.MaxFound {
		expectNoLists(t, "AllMorphisms"+what, list, code, impl.ErrLimit)
	} else {
		expectLists(t, "AllMorphisms"+what, list, code, imagesOf(morphisms)...)
	}
	first, code := impl.FindOnto(p.f, p.g)
	expectFirst(t, "FindOnto"+what, first, code, selected(morphisms, frameMap.isOnto))
	first, code = impl.FindFrameIsomorphism(p.f, p.g)
	expectFirst(t, "FindFrameIsomorphism"+what, first, code, selected(morphisms, frameMap.isIsomorphism))
	return morphisms, true
}

func TestMapsOfSmallFrames(t *testing.T) {
	frames := leastForms(3)
	for _, f := range frames {
		for _, g := range frames {
			for _, m := range allMaps(f, g) {
				m.expectKind(t)
			}
			framePair{f, g}.expectMorphisms(t)
		}
	}
	// Frames that are no least forms.
	for _, r := range slices.Concat(allRelations(1), allRelations(2)) {
		for _, other := range allRelations(2) {
			framePair{frameWith(r...), frameWith(other...)}.expectMorphisms(t)
			framePair{frameWith(other...), frameWith(r...)}.expectMorphisms(t)
		}
	}
}

func TestMapsOfLargerFrames(t *testing.T) {
	seed := uint64(113)
	counts := map[string]int{}
	for _, p := range morphicPairs() {
		morphisms, areKnown := p.expectMorphisms(t)
		if !areKnown {
			counts["unknown"]++
			continue
		}
		counts[fmt.Sprint(min(len(morphisms), 2), " from ", p.f.Worlds)]++
		counts[fmt.Sprint(min(len(morphisms), 2), " to ", p.g.Worlds)]++
		for range 20 {
			m := frameMap{f: p.f, g: p.g}
			for range p.f.Worlds {
				m.images = append(m.images, nextNumber(&seed)%max(p.g.Worlds, 1))
			}
			if len(morphisms) > 0 && p.f.Worlds > 0 {
				m.images = slices.Clone(morphisms[nextNumber(&seed)%int64(len(morphisms))].images)
				m.expectKind(t)
				m.images[nextNumber(&seed)%p.f.Worlds] = nextNumber(&seed) % p.g.Worlds
			}
			if p.f.Worlds == 0 || p.g.Worlds > 0 {
				m.expectKind(t)
			}
		}
	}
	for worlds := 1; worlds <= impl.MaxWorlds; worlds++ {
		for found := range min(3, worlds+1) {
			if counts[fmt.Sprint(found, " from ", worlds)] == 0 || counts[fmt.Sprint(found, " to ", worlds)] == 0 {
				t.Errorf("there are %v morphisms between the samples", counts)
			}
		}
	}
	if counts["unknown"] > 40 {
		t.Errorf("%d samples were left out", counts["unknown"])
	}
}

func TestNamedMorphisms(t *testing.T) {
	none, end, loop := frameWith(), frameWith(0), frameWith(1)
	two, pair, cycle := frameWith(0, 0), frameWith(2, 0), frameWith(2, 1)
	named := namedFrames()
	eight, ends, loops, chain := named[1], named[2], named[3], named[5]
	zeros := make([]int64, 8)
	for _, c := range []struct {
		f, g   impl.Frame
		images []int64
		want   bool
	}{
		{cycle, loop, []int64{0, 0}, true}, {loop, cycle, []int64{0}, false}, {loop, cycle, []int64{1}, false}, {cycle, cycle, []int64{1, 0}, true}, {cycle, cycle, []int64{0, 0}, false},
		{none, none, nil, true}, {none, none, []int64{}, true}, {none, end, nil, true}, {none, eight, nil, true},
		// What keeps arrows and lifts none, and the other way round.
		{end, loop, []int64{0}, false}, {loop, end, []int64{0}, false}, {pair, loop, []int64{0, 0}, false}, {loop, frameWith(3, 2), []int64{0}, false}, {frameWith(3, 2), loop, []int64{0, 0}, true}, {two, pair, []int64{0, 1}, false}, {pair, two, []int64{0, 1}, false},
		{eight, frameWith(3, 3), []int64{0, 0, 0, 0, 0, 0, 0, 0}, false}, {eight, frameWith(3, 3), []int64{0, 0, 0, 0, 0, 0, 0, 1}, true}, {frameWith(3, 3), eight, []int64{0, 7}, false},
		// Maps that miss worlds.
		{end, two, []int64{1}, true}, {end, pair, []int64{1}, true}, {end, pair, []int64{0}, false}, {loop, loops, []int64{7}, true}, {two, pair, []int64{1, 1}, true}, {pair, chain, []int64{6, 7}, true}, {pair, chain, []int64{5, 6}, false}, {cycle, loops, []int64{3, 3}, true}, {cycle, loops, []int64{3, 4}, false},
		// Maps onto a frame.
		{eight, loop, zeros, true}, {loops, loop, zeros, true}, {ends, end, zeros, true}, {chain, end, zeros, false}, {chain, loop, zeros, false}, {named[4], loop, zeros, true}, {named[4], cycle, []int64{0, 1, 0, 1, 0, 1, 0, 1}, true}, {named[4], cycle, []int64{0, 1, 0, 1, 0, 1, 1, 0}, false}, {named[11], cycle, []int64{0, 1, 1, 0, 0, 1, 1, 0}, true},
		{frameWith(6, 0, 0), pair, []int64{0, 1, 1}, true}, {frameWith(6, 0, 4), pair, []int64{0, 1, 1}, false}, {frameWith(6, 8, 8, 0), frameWith(2, 4, 0), []int64{0, 1, 1, 2}, true}, {frameWith(6, 8, 0, 0), frameWith(2, 4, 0), []int64{0, 1, 1, 2}, false}, {frameWith(6, 8, 0, 0), frameWith(6, 4, 0), []int64{0, 1, 2, 2}, true},
	} {
		m := frameMap{c.f, c.g, c.images}
		if m.expectKind(t) != c.want {
			t.Errorf("%v should be a morphism: %v", m, c.want)
		}
	}
	for _, f := range named {
		m := frameMap{f, f, identityOn(f)}
		if !m.expectKind(t) {
			t.Errorf("the identity on %v should be a morphism", f)
		}
	}
}

func TestNamedSearches(t *testing.T) {
	none, end, loop, cycle := frameWith(), frameWith(0), frameWith(1), frameWith(2, 1)
	named := namedFrames()
	eight, ends, loops, chain := named[1], named[2], named[3], named[5]
	for _, c := range []struct {
		f, g impl.Frame
		all  [][]int64
		onto []int64
	}{
		{cycle, loop, [][]int64{{0, 0}}, []int64{0, 0}}, {loop, cycle, nil, nil}, {cycle, cycle, [][]int64{{0, 1}, {1, 0}}, []int64{0, 1}}, {end, loop, nil, nil}, {loop, end, nil, nil},
		{end, frameWith(2, 0), [][]int64{{1}}, nil}, {frameWith(0, 0), frameWith(0, 0), [][]int64{{0, 0}, {0, 1}, {1, 0}, {1, 1}}, []int64{0, 1}}, {frameWith(0, 1), frameWith(2, 0), [][]int64{{1, 0}}, []int64{1, 0}},
		{none, none, [][]int64{{}}, []int64{}}, {none, end, [][]int64{{}}, nil}, {none, eight, [][]int64{{}}, nil}, {end, none, nil, nil}, {eight, none, nil, nil}, {ends, none, nil, nil},
		{eight, loop, [][]int64{make([]int64, 8)}, make([]int64, 8)}, {chain, chain, [][]int64{identityOn(chain)}, identityOn(chain)}, {chain, loop, nil, nil}, {loop, chain, nil, nil}, {named[6], chain, [][]int64{{7, 6, 5, 4, 3, 2, 1, 0}}, []int64{7, 6, 5, 4, 3, 2, 1, 0}},
		{named[4], cycle, [][]int64{{0, 1, 0, 1, 0, 1, 0, 1}, {1, 0, 1, 0, 1, 0, 1, 0}}, []int64{0, 1, 0, 1, 0, 1, 0, 1}}, {loop, loops, [][]int64{{0}, {1}, {2}, {3}, {4}, {5}, {6}, {7}}, nil},
	} {
		what := fmt.Sprint(" of ", c.f, c.g)
		all, code := impl.AllMorphisms(c.f, c.g)
		expectLists(t, "AllMorphisms"+what, all, code, c.all...)
		onto, code := impl.FindOnto(c.f, c.g)
		if c.onto == nil {
			expectNoList(t, "FindOnto"+what, onto, code, impl.ErrNotFound)
		} else {
			expectList(t, "FindOnto"+what, onto, code, c.onto...)
		}
	}
	// FindOnto has no limit, and returns the first of many.
	for _, c := range []struct {
		f, g impl.Frame
		want []int64
	}{
		{ends, end, make([]int64, 8)}, {ends, frameWith(0, 0), []int64{0, 0, 0, 0, 0, 0, 0, 1}}, {ends, frameWith(0, 0, 0), []int64{0, 0, 0, 0, 0, 0, 1, 2}}, {ends, frameWith(0, 0, 0, 0, 0, 0, 0), []int64{0, 0, 1, 2, 3, 4, 5, 6}}, {ends, ends, identityOn(ends)},
		{loops, loops, identityOn(loops)}, {eight, eight, identityOn(eight)}, {eight, frameWith(7, 7, 7), []int64{0, 0, 0, 0, 0, 0, 1, 2}},
	} {
		onto, code := impl.FindOnto(c.f, c.g)
		expectList(t, fmt.Sprint("FindOnto of ", c.f, c.g), onto, code, c.want...)
	}
	for _, g := range []impl.Frame{eight, loops, chain, frameWith(0, 0, 0, 0, 0, 0, 1), frameWith(0, 0, 0, 0, 0, 0, 0, 128)} {
		onto, code := impl.FindOnto(ends, g)
		expectNoList(t, fmt.Sprint("FindOnto of worlds that see none and ", g), onto, code, impl.ErrNotFound)
	}
}

// Frames between which there are exactly MaxFound morphisms, some less, one more, and many.
func TestMorphismLimit(t *testing.T) {
	eight, ends, loops := namedFrames()[1], namedFrames()[2], namedFrames()[3]
	for _, c := range []struct {
		f, g  impl.Frame
		count int
	}{
		{frameWith(0, 0, 4, 8, 16), frameWith(0, 0, 0, 0, 0, 32, 64), 200},
		{frameWith(1, 2, 4, 0, 0), frameWith(0, 2, 0, 0, 16, 0, 0), 200},
		{frameWith(16, 64, 16, 0, 0, 0, 0), frameWith(32, 44, 32, 0, 0, 0, 0, 0), 200},
		{frameWith(84, 0, 0, 224, 0, 0, 0, 0), frameWith(26, 96, 48, 192, 64, 0, 0, 0), 201},
		{frameWith(96, 0, 40, 0, 0, 0, 0), frameWith(80, 96, 80, 48, 0, 0, 0), 198},
		{frameWith(0, 0, 0), frameWith(0, 0, 0, 0, 0, 0), 216},
		{frameWith(0, 0, 0, 0, 0, 0, 0), frameWith(0, 0), 128},
		{ends, frameWith(0, 0), 256},
	} {
		p := framePair{c.f, c.g}
		if morphisms, areKnown := p.expectMorphisms(t); len(morphisms) != c.count || !areKnown {
			t.Errorf("there are %d morphisms between %v", len(morphisms), p)
		}
	}
	for _, p := range []framePair{{ends, ends}, {loops, loops}, {eight, eight}, {eight, frameWith(3, 3)}, {eight, frameWith(15, 15, 15, 15)}, {ends, frameWith(0, 0, 0, 0, 0, 0, 0)}} {
		list, code := impl.AllMorphisms(p.f, p.g)
		expectNoLists(t, fmt.Sprint("AllMorphisms of ", p), list, code, impl.ErrLimit)
	}
	// Many maps, and no morphism among them.
	for _, p := range []framePair{{loops, eight}, {ends, eight}, {ends, loops}, {loops, ends}, {frameWith(127, 127, 127, 127, 127, 127, 127), eight}, {frameWith(0, 0, 0, 0, 0, 0, 0, 128), ends}, {frameWith(0, 0, 0, 0, 0, 0, 32, 64), frameWith(0, 0, 0, 0, 0, 0, 0, 64)}} {
		list, code := impl.AllMorphisms(p.f, p.g)
		expectLists(t, fmt.Sprint("AllMorphisms of ", p), list, code)
	}
}

// Isomorphisms of frames in another order, and of frames that are nearly isomorphic.
func TestFrameIsomorphisms(t *testing.T) {
	seed := uint64(127)
	found := map[bool]int{}
	for worlds := 1; worlds <= impl.MaxWorlds; worlds++ {
		for i := range 60 {
			f := irregularFrame(&seed, worlds, i%9)
			g := reordered(f, irregularOrder(&seed, worlds))
			for range i % 3 {
				g.Arrows[nextNumber(&seed)%int64(worlds)] ^= 1 << (nextNumber(&seed) % int64(worlds))
			}
			images, code := impl.FindFrameIsomorphism(f, g)
			what := fmt.Sprint("FindFrameIsomorphism of ", f, g)
			want := areIsomorphic(f, g)
			found[want]++
			if !want {
				expectNoList(t, what, images, code, impl.ErrNotFound)
			} else if m := (frameMap{f, g, images}); code != impl.ErrNone || len(images) != worlds || !m.isIsomorphism() {
				t.Errorf("%s = %v, code %d", what, images, code)
			}
			framePair{f, g}.expectMorphisms(t)
		}
	}
	if found[true] < 150 || found[false] < 150 {
		t.Errorf("the samples are isomorphic: %v", found)
	}
	for _, c := range []struct {
		f, g impl.Frame
		want []int64
	}{
		{frameWith(2, 0), frameWith(0, 1), []int64{1, 0}}, {frameWith(), frameWith(), []int64{}}, {frameWith(), frameWith(0), nil}, {frameWith(0), frameWith(), nil}, {frameWith(0), frameWith(0), []int64{0}}, {frameWith(0), frameWith(1), nil},
		// A morphism onto a smaller frame is no isomorphism, and neither is one into a larger frame.
		{frameWith(2, 1), frameWith(1), nil}, {frameWith(0), frameWith(0, 0), nil}, {frameWith(0, 0), frameWith(0), nil},
		{namedFrames()[4], namedFrames()[10], nil}, {namedFrames()[4], frameWith(128, 1, 2, 4, 8, 16, 32, 64), []int64{0, 7, 6, 5, 4, 3, 2, 1}}, {namedFrames()[5], namedFrames()[6], []int64{7, 6, 5, 4, 3, 2, 1, 0}}, {namedFrames()[2], namedFrames()[3], nil},
		{frameWith(2, 4, 8, 16, 32, 1), frameWith(2, 4, 1, 16, 32, 8), nil}, {frameWith(34, 5, 10, 20, 40, 17), frameWith(6, 5, 3, 48, 40, 24), nil}, {frameWith(34, 5, 10, 20, 40, 17), frameWith(56, 56, 56, 7, 7, 7), nil}, {frameWith(2, 4, 8, 1), frameWith(2, 1, 8, 4), nil},
	} {
		images, code := impl.FindFrameIsomorphism(c.f, c.g)
		what := fmt.Sprint("FindFrameIsomorphism of ", c.f, c.g)
		if c.want == nil {
			expectNoList(t, what, images, code, impl.ErrNotFound)
		} else {
			expectList(t, what, images, code, c.want...)
		}
	}
}

// irregularOrder returns an order of some worlds without visible order.
func irregularOrder(seed *uint64, worlds int) []int {
	var order []int
	for w := range worlds {
		order = slices.Insert(order, int(nextNumber(seed)%int64(w+1)), w)
	}
	return order
}

func TestCountAutomorphisms(t *testing.T) {
	seed := uint64(131)
	frames := leastForms(3)
	for i := range 300 {
		frames = append(frames, irregularFrame(&seed, 4+i%5, i/5%9))
	}
	for _, f := range frames {
		if maps, areKnown := mapsWhere(f, f, func(m frameMap) bool { return m.isIsomorphism() }); areKnown {
			count, code := impl.CountAutomorphisms(f)
			expectNumber(t, fmt.Sprint("CountAutomorphisms of ", f), count, code, int64(len(maps)))
		}
	}
	named := namedFrames()
	for _, c := range []struct {
		f    impl.Frame
		want int64
	}{
		{frameWith(), 1}, {frameWith(0), 1}, {frameWith(1), 1}, {frameWith(0, 0, 0), 6}, {frameWith(0, 1), 1}, {frameWith(0, 2), 1}, {frameWith(2, 1), 2}, {frameWith(2, 4, 1), 3}, {frameWith(6, 0, 0), 2}, {frameWith(0, 0, 3), 2},
		// All permutations, and none but the identity.
		{named[1], 40320}, {named[2], 40320}, {named[3], 40320}, {frameWith(254, 253, 251, 247, 239, 223, 191, 127), 40320}, {named[5], 1}, {named[6], 1}, {named[7], 1}, {named[8], 1},
		{named[4], 8}, {named[11], 384}, {frameWith(2, 5, 10, 20, 40, 80, 160, 64), 2}, {frameWith(130, 5, 10, 20, 40, 80, 160, 65), 16}, {frameWith(0, 1, 1, 1, 1, 1, 1, 1), 5040}, {frameWith(34, 5, 10, 20, 40, 17), 12}, {frameWith(2, 4, 1, 16, 32, 8), 18}, {frameWith(0, 0, 0, 8, 16, 32), 36},
	} {
		count, code := impl.CountAutomorphisms(c.f)
		expectNumber(t, fmt.Sprint("CountAutomorphisms of ", c.f), count, code, c.want)
	}
}

// expectModelMorphism expects what the definition says of a map between models, and returns it.
func expectModelMorphism(t *testing.T, m, n impl.Model, images []int64) bool {
	t.Helper()
	want := frameMap{m.Frame, n.Frame, images}.isMorphism()
	for x, image := range images {
		want = want && pair{m, n}.haveSameVariables(x, int(image))
	}
	got, code := impl.IsModelMorphism(m, n, images)
	expectBool(t, fmt.Sprint("IsModelMorphism of ", m, n, images), got, code, want)
	return want
}

func TestIsModelMorphism(t *testing.T) {
	models := smallModels()
	for _, m := range models {
		for _, n := range models {
			for _, images := range imagesOf(allMaps(m.Frame, n.Frame)) {
				expectModelMorphism(t, m, n, images)
			}
		}
	}
	cycle, loop := frameWith(2, 1), frameWith(1)
	for _, c := range []struct {
		m, n   impl.Model
		images []int64
		want   bool
	}{
		{modelWith(cycle, 3), modelWith(loop, 1), []int64{0, 0}, true}, {modelWith(cycle, 2), modelWith(loop, 1), []int64{0, 0}, false}, {modelWith(cycle, 3), modelWith(loop), []int64{0, 0}, false}, {modelWith(cycle, 2), modelWith(cycle, 1), []int64{1, 0}, true}, {modelWith(cycle, 2), modelWith(cycle, 1), []int64{0, 1}, false},
		{modelWith(cycle, 0, 0, 0, 0, 0, 1), modelWith(loop), []int64{0, 0}, false}, {modelWith(cycle, 0, 0, 0, 0, 0, 3), modelWith(loop, 0, 0, 0, 0, 0, 1), []int64{0, 0}, true},
		// A map that keeps variables and no arrows, and maps that miss worlds.
		{modelWith(frameWith(0), 1), modelWith(loop, 1), []int64{0}, false}, {modelWith(frameWith(0), 1), modelWith(frameWith(2, 0), 2), []int64{1}, true}, {modelWith(frameWith(0), 1), modelWith(frameWith(2, 0), 3, 1), []int64{1}, true}, {modelWith(frameWith(0), 0, 1), modelWith(frameWith(2, 0), 3, 1), []int64{1}, false},
		{modelWith(frameWith()), modelWith(frameWith()), nil, true}, {modelWith(frameWith()), modelWith(loop, 1, 1), nil, true},
	} {
		if expectModelMorphism(t, c.m, c.n, c.images) != c.want {
			t.Errorf("%v from %v to %v should be a morphism: %v", c.images, c.m, c.n, c.want)
		}
	}
}

// pulledBack returns the masks of the worlds whose images are members of the masks of a list.
func pulledBack(images, values []int64) []int64 {
	masks := make([]int64, len(values))
	for i := range values {
		for x, image := range images {
			if relates(values, i, int(image)) {
				masks[i] += 1 << x
			}
		}
	}
	return masks
}

// someMorphisms returns at most some number of morphisms between two frames.
func someMorphisms(t *testing.T, p framePair, most int) []frameMap {
	t.Helper()
	list, code := impl.AllMorphisms(p.f, p.g)
	if onto, ontoCode := impl.FindOnto(p.f, p.g); ontoCode == impl.ErrNone {
		list = append(list, onto)
	} else if code == impl.ErrInvalid {
		t.Fatalf("AllMorphisms of %v: code %d", p, code)
	}
	var maps []frameMap
	for i, images := range list {
		if i < most || i >= len(list)-1 {
			maps = append(maps, frameMap{p.f, p.g, images})
		}
	}
	return maps
}

// P8, second part: a formula is true at a world exactly if it is at its image under a morphism of
// models.
func TestTruthIsKeptByMorphisms(t *testing.T) {
	seed := uint64(137)
	kept, onto := 0, 0
	for _, p := range morphicPairs() {
		for _, h := range someMorphisms(t, p, 4) {
			n := irregularModel(&seed, p.g)
			values, code := impl.PullValues(p.f, p.g, h.images, n.Values)
			expectList(t, fmt.Sprint("PullValues of ", h, n.Values), values, code, pulledBack(h.images, n.Values)...)
			m := impl.Model{Frame: p.f, Values: values}
			if !expectModelMorphism(t, m, n, h.images) {
				t.Errorf("%v should be a morphism from %v to %v", h.images, m, n)
			}
			for range 12 {
				a := irregularTree(&seed, 1+nextNumber(&seed)%30).nodes()
				atImages, _ := impl.TruthSet(n, a)
				want, _ := impl.PullValues(p.f, p.g, h.images, []int64{atImages})
				got, code := impl.TruthSet(m, a)
				expectNumber(t, fmt.Sprintf("TruthSet of %s in %v, mapped to %v by %v", polish(a), m, n, h.images), got, code, want[0])
			}
			kept++
			if h.isOnto() {
				onto++
			}
			// One variable differs at one world.
			if p.f.Worlds > 0 {
				changed := impl.Model{Frame: p.f, Values: slices.Clone(values)}
				changed.Values[nextNumber(&seed)%impl.MaxVariables] ^= 1 << (nextNumber(&seed) % p.f.Worlds)
				if expectModelMorphism(t, changed, n, h.images) {
					t.Errorf("%v should be no morphism from %v to %v", h.images, changed, n)
				}
			}
		}
	}
	if kept < 800 || onto < 300 {
		t.Errorf("%d morphisms of models, %d of them onto", kept, onto)
	}
}

func TestPullValues(t *testing.T) {
	seed := uint64(139)
	frames := leastForms(2)
	for _, f := range frames {
		for _, g := range append(frames, namedFrames()[5]) {
			for _, images := range imagesOf(allMaps(f, g)) {
				values := make([]int64, nextNumber(&seed)%9)
				for i := range values {
					values[i] = nextNumber(&seed) & (1<<g.Worlds - 1)
				}
				got, code := impl.PullValues(f, g, images, values)
				expectList(t, fmt.Sprint("PullValues of ", f, g, images, values), got, code, pulledBack(images, values)...)
			}
		}
	}
	chain, two := namedFrames()[5], frameWith(0, 0)
	for _, c := range []struct {
		f, g                 impl.Frame
		images, values, want []int64
	}{
		{two, two, []int64{1, 0}, []int64{1}, []int64{2}}, {two, two, []int64{1, 0}, nil, nil}, {two, two, []int64{1, 1}, []int64{0, 1, 2, 3}, []int64{0, 0, 3, 3}}, {frameWith(), two, nil, []int64{0, 1, 2, 3}, []int64{0, 0, 0, 0}}, {frameWith(), frameWith(), nil, []int64{0, 0}, []int64{0, 0}},
		// Maps need not be morphisms, and values may be more than there are variables.
		{chain, two, []int64{0, 1, 1, 0, 0, 0, 0, 1}, []int64{1, 2}, []int64{121, 134}}, {two, chain, []int64{7, 2}, []int64{128, 4, 255, 0, 251, 127, 132, 1, 3, 128}, []int64{1, 2, 3, 0, 1, 2, 3, 0, 0, 1}}, {chain, chain, identityOn(chain), []int64{255, 129}, []int64{255, 129}},
	} {
		got, code := impl.PullValues(c.f, c.g, c.images, c.values)
		expectList(t, fmt.Sprint("PullValues of ", c.f, c.g, c.images, c.values), got, code, c.want...)
	}
	many := slices.Repeat([]int64{2}, 1000)
	got, code := impl.PullValues(two, two, []int64{1, 0}, many)
	expectList(t, "PullValues of many values", got, code, slices.Repeat([]int64{1}, 1000)...)
}

// expectThen expects what the definition says of two maps, the first of which maps to the frame of the
// second.
func expectThen(t *testing.T, first, second frameMap) {
	t.Helper()
	what := fmt.Sprint("ThenMorphisms of ", first, second)
	got, code := impl.ThenMorphisms(first.f, first.g, second.g, first.images, second.images)
	if !first.isMorphism() || !second.isMorphism() {
		expectNoList(t, what, got, code, impl.ErrState)
		return
	}
	var want []int64
	for _, between := range first.images {
		want = append(want, second.images[between])
	}
	expectList(t, what, got, code, want...)
	frameMap{first.f, second.g, want}.expectKind(t)
}

func TestThenMorphisms(t *testing.T) {
	frames := leastForms(2)
	for _, f := range frames {
		for _, g := range frames {
			for _, h := range frames {
				for _, first := range allMaps(f, g) {
					for _, second := range allMaps(g, h) {
						expectThen(t, first, second)
					}
				}
			}
		}
	}
	pairs := morphicPairs()
	for i, p := range pairs {
		maps := someMorphisms(t, p, 2)
		next := someMorphisms(t, framePair{p.g, pairs[(i*7)%len(pairs)].g}, 2)
		next = append(next, someMorphisms(t, framePair{p.g, frameWith(1)}, 1)...)
		for _, first := range maps {
			for _, second := range next {
				expectThen(t, first, second)
			}
			expectThen(t, frameMap{p.f, p.f, identityOn(p.f)}, first)
			expectThen(t, first, frameMap{p.g, p.g, identityOn(p.g)})
		}
	}
	cycle, loop, end := frameWith(2, 1), frameWith(1), frameWith(0)
	got, code := impl.ThenMorphisms(cycle, cycle, loop, []int64{1, 0}, []int64{0, 0})
	expectList(t, "ThenMorphisms of two worlds", got, code, 0, 0)
	got, code = impl.ThenMorphisms(frameWith(), end, loop, nil, []int64{0})
	expectNoList(t, "ThenMorphisms with a second map that is no morphism", got, code, impl.ErrState)
	got, code = impl.ThenMorphisms(cycle, end, end, []int64{0, 0}, []int64{0})
	expectNoList(t, "ThenMorphisms with a first map that is no morphism", got, code, impl.ErrState)
	// The whole is a morphism though neither of both is.
	got, code = impl.ThenMorphisms(end, loop, end, []int64{0}, []int64{0})
	expectNoList(t, "ThenMorphisms with maps that are no morphisms", got, code, impl.ErrState)
}

// isCongruent tells whether a list is a congruence of a frame.
func isCongruent(f impl.Frame, classes []int64) bool {
	if len(classes) != len(f.Arrows) {
		return false
	}
	var next int64
	for _, class := range classes {
		if class < 0 || class > next {
			return false
		}
		next = max(next, class+1)
	}
	m := modelWith(f)
	for x := range classes {
		for y := range classes {
			for _, seen := range worldsSeen(m, x) {
				isMatched := func(other int) bool { return classes[other] == classes[seen] }
				if classes[x] == classes[y] && !slices.ContainsFunc(worldsSeen(m, y), isMatched) {
					return false
				}
			}
		}
	}
	return true
}

// allClasses returns all lists of the numbers of classes of some worlds, in ascending order.
func allClasses(worlds int) [][]int64 {
	lists := [][]int64{{}}
	for range worlds {
		var longer [][]int64
		for _, classes := range lists {
			for class := range slices.Max(append([]int64{-1}, classes...)) + 2 {
				longer = append(longer, append(slices.Clone(classes), class))
			}
		}
		lists = longer
	}
	return lists
}

// expectCongruence expects what the definition says of a list, and returns whether it is a congruence.
func expectCongruence(t *testing.T, f impl.Frame, classes []int64) bool {
	t.Helper()
	what := fmt.Sprint(" of ", f, classes)
	want := isCongruent(f, classes)
	got, code := impl.IsCongruence(f, classes)
	expectBool(t, "IsCongruence"+what, got, code, want)
	quotient, code := impl.QuotientFrame(f, classes)
	if want {
		expectFrame(t, "QuotientFrame"+what, quotient, code, quotientBy(modelWith(f), classes).Frame)
	} else {
		expectNoFrame(t, "QuotientFrame"+what, quotient, code, impl.ErrInvalid)
	}
	return want
}

// expectCongruences expects what the definition says of all lists of numbers of classes, and returns
// the congruences.
func expectCongruences(t *testing.T, f impl.Frame) [][]int64 {
	t.Helper()
	var want [][]int64
	for _, classes := range allClasses(int(f.Worlds)) {
		if expectCongruence(t, f, classes) {
			want = append(want, classes)
		}
	}
	got, code := impl.AllCongruences(f)
	if len(want) > impl.MaxFound {
		expectNoLists(t, fmt.Sprint("AllCongruences of ", f), got, code, impl.ErrLimit)
	} else {
		expectLists(t, fmt.Sprint("AllCongruences of ", f), got, code, want...)
	}
	return want
}

// Lists of all numbers from -1 to one more than there can be, of frames of at most 3 worlds.
func TestCongruencesOfSmallFrames(t *testing.T) {
	for worlds := range 4 {
		for _, r := range allRelations(worlds) {
			f := frameWith(r...)
			expectCongruences(t, f)
			for _, m := range allMaps(f, frameWith(make([]int64, worlds+3)...)) {
				classes := slices.Clone(m.images)
				for i := range classes {
					classes[i]--
				}
				expectCongruence(t, f, classes)
			}
		}
	}
}

// congruentFrames returns sample frames of at least 4 worlds, and frames with many congruences.
func congruentFrames() []impl.Frame {
	seed := uint64(149)
	frames := slices.DeleteFunc(sampleFrames(), func(f impl.Frame) bool { return f.Worlds < 4 || nextNumber(&seed)%3 > 0 })
	for i := range 60 {
		m := modelWith(irregularFrame(&seed, 1+i%4, 1+i%8))
		frames = append(frames, inflated(&seed, m, int64(4+i%5)).Frame)
	}
	return append(frames, namedFrames()...)
}

func TestCongruencesOfLargerFrames(t *testing.T) {
	counts := map[int]int{}
	for _, f := range congruentFrames() {
		congruences := expectCongruences(t, f)
		counts[min(len(congruences), 5)]++
		// The worlds without any other ones in their classes, and a list that is too short or too long.
		single := identityOn(f)
		if !expectCongruence(t, f, single) {
			t.Errorf("single worlds of %v should be a congruence", f)
		}
		expectCongruence(t, f, append(slices.Clone(single), 0))
		expectCongruence(t, f, append(slices.Clone(single), f.Worlds))
		if f.Worlds > 0 {
			expectCongruence(t, f, single[:f.Worlds-1])
			expectCongruence(t, f, make([]int64, f.Worlds-1))
		}
	}
	for count := 1; count <= 5; count++ {
		if counts[count] == 0 {
			t.Errorf("the samples have so many congruences: %v", counts)
		}
	}
}

func TestNamedCongruences(t *testing.T) {
	named := namedFrames()
	eight, ends, loops, chain := named[1], named[2], named[3], named[5]
	for _, c := range []struct {
		f        impl.Frame
		classes  []int64
		quotient impl.Frame
	}{
		{frameWith(2, 1), []int64{0, 0}, frameWith(1)}, {frameWith(2, 1), []int64{0, 1}, frameWith(2, 1)}, {frameWith(), nil, frameWith()}, {frameWith(), []int64{}, frameWith()}, {frameWith(0), []int64{0}, frameWith(0)}, {frameWith(1), []int64{0}, frameWith(1)},
		// All worlds in one class, and each in its own.
		{eight, make([]int64, 8), frameWith(1)}, {ends, make([]int64, 8), frameWith(0)}, {loops, make([]int64, 8), frameWith(1)}, {named[4], make([]int64, 8), frameWith(1)}, {eight, identityOn(eight), eight}, {ends, identityOn(ends), ends}, {chain, identityOn(chain), chain},
		{named[4], []int64{0, 1, 2, 3, 0, 1, 2, 3}, frameWith(2, 4, 8, 1)}, {named[4], []int64{0, 1, 0, 1, 0, 1, 0, 1}, frameWith(2, 1)}, {eight, []int64{0, 1, 2, 0, 0, 2, 1, 0}, frameWith(7, 7, 7)}, {loops, []int64{0, 0, 1, 1, 1, 0, 2, 2}, frameWith(1, 2, 4)},
		{frameWith(6, 0, 0), []int64{0, 1, 1}, frameWith(2, 0)}, {frameWith(0, 1, 1), []int64{0, 1, 1}, frameWith(0, 1)}, {frameWith(4, 4, 0), []int64{0, 0, 1}, frameWith(2, 0)}, {frameWith(4, 8, 0, 0), []int64{0, 0, 1, 1}, frameWith(2, 0)}, {frameWith(2, 3, 4), []int64{0, 0, 1}, frameWith(1, 2)}, {frameWith(2, 3, 4), []int64{0, 0, 0}, frameWith(1)}, {frameWith(2, 3, 4), []int64{0, 1, 2}, frameWith(2, 3, 4)},
	} {
		if !expectCongruence(t, c.f, c.classes) {
			t.Errorf("%v should be a congruence of %v", c.classes, c.f)
		}
		quotient, code := impl.QuotientFrame(c.f, c.classes)
		expectFrame(t, fmt.Sprint("QuotientFrame of ", c.f, c.classes), quotient, code, c.quotient)
	}
	for _, c := range []struct {
		f       impl.Frame
		classes []int64
	}{
		// Classes of worlds that do not see the same classes.
		{frameWith(2, 0), []int64{0, 0}}, {frameWith(0, 1), []int64{0, 0}}, {chain, make([]int64, 8)}, {chain, []int64{0, 1, 2, 3, 4, 5, 6, 6}}, {named[4], []int64{0, 1, 2, 0, 1, 2, 0, 1}}, {frameWith(4, 8, 0, 0), []int64{0, 0, 1, 2}}, {frameWith(4, 8, 8, 0), []int64{0, 0, 1, 1}}, {frameWith(2, 3, 4), []int64{0, 1, 0}},
		// Classes that are not numbered in the order of their least worlds, or not at all.
		{loops, []int64{1, 0, 2, 3, 4, 5, 6, 7}}, {loops, []int64{0, 2, 1, 3, 4, 5, 6, 7}}, {loops, []int64{0, 0, 0, 0, 0, 0, 0, 2}}, {loops, []int64{1, 1, 1, 1, 1, 1, 1, 1}}, {frameWith(2, 1), []int64{1, 0}}, {frameWith(2, 1), []int64{1, 1}}, {frameWith(2, 1), []int64{0, 2}}, {frameWith(0), []int64{1}}, {frameWith(1), []int64{7}},
		{loops, []int64{-1, -1, -1, -1, -1, -1, -1, -1}}, {loops, []int64{0, -1, 1, 2, 3, 4, 5, 6}}, {loops, []int64{0, 1, 2, 3, 4, 5, 6, 8}}, {loops, []int64{0, 64, 0, 64, 0, 64, 0, 64}}, {loops, []int64{0, 1 << 32, 0, 0, 0, 0, 0, 0}}, {ends, []int64{0, math.MaxInt64, 0, 0, 0, 0, 0, 0}}, {ends, []int64{math.MinInt64, 0, 0, 0, 0, 0, 0, 0}},
		// Too few numbers, and too many.
		{frameWith(), []int64{0}}, {frameWith(0), nil}, {frameWith(0), []int64{0, 0}}, {frameWith(0), []int64{0, 1}}, {loops, make([]int64, 7)}, {loops, make([]int64, 9)}, {loops, make([]int64, 64)}, {frameWith(2, 1), make([]int64, 1000)},
	} {
		if expectCongruence(t, c.f, c.classes) {
			t.Errorf("%v should be no congruence of %v", c.classes, c.f)
		}
	}
	all, code := impl.AllCongruences(frameWith(2, 1))
	expectLists(t, "AllCongruences of two worlds", all, code, []int64{0, 0}, []int64{0, 1})
	all, code = impl.AllCongruences(frameWith())
	expectLists(t, "AllCongruences of no worlds", all, code, []int64{})
	all, code = impl.AllCongruences(frameWith(0, 0, 0))
	expectLists(t, "AllCongruences of three worlds", all, code, []int64{0, 0, 0}, []int64{0, 0, 1}, []int64{0, 1, 0}, []int64{0, 1, 1}, []int64{0, 1, 2})
	all, code = impl.AllCongruences(chain)
	expectLists(t, "AllCongruences of a chain", all, code, identityOn(chain))
}

// Frames with exactly MaxFound congruences, one less, one more, and many.
func TestCongruenceLimit(t *testing.T) {
	for _, c := range []struct {
		f     impl.Frame
		count int
	}{
		{frameWith(1, 8, 4, 8, 17, 48, 64, 136), 200}, {frameWith(9, 11, 4, 8, 144, 1, 64, 128), 200}, {frameWith(1, 2, 4, 142, 16, 37, 64, 129), 199}, {frameWith(1, 2, 4, 144, 80, 48, 64, 128), 201}, {frameWith(5, 2, 5, 8, 48, 34, 64, 128), 201},
		{frameWith(0, 0, 0, 0, 0), 52}, {frameWith(31, 31, 31, 31, 31), 52}, {frameWith(0, 0, 0, 0, 0, 0), 203}, {frameWith(63, 63, 63, 63, 63, 63), 203}, {frameWith(0, 0, 0, 32, 0, 0, 0), 203}, {frameWith(0, 0, 0, 0, 0, 0, 0), 877}, {namedFrames()[1], 4140}, {namedFrames()[3], 4140},
	} {
		if congruences := expectCongruences(t, c.f); len(congruences) != c.count {
			t.Errorf("%v has %d congruences", c.f, len(congruences))
		}
	}
}

func areSameLists(f, g []impl.Frame) bool { return slices.EqualFunc(f, g, areSameFrames) }

// expectImages expects the least forms of the quotients of a frame of at most 6 worlds, and returns
// how many there are.
func expectImages(t *testing.T, f impl.Frame) int {
	t.Helper()
	var want []impl.Frame
	for _, classes := range allClasses(int(f.Worlds)) {
		if isCongruent(f, classes) {
			want = append(want, leastOf(quotientBy(modelWith(f), classes).Frame))
		}
	}
	slices.SortFunc(want, func(g, h impl.Frame) int {
		if g.Worlds != h.Worlds {
			return int(g.Worlds - h.Worlds)
		}
		return slices.Compare(g.Arrows, h.Arrows)
	})
	want = slices.CompactFunc(want, areSameFrames)
	got, code := impl.MorphicImages(f)
	if !areSameLists(got, want) || code != impl.ErrNone {
		t.Errorf("MorphicImages of %v = %v, code %d, want %v", f, got, code, want)
	}
	return len(want)
}

func TestMorphicImages(t *testing.T) {
	for worlds := range 4 {
		for _, r := range allRelations(worlds) {
			expectImages(t, frameWith(r...))
		}
	}
	counts := map[int]int{}
	for _, f := range congruentFrames() {
		if f.Worlds > 6 {
			got, code := impl.MorphicImages(f)
			if len(got) != 0 || code != impl.ErrLimit {
				t.Errorf("MorphicImages of %v = %v, code %d", f, got, code)
			}
			continue
		}
		counts[min(expectImages(t, f), 4)]++
	}
	for count := 1; count <= 4; count++ {
		if counts[count] == 0 {
			t.Errorf("the samples have so many images: %v", counts)
		}
	}
	six, seven := make([]int64, 6), make([]int64, 7)
	for _, c := range []struct {
		f    impl.Frame
		want []impl.Frame
		code int64
	}{
		{frameWith(2, 1), []impl.Frame{frameWith(1), frameWith(2, 1)}, impl.ErrNone}, {frameWith(), []impl.Frame{frameWith()}, impl.ErrNone}, {frameWith(0), []impl.Frame{frameWith(0)}, impl.ErrNone}, {frameWith(2, 0), []impl.Frame{frameWith(0, 1)}, impl.ErrNone},
		// Of 6 worlds that see none, more than MaxFound congruences have few least forms.
		{frameWith(six...), []impl.Frame{frameWith(six[:1]...), frameWith(six[:2]...), frameWith(six[:3]...), frameWith(six[:4]...), frameWith(six[:5]...), frameWith(six...)}, impl.ErrNone},
		{frameWith(63, 63, 63, 63, 63, 63), []impl.Frame{frameWith(1), frameWith(3, 3), frameWith(7, 7, 7), frameWith(15, 15, 15, 15), frameWith(31, 31, 31, 31, 31), frameWith(63, 63, 63, 63, 63, 63)}, impl.ErrNone},
		{frameWith(2, 4, 8, 16, 32, 0), []impl.Frame{frameWith(0, 1, 2, 4, 8, 16)}, impl.ErrNone}, {frameWith(2, 4, 8, 16, 32, 1), []impl.Frame{frameWith(1), frameWith(2, 1), frameWith(2, 4, 1), frameWith(2, 4, 8, 16, 32, 1)}, impl.ErrNone},
		{frameWith(seven...), nil, impl.ErrLimit}, {frameWith(127, 127, 127, 127, 127, 127, 127), nil, impl.ErrLimit}, {frameWith(2, 4, 8, 16, 32, 64, 0), nil, impl.ErrLimit}, {namedFrames()[5], nil, impl.ErrLimit},
	} {
		got, code := impl.MorphicImages(c.f)
		if !areSameLists(got, c.want) || code != c.code {
			t.Errorf("MorphicImages of %v = %v, code %d, want %v, code %d", c.f, got, code, c.want, c.code)
		}
	}
}

// frameOfPaths returns the unravelled frame and the last worlds of its paths, and whether there are
// not too many.
func frameOfPaths(f impl.Frame, w, k int64) (impl.Frame, []int64, bool) {
	paths, longest := [][]int64{{w}}, [][]int64{{w}}
	for range k {
		var longer [][]int64
		for _, path := range longest {
			for _, next := range worldsSeen(modelWith(f), int(path[len(path)-1])) {
				longer = append(longer, append(slices.Clone(path), int64(next)))
			}
		}
		longest = longer
		paths = append(paths, longer...)
		if len(paths) > impl.MaxWorlds {
			return impl.Frame{}, nil, false
		}
	}
	slices.SortFunc(paths, func(p, q []int64) int {
		if len(p) != len(q) {
			return len(p) - len(q)
		}
		return slices.Compare(p, q)
	})
	var ends []int64
	for _, path := range paths {
		ends = append(ends, path[len(path)-1])
	}
	sees := func(i, j int) bool {
		return len(paths[j]) == len(paths[i])+1 && slices.Equal(paths[j][:len(paths[i])], paths[i])
	}
	return frameWith(relationWhere(len(paths), sees)...), ends, true
}

func expectNoPaths(t *testing.T, what string, got impl.Frame, ends []int64, code, want int64) {
	t.Helper()
	expectNoFrame(t, what, got, code, want)
	expectNoList(t, what, ends, code, want)
}

func TestUnravelFrame(t *testing.T) {
	counts := map[string]int{}
	for _, f := range sampleFrames() {
		for w := range f.Worlds {
			for k := range int64(impl.MaxWorlds + 1) {
				what := fmt.Sprint("UnravelFrame of ", f, w, k)
				want, ends, areFew := frameOfPaths(f, w, k)
				got, list, code := impl.UnravelFrame(f, w, k)
				counts[fmt.Sprint(k, areFew)]++
				if !areFew {
					expectNoPaths(t, what, got, list, code, impl.ErrLimit)
					continue
				}
				counts[fmt.Sprint(want.Worlds, " worlds")]++
				expectFrame(t, what, got, code, want)
				expectList(t, what, list, code, ends...)
			}
			for _, k := range []int64{-1, impl.MaxWorlds + 1, 16, 64, 1 << 32, math.MinInt64, math.MaxInt64} {
				got, list, code := impl.UnravelFrame(f, w, k)
				expectNoPaths(t, fmt.Sprint("UnravelFrame of ", f, w, k), got, list, code, impl.ErrRange)
			}
		}
		for _, w := range []int64{-1, f.Worlds, f.Worlds + 1, 8, 64, math.MinInt64, math.MaxInt64} {
			for _, k := range []int64{0, 1, impl.MaxWorlds, -1, impl.MaxWorlds + 1} {
				got, list, code := impl.UnravelFrame(f, w, k)
				expectNoPaths(t, fmt.Sprint("UnravelFrame of ", f, w, k), got, list, code, impl.ErrRange)
			}
		}
	}
	for number := range 9 {
		if number > 0 && (counts[fmt.Sprint(number, " worlds")] == 0 || counts[fmt.Sprint(number, false)] == 0) || counts[fmt.Sprint(number, true)] == 0 {
			t.Errorf("the unravelled frames are as in %v", counts)
		}
	}
}

func TestNamedUnravelledFrames(t *testing.T) {
	chain, cycle := namedFrames()[5], namedFrames()[4]
	eight := frameWith(2, 4, 8, 16, 32, 64, 128, 0)
	for _, c := range []struct {
		f    impl.Frame
		w, k int64
		want impl.Frame
		ends []int64
	}{
		{frameWith(1), 0, 2, frameWith(2, 4, 0), []int64{0, 0, 0}}, {frameWith(1), 0, 0, frameWith(0), []int64{0}}, {frameWith(1), 0, 7, eight, make([]int64, 8)}, {frameWith(0), 0, 8, frameWith(0), []int64{0}}, {namedFrames()[1], 5, 0, frameWith(0), []int64{5}},
		{chain, 0, 8, eight, []int64{0, 1, 2, 3, 4, 5, 6, 7}}, {chain, 0, 7, eight, []int64{0, 1, 2, 3, 4, 5, 6, 7}}, {chain, 7, 8, frameWith(0), []int64{7}}, {chain, 6, 8, frameWith(2, 0), []int64{6, 7}}, {cycle, 3, 7, eight, []int64{3, 4, 5, 6, 7, 0, 1, 2}},
		{frameWith(254, 0, 0, 0, 0, 0, 0, 0), 0, 8, frameWith(254, 0, 0, 0, 0, 0, 0, 0), []int64{0, 1, 2, 3, 4, 5, 6, 7}}, {frameWith(0, 0, 0, 0, 0, 0, 0, 127), 7, 1, frameWith(254, 0, 0, 0, 0, 0, 0, 0), []int64{7, 0, 1, 2, 3, 4, 5, 6}},
		{frameWith(6, 8, 8, 0), 0, 8, frameWith(6, 8, 16, 0, 0), []int64{0, 1, 2, 3, 3}}, {frameWith(3, 3), 1, 2, frameWith(6, 24, 96, 0, 0, 0, 0), []int64{1, 0, 1, 0, 1, 0, 1}}, {frameWith(6, 1, 0), 0, 3, frameWith(6, 8, 0, 48, 0, 0), []int64{0, 1, 2, 0, 1, 2}}, {frameWith(6, 0, 3), 2, 2, frameWith(6, 24, 0, 0, 0), []int64{2, 0, 1, 1, 2}},
	} {
		what := fmt.Sprint("UnravelFrame of ", c.f, c.w, c.k)
		got, ends, code := impl.UnravelFrame(c.f, c.w, c.k)
		expectFrame(t, what, got, code, c.want)
		expectList(t, what, ends, code, c.ends...)
	}
	for _, c := range []struct {
		f    impl.Frame
		w, k int64
	}{{frameWith(1), 0, 8}, {cycle, 3, 8}, {frameWith(255, 0, 0, 0, 0, 0, 0, 0), 0, 1}, {namedFrames()[1], 5, 1}, {namedFrames()[1], 5, 8}, {frameWith(3, 3), 1, 3}, {frameWith(6, 24, 224, 0, 0, 1, 0, 0), 0, 3}, {frameWith(6, 24, 224, 0, 0, 1, 0, 0), 0, 8}} {
		got, ends, code := impl.UnravelFrame(c.f, c.w, c.k)
		expectNoPaths(t, fmt.Sprint("UnravelFrame of ", c.f, c.w, c.k), got, ends, code, impl.ErrLimit)
	}
	// The last worlds of the paths are a morphism if all paths of the frame are there.
	for _, f := range sampleFrames() {
		for w := range f.Worlds {
			unravelled, ends, code := impl.UnravelFrame(f, w, impl.MaxWorlds)
			if code == impl.ErrNone {
				is, code := impl.IsMorphism(unravelled, f, ends)
				expectBool(t, fmt.Sprint("IsMorphism of the ends of ", f, w), is, code, true)
			}
		}
	}
}

// P8, first part: what is valid on a frame is valid on its quotients, and on all frames that it has
// morphisms onto.
func TestValidityIsKeptByQuotients(t *testing.T) {
	seed := uint64(151)
	trees := slices.Concat(lateRefutations(t), treesOfTexts(t, "[][]p>p", "<><>T", "[][]F", "<>[]F", "[]F|<>[]F", "[](<>T|p)", "<>p>[]<>p", "p><>p", "[]p|[]~p", "[]<>T"))
	for range 60 {
		trees = append(trees, irregularTree(&seed, 6+nextNumber(&seed)%10))
	}
	kept, gained := 0, 0
	for _, f := range append(leastForms(3), congruentFrames()...) {
		frames := smallerQuotients(t, f)
		for _, x := range trees {
			if f.Worlds*int64(len(variablesOf(x))) > 8 || len(frames) == 0 {
				continue
			}
			a := x.nodes()
			valid, code := impl.IsValidOn(f, a)
			for _, g := range frames {
				onQuotient, code2 := impl.IsValidOn(g, a)
				if code != impl.ErrNone || code2 != impl.ErrNone || valid && !onQuotient {
					t.Fatalf("%s is valid on %v: %v, code %d, and on %v: %v, code %d", polish(a), f, valid, code, g, onQuotient, code2)
				}
				if valid {
					kept++
				} else if onQuotient {
					gained++
				}
			}
		}
	}
	if kept < 3000 || gained < 1000 {
		t.Errorf("%d formulas stayed valid, %d became valid", kept, gained)
	}
}

// smallerQuotients returns some quotients of a frame that have fewer worlds, and its images that have.
func smallerQuotients(t *testing.T, f impl.Frame) []impl.Frame {
	t.Helper()
	var frames []impl.Frame
	congruences, _ := impl.AllCongruences(f)
	for i, classes := range congruences {
		if i%(1+len(congruences)/6) != 0 {
			continue
		}
		quotient, code := impl.QuotientFrame(f, classes)
		if code != impl.ErrNone || !impl.IsFrame(quotient) {
			t.Fatalf("QuotientFrame of %v by %v = %v, code %d", f, classes, quotient, code)
		}
		frames = append(frames, quotient)
	}
	if images, code := impl.MorphicImages(f); code == impl.ErrNone && len(images) < 8 {
		frames = append(frames, images...)
	}
	return slices.DeleteFunc(frames, func(g impl.Frame) bool { return g.Worlds == f.Worlds })
}

// classesAlong returns the numbers of the classes of the worlds that have one image.
func classesAlong(images []int64) []int64 {
	var classes, known []int64
	for _, image := range images {
		if !slices.Contains(known, image) {
			known = append(known, image)
		}
		classes = append(classes, int64(slices.Index(known, image)))
	}
	return classes
}

// expectQuotientAlong expects that a map onto its frame is a morphism exactly if its classes are a
// congruence whose quotient is the frame, with the classes in the places of the images, and returns
// whether they are a congruence and the map a morphism.
func (m frameMap) expectQuotientAlong(t *testing.T) (bool, bool) {
	t.Helper()
	classes := classesAlong(m.images)
	isCongruence, code := impl.IsCongruence(m.f, classes)
	quotient, quotientCode := impl.QuotientFrame(m.f, classes)
	isSame := quotient.Worlds == m.g.Worlds
	for x, image := range m.images {
		for y, other := range m.images {
			isSame = isSame && relates(quotient.Arrows, int(classes[x]), int(classes[y])) == relates(m.g.Arrows, int(image), int(other))
		}
	}
	isMorphism, mapCode := impl.IsMorphism(m.f, m.g, m.images)
	if isMorphism != (isCongruence && isSame) || code != impl.ErrNone || mapCode != impl.ErrNone || isCongruence != (quotientCode == impl.ErrNone) {
		t.Errorf("%v is a morphism: %v, and a congruence: %v, with the quotient %v, codes %d, %d, %d", m, isMorphism, isCongruence, quotient, mapCode, code, quotientCode)
	}
	if isCongruence {
		is, code := impl.IsMorphism(m.f, quotient, classes)
		expectBool(t, fmt.Sprint("IsMorphism to the quotient of ", m.f, classes), is, code, true)
	}
	return isCongruence, isMorphism
}

// P8, third part.
func TestMapsOntoFramesAreQuotients(t *testing.T) {
	seed := uint64(157)
	frames, counts := leastForms(3), map[string]int{}
	for _, f := range frames {
		for _, g := range frames {
			for _, m := range selected(allMaps(f, g), frameMap.isOnto) {
				isCongruence, isMorphism := m.expectQuotientAlong(t)
				counts[fmt.Sprint("small ", isCongruence, isMorphism)]++
			}
		}
	}
	// A map onto the quotient in another order, with one image or one arrow changed, or none.
	for _, f := range congruentFrames() {
		congruences, _ := impl.AllCongruences(f)
		for range min(len(congruences)*3, 40) {
			classes := congruences[nextNumber(&seed)%int64(len(congruences))]
			order := irregularOrder(&seed, len(quotientBy(modelWith(f), classes).Frame.Arrows))
			m := frameMap{f: f, g: reordered(quotientBy(modelWith(f), classes).Frame, order)}
			for _, class := range classes {
				m.images = append(m.images, int64(slices.Index(order, int(class))))
			}
			switch kind := nextNumber(&seed) % 3; {
			case kind == 1 && f.Worlds > 0:
				m.images[nextNumber(&seed)%f.Worlds] = nextNumber(&seed) % m.g.Worlds
			case kind == 2 && f.Worlds > 0:
				m.g.Arrows[nextNumber(&seed)%m.g.Worlds] ^= 1 << (nextNumber(&seed) % m.g.Worlds)
			}
			if m.isOnto() {
				isCongruence, isMorphism := m.expectQuotientAlong(t)
				counts[fmt.Sprint("larger ", isCongruence, isMorphism)]++
			}
		}
	}
	for _, kind := range []string{"small true true", "small true false", "small false false", "larger true true", "larger true false", "larger false false"} {
		if counts[kind] < 100 {
			t.Errorf("the maps are of kinds %v", counts)
		}
	}
}

// mapErrors returns the codes of all functions of a map, and whether some result beside them is not its
// zero value.
func mapErrors(f, g impl.Frame, images []int64) ([]int64, bool) {
	is, code1 := impl.IsMorphism(f, g, images)
	isModel, code2 := impl.IsModelMorphism(modelWith(f), modelWith(g), images)
	first, code3 := impl.ThenMorphisms(f, g, g, images, identityOn(g))
	second, code4 := impl.ThenMorphisms(f, f, g, identityOn(f), images)
	masks, code5 := impl.PullValues(f, g, images, nil)
	more, code6 := impl.PullValues(f, g, images, []int64{0, 0})
	return []int64{code1, code2, code3, code4, code5, code6}, is || isModel || len(first)+len(second)+len(masks)+len(more) != 0
}

// searchErrors returns the same for the functions of two frames.
func searchErrors(f, g impl.Frame) ([]int64, bool) {
	all, code1 := impl.AllMorphisms(f, g)
	onto, code2 := impl.FindOnto(f, g)
	isomorphism, code3 := impl.FindFrameIsomorphism(f, g)
	return []int64{code1, code2, code3}, len(all)+len(onto)+len(isomorphism) != 0
}

// quotientErrors returns the same for the functions of one frame.
func quotientErrors(f impl.Frame, classes []int64, w, k int64) ([]int64, bool) {
	count, code1 := impl.CountAutomorphisms(f)
	is, code2 := impl.IsCongruence(f, classes)
	all, code3 := impl.AllCongruences(f)
	quotient, code4 := impl.QuotientFrame(f, classes)
	images, code5 := impl.MorphicImages(f)
	unravelled, ends, code6 := impl.UnravelFrame(f, w, k)
	isZero := areSameFrames(quotient, impl.Frame{}) && areSameFrames(unravelled, impl.Frame{})
	return []int64{code1, code2, code3, code4, code5, code6}, is || !isZero || count != 0 || len(all)+len(images)+len(ends) != 0
}

// What is not a frame stands ahead of everything else that is wrong.
func TestErrorsOfMorphisms(t *testing.T) {
	none, eight := frameWith(), namedFrames()[1]
	for _, f := range invalidFrames() {
		what := fmt.Sprint("the invalid frame ", f)
		for _, p := range []framePair{{f, none}, {none, f}, {f, eight}, {eight, f}, {f, f}} {
			codes, given := searchErrors(p.f, p.g)
			expectErrors(t, what, codes, given, impl.ErrInvalid)
			for _, images := range [][]int64{nil, {0}, {-1}, make([]int64, 8), make([]int64, len(f.Arrows)), slices.Repeat([]int64{9}, 8), identityOn(f)} {
				codes, given := mapErrors(p.f, p.g, images)
				expectErrors(t, what, codes, given, impl.ErrInvalid)
			}
		}
		for _, number := range []int64{0, 1, -1, 8, 9, math.MinInt64, math.MaxInt64} {
			for _, classes := range [][]int64{nil, {0}, make([]int64, len(f.Arrows)), identityOn(f), {-1}} {
				codes, given := quotientErrors(f, classes, number, number)
				expectErrors(t, what, codes, given, impl.ErrInvalid)
			}
		}
		// One of three frames, with maps between the others that are right or are no morphisms.
		for _, images := range [][]int64{{0}, {1}, nil} {
			end, loop := frameWith(0), frameWith(1)
			for _, frames := range [][3]impl.Frame{{f, end, end}, {end, f, end}, {end, end, f}, {end, loop, f}, {f, loop, end}, {none, none, f}, {f, none, none}} {
				got, code := impl.ThenMorphisms(frames[0], frames[1], frames[2], images, images)
				expectNoList(t, "ThenMorphisms with "+what, got, code, impl.ErrInvalid)
			}
		}
	}
}

func TestErrorsOfModelMorphisms(t *testing.T) {
	none, eight := modelWith(frameWith()), modelWith(namedFrames()[1])
	for _, m := range invalidModels() {
		for _, p := range []pair{{m, none}, {none, m}, {m, eight}, {eight, m}, {m, m}} {
			for _, images := range [][]int64{nil, {0}, make([]int64, 8), make([]int64, len(m.Frame.Arrows)), identityOn(m.Frame), {-1}} {
				is, code := impl.IsModelMorphism(p.m, p.n, images)
				expectErrors(t, fmt.Sprint("IsModelMorphism of ", p, images), []int64{code}, is, impl.ErrInvalid)
			}
		}
	}
}

// Maps that are too short, too long or out of range, from frames with few worlds and with all.
func TestErrorsOfMaps(t *testing.T) {
	for worlds := range int64(impl.MaxWorlds + 1) {
		for _, others := range []int64{0, 1, 2, 7, 8} {
			for _, seen := range []int64{0, 1<<others - 1} {
				f, g := frameWith(make([]int64, worlds)...), frameWith(slices.Repeat([]int64{seen}, int(others))...)
				for _, length := range []int64{0, 1, worlds - 1, worlds + 1, 8, 9, 30, 64} {
					if length >= 0 && length != worlds {
						codes, given := mapErrors(f, g, make([]int64, length))
						expectErrors(t, fmt.Sprint("a map from ", f, " to ", g, " of the length ", length), codes, given, impl.ErrInvalid)
					}
				}
				for at := range worlds {
					for _, image := range []int64{-1, others, others + 1, 8, 64, 1 << 32, math.MinInt64, math.MaxInt64} {
						images := make([]int64, worlds)
						images[at] = image
						if image < 0 || image >= others {
							codes, given := mapErrors(f, g, images)
							expectErrors(t, fmt.Sprint("the map ", images, " from ", f, " to ", g), codes, given, impl.ErrInvalid)
						}
					}
				}
			}
		}
	}
	// A map that is none stands ahead of one that is no morphism, whichever comes first.
	end, loop, two := frameWith(0), frameWith(1), frameWith(0, 0)
	for _, c := range []struct {
		f, g, h       impl.Frame
		first, second []int64
	}{
		{end, loop, end, []int64{0}, nil}, {end, loop, end, []int64{0}, []int64{1}}, {end, loop, end, []int64{0}, []int64{0, 0}}, {end, end, loop, []int64{1}, []int64{0}}, {end, end, loop, nil, []int64{0}}, {two, end, two, []int64{0}, []int64{0}}, {end, two, end, []int64{1}, []int64{0}}, {end, two, two, []int64{1}, []int64{0, 2}},
	} {
		got, code := impl.ThenMorphisms(c.f, c.g, c.h, c.first, c.second)
		expectNoList(t, fmt.Sprint("ThenMorphisms of ", c), got, code, impl.ErrInvalid)
	}
}

func TestErrorsOfPulledValues(t *testing.T) {
	for worlds := range impl.MaxWorlds + 1 {
		g := frameWith(make([]int64, worlds)...)
		for _, f := range []impl.Frame{frameWith(), g, frameWith(1)} {
			images := make([]int64, f.Worlds)
			if worlds == 0 && f.Worlds > 0 {
				continue
			}
			for _, mask := range []int64{1 << worlds, 1<<worlds + 1, 256, -1, -256, 1 << 30, 1 << 62, math.MinInt64, math.MaxInt64} {
				for _, values := range [][]int64{{mask}, {0, mask}, {mask, 0}, {0, 0, 0, 0, 0, mask}, {0, 0, 0, 0, 0, 0, 0, 0, 0, mask, 0}} {
					got, code := impl.PullValues(f, g, images, values)
					expectNoList(t, fmt.Sprint("PullValues of ", f, g, values), got, code, impl.ErrInvalid)
				}
			}
			got, code := impl.PullValues(f, g, images, []int64{1<<worlds - 1})
			expectList(t, fmt.Sprint("PullValues of all worlds of ", g), got, code, 1<<f.Worlds-1)
		}
	}
	// Masks are of the worlds of the second frame, not of the first.
	two, three := frameWith(0, 0), frameWith(0, 0, 0)
	got, code := impl.PullValues(two, three, []int64{2, 0}, []int64{7, 4})
	expectList(t, "PullValues to more worlds", got, code, 3, 1)
	got, code = impl.PullValues(three, two, []int64{0, 0, 1}, []int64{4})
	expectNoList(t, "PullValues to fewer worlds", got, code, impl.ErrInvalid)
}

// No function changes an argument or the capacity behind it, and no result shares memory with an
// argument, within itself or with a later result.
func TestMorphismsAreNeitherChangedNorShared(t *testing.T) {
	behind := slices.Repeat([]int64{-9}, 20)
	store := slices.Concat([]int64{6, 0, 0}, behind, []int64{0, 2, 1}, behind, []int64{0, 1, 1}, behind, []int64{5, 2, 0, 0, 0, 0}, behind)
	before := slices.Clone(store)
	f := impl.Frame{Worlds: 3, Arrows: store[:3]}
	swap, classes, values := store[23:26], store[46:49], store[69:75]
	for range 2 {
		memory, code := impl.AllMorphisms(f, f)
		expectLists(t, "AllMorphisms", slices.Clone(memory), code, []int64{0, 1, 2}, []int64{0, 2, 1})
		onto, _ := impl.FindOnto(f, f)
		then, _ := impl.ThenMorphisms(f, f, f, swap, swap)
		masks, _ := impl.PullValues(f, f, swap, values)
		isomorphism, _ := impl.FindFrameIsomorphism(f, f)
		congruences, _ := impl.AllCongruences(f)
		quotient, _ := impl.QuotientFrame(f, classes)
		same, _ := impl.QuotientFrame(f, []int64{0, 1, 2})
		images, _ := impl.MorphicImages(f)
		unravelled, ends, _ := impl.UnravelFrame(f, 0, 1)
		expectList(t, "ThenMorphisms", then, impl.ErrNone, 0, 1, 2)
		expectList(t, "PullValues", masks, impl.ErrNone, 3, 4, 0, 0, 0, 0)
		expectFrame(t, "QuotientFrame", quotient, impl.ErrNone, frameWith(2, 0))
		expectFrame(t, "UnravelFrame", unravelled, impl.ErrNone, f)
		is, code := impl.IsMorphism(f, f, swap)
		expectBool(t, "IsMorphism", is, code, true)
		is, code = impl.IsModelMorphism(impl.Model{Frame: f, Values: values}, impl.Model{Frame: f, Values: values}, swap)
		expectBool(t, "IsModelMorphism", is, code, false)
		is, code = impl.IsCongruence(f, classes)
		expectBool(t, "IsCongruence", is, code, true)
		impl.CountAutomorphisms(f)
		memory = append(append(memory, congruences...), onto, then, masks, isomorphism, ends)
		expectOwnNumbers(t, "a result", append(memory, arrowsIn(append(images, quotient, same, unravelled)...)...))
		if !slices.Equal(store, before) {
			t.Fatalf("an argument was changed: %v", store)
		}
	}
}
