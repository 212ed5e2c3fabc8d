package tests

import (
	"fmt"
	"math"
	"regexp"
	"slices"
	"strings"
	"testing"

	"loop.example/g01089/impl"
)

// closingFlags are the flags that CloseFrame knows.
var closingFlags = []int64{impl.FlagReflexive, impl.FlagTransitive, impl.FlagSymmetric, impl.FlagEuclidean}

const allFlags = 11

func frameWith(arrows ...int64) impl.Frame {
	return impl.Frame{Worlds: int64(len(arrows)), Arrows: arrows}
}

// namedFrames has frames with all kinds of clusters: one, a chain of them, some that do not reach
// each other, and a fork of them, with roots and without.
func namedFrames() []impl.Frame {
	return []impl.Frame{
		frameWith(),
		frameWith(255, 255, 255, 255, 255, 255, 255, 255),
		frameWith(0, 0, 0, 0, 0, 0, 0, 0),
		frameWith(1, 2, 4, 8, 16, 32, 64, 128),
		frameWith(2, 4, 8, 16, 32, 64, 128, 1),
		frameWith(2, 4, 8, 16, 32, 64, 128, 0),
		frameWith(0, 1, 2, 4, 8, 16, 32, 64),
		frameWith(254, 252, 248, 240, 224, 192, 128, 0),
		frameWith(255, 254, 252, 248, 240, 224, 192, 128),
		frameWith(2, 5, 8, 20, 32, 80, 128, 64),
		frameWith(64, 128, 16, 4, 8, 2, 32, 1),
		frameWith(2, 1, 8, 4, 32, 16, 128, 64),
		frameWith(6, 24, 96, 8, 16, 128, 64, 0),
		frameWith(4, 4, 8, 0, 0, 16, 48, 1),
	}
}

// sampleFrames returns all frames with at most 3 worlds, and some of each greater number of
// worlds, most of them without visible order.
func sampleFrames() []impl.Frame {
	samples := namedFrames()
	for _, r := range slices.Concat(sampleRelations(), allRelations(3)) {
		if len(r) <= impl.MaxWorlds {
			samples = append(samples, frameWith(r...))
		}
	}
	seed := uint64(5)
	for worlds := 4; worlds <= impl.MaxWorlds; worlds++ {
		for i := range 40 {
			samples = append(samples, irregularFrame(&seed, worlds, 1+i%8))
		}
	}
	return samples
}

// irregularFrame returns a frame without visible order. Of 8 worlds, a world sees about as many as
// seen says.
func irregularFrame(seed *uint64, worlds, seen int) impl.Frame {
	return frameWith(relationWhere(worlds, func(_, _ int) bool { return nextNumber(seed)%8 < int64(seen) })...)
}

// invalidFrames returns frames that are wrong in their number of worlds, in the length of their
// arrows or in one mask.
func invalidFrames() []impl.Frame {
	frames := []impl.Frame{
		{Worlds: -1}, {Worlds: math.MinInt64}, {Worlds: math.MaxInt64}, {Worlds: 1 << 32}, {Worlds: 1},
		{Worlds: 9}, frameWith(make([]int64, 9)...), frameWith(make([]int64, 30)...), frameWith(make([]int64, 31)...), frameWith(make([]int64, 64)...),
		{Arrows: []int64{0}}, {Worlds: 1, Arrows: []int64{0, 0}}, {Worlds: 2, Arrows: []int64{0}}, {Worlds: 8, Arrows: make([]int64, 9)},
		{Worlds: 9, Arrows: make([]int64, 8)}, {Worlds: -1, Arrows: []int64{0}}, {Worlds: -2, Arrows: make([]int64, 2)},
	}
	for worlds := 1; worlds <= impl.MaxWorlds; worlds++ {
		for _, mask := range []int64{1 << worlds, -1, 1 << 62, math.MinInt64, math.MaxInt64} {
			first, last := make([]int64, worlds), make([]int64, worlds)
			first[0], last[worlds-1] = mask, mask
			frames = append(frames, frameWith(first...), frameWith(last...))
		}
	}
	return frames
}

func areSameFrames(f, g impl.Frame) bool {
	return f.Worlds == g.Worlds && slices.Equal(f.Arrows, g.Arrows)
}

func expectFrame(t *testing.T, what string, got impl.Frame, code int64, want impl.Frame) {
	t.Helper()
	if !areSameFrames(got, want) || code != impl.ErrNone {
		t.Errorf("%s = %v, code %d, want %v", what, got, code, want)
	}
}

func expectNoFrame(t *testing.T, what string, got impl.Frame, code, want int64) {
	t.Helper()
	if got.Worlds != 0 || len(got.Arrows) != 0 || code != want {
		t.Errorf("%s = %v, code %d, want code %d", what, got, code, want)
	}
}

func expectNoList(t *testing.T, what string, got []int64, code, want int64) {
	t.Helper()
	if len(got) != 0 || code != want {
		t.Errorf("%s = %v, code %d, want code %d", what, got, code, want)
	}
}

func TestFrameConstants(t *testing.T) {
	flags := []int64{
		impl.FlagReflexive, impl.FlagSerial, impl.FlagTransitive, impl.FlagSymmetric, impl.FlagEuclidean, impl.FlagDirected,
		impl.FlagConnected, impl.FlagAcyclic, impl.FlagAntisymmetric, impl.FlagDense, impl.FlagFunctional,
	}
	expectList(t, "flags", flags, impl.ErrNone, 0, 1, 2, 3, 4, 5, 6, 7, 8, 9, 10)
	if impl.MaxWorlds != 8 {
		t.Errorf("MaxWorlds = %d", impl.MaxWorlds)
	}
}

func TestIsFrame(t *testing.T) {
	for _, f := range append(sampleFrames(), impl.Frame{}, impl.Frame{Arrows: []int64{}}) {
		if !impl.IsFrame(f) {
			t.Errorf("IsFrame(%v) is false", f)
		}
	}
	for _, f := range append(invalidFrames(), frameWith(2, 4)) {
		if impl.IsFrame(f) {
			t.Errorf("IsFrame(%v) is true", f)
		}
	}
}

// frameText writes the text of a frame.
func frameText(f impl.Frame) string {
	text := fmt.Sprintf("%d:", f.Worlds)
	for from := range f.Arrows {
		for to := range f.Arrows {
			if relates(f.Arrows, from, to) {
				text += fmt.Sprintf(" %d>%d", from, to)
			}
		}
	}
	return text
}

var frameShape = regexp.MustCompile(`\A[0-8]:( [0-7]>[0-7])*\z`)

// frameOfText returns the frame whose text is the argument, and whether there is one.
func frameOfText(text string) (impl.Frame, bool) {
	if !frameShape.MatchString(text) {
		return impl.Frame{}, false
	}
	f := frameWith(make([]int64, text[0]-'0')...)
	before := ""
	for at := 3; at < len(text); at += 4 {
		arrow := text[at : at+3]
		from, to := int64(arrow[0]-'0'), int64(arrow[2]-'0')
		if arrow <= before || max(from, to) >= f.Worlds {
			return impl.Frame{}, false
		}
		f.Arrows[from] += 1 << to
		before = arrow
	}
	return f, true
}

// expectParsed expects of ParseFrame what frameOfText says.
func expectParsed(t *testing.T, text string) {
	t.Helper()
	got, code := impl.ParseFrame(text)
	if want, isText := frameOfText(text); isText {
		expectFrame(t, fmt.Sprintf("ParseFrame(%q)", text), got, code, want)
	} else {
		expectNoFrame(t, fmt.Sprintf("ParseFrame(%q)", text), got, code, impl.ErrSyntax)
	}
}

func TestFrameTexts(t *testing.T) {
	for _, f := range sampleFrames() {
		text, code := impl.FrameText(f)
		if text != frameText(f) || code != impl.ErrNone {
			t.Errorf("FrameText(%v) = %q, code %d", f, text, code)
		}
		back, code := impl.ParseFrame(text)
		expectFrame(t, fmt.Sprintf("ParseFrame(%q)", text), back, code, f)
	}
	for text, want := range map[string]impl.Frame{
		"0:": frameWith(), "1:": frameWith(0), "1: 0>0": frameWith(1), "2: 0>0 0>1": frameWith(3, 0), "3: 0>1 2>0": frameWith(2, 0, 1),
		"8:": frameWith(0, 0, 0, 0, 0, 0, 0, 0), "8: 0>7 7>0 7>7": frameWith(128, 0, 0, 0, 0, 0, 0, 129),
	} {
		got, code := impl.ParseFrame(text)
		expectFrame(t, fmt.Sprintf("ParseFrame(%q)", text), got, code, want)
		back, code := impl.FrameText(want)
		if back != text || code != impl.ErrNone {
			t.Errorf("FrameText(%v) = %q, code %d, want %q", want, back, code, text)
		}
	}
}

func TestParseFrameSyntax(t *testing.T) {
	for _, text := range []string{
		// The number of worlds and what is behind it.
		"", " ", ":", "0", "2", "8", "9:", "10:", "08:", "00:", "02: 0>1", "-0:", "+0:", "-1:", "+2:", "x:", "0x2:", "1e0:", "2;", "2::", ":2", "2 :", " 2:", "2: ", "2:  ", "2:\n", "2:\t", "\n2:",
		"9223372036854775807:", "9223372036854775808:", "18446744073709551618:", "-9223372036854775808:", "2.0:", "1_0:", "\u0662:", "\xff:", "2:\x00", "2: \x00",
		// Arrows to or from worlds that do not exist.
		"0: 0>0", "1: 0>1", "1: 1>0", "2: 0>2", "2: 2>0", "2: 1>2", "8: 0>8", "8: 8>0", "8: 7>8", "8: 9>9", "2: 0>-1", "2: -1>0", "2: 0>18446744073709551617", "2: 4294967296>0",
		// Arrows out of order or twice.
		"2: 1>0 0>1", "2: 0>1 0>0", "2: 1>1 1>0", "2: 0>1 0>1", "2: 0>1 1>0 0>1", "3: 0>2 0>1 1>2", "3: 2>0 1>2",
		// Blanks too many or too few, and other letters.
		"2:0>1", "2:  0>1", "2: 0>1 ", "2: 0>1  1>0", "2: 0>11>0", "2: 0 >1", "2: 0> 1", "2: 0>1\t1>0", "2: 0>1\n1>0", "2: 0>1\n", "2: 0>1\u00a01>0", "2:\t0>1", "2: 0>1,1>0", "2 0>1", "2: 2: 0>1", "2: 0>1: 1>0",
		// Numbers and links that are not as they should be.
		"2: 0>01", "2: 00>1", "2: +0>1", "2: 0>+1", "2: -0>1", "2: 0>-0", "2: 0>", "2: >1", "2: >", "2: 0", "2: 01", "2: 0<1", "2: 0->1", "2: 0>>1", "2: 0>1>1", "2: 0>1>", "2: a>b", "2: p>q", "2: 0>0x1", "2: 0>1_0", "2: 0>1.", "2: \u0660>\u0661",
	} {
		got, code := impl.ParseFrame(text)
		expectNoFrame(t, fmt.Sprintf("ParseFrame(%q)", text), got, code, impl.ErrSyntax)
		expectParsed(t, text)
	}
	for _, text := range []string{"2:" + strings.Repeat(" 0>1", 100000), "2:" + strings.Repeat(" ", 100000), strings.Repeat("2", 100000), "8:" + strings.Repeat(" 0>0 0>1", 40)} {
		got, code := impl.ParseFrame(text)
		expectNoFrame(t, fmt.Sprintf("ParseFrame of %d bytes", len(text)), got, code, impl.ErrSyntax)
	}
}

func TestParseFrameOfAllShortTexts(t *testing.T) {
	texts := []string{""}
	for range 6 {
		var longer []string
		for _, text := range texts {
			for _, letter := range "0128:> " {
				longer = append(longer, text+string(letter))
			}
		}
		for _, text := range longer {
			expectParsed(t, text)
		}
		texts = longer
	}
}

func TestParseFrameOfChangedTexts(t *testing.T) {
	const letters = "012789:> +-\tx"
	for _, f := range append(namedFrames(), frameWith(2, 0), frameWith(3, 1), frameWith(6, 0, 3), frameWith(1, 5, 7)) {
		text := frameText(f)
		for at := range len(text) + 1 {
			head, tail := text[:at], text[at:]
			expectParsed(t, head)
			expectParsed(t, tail)
			for _, letter := range letters {
				expectParsed(t, head+string(letter)+tail)
				if tail != "" {
					expectParsed(t, head+string(letter)+tail[1:])
				}
			}
			if tail != "" {
				expectParsed(t, head+tail[1:])
			}
			if len(tail) >= 4 {
				expectParsed(t, head+tail[:4]+tail)
				expectParsed(t, head+tail[4:])
			}
		}
	}
}

// flagHolds tells whether a frame with some arrows has a flag, for all worlds x, y and z.
func flagHolds(r []int64, flag int64) bool {
	for x := range r {
		for y := range r {
			for z := range r {
				if !flagHoldsAt(r, flag, x, y, z) {
					return false
				}
			}
		}
	}
	return true
}

func flagHoldsAt(r []int64, flag int64, x, y, z int) bool {
	sees := func(i, j int) bool { return relates(r, i, j) }
	some := func(holds func(w int) bool) bool {
		for w := range r {
			if holds(w) {
				return true
			}
		}
		return false
	}
	switch flag {
	case impl.FlagReflexive:
		return sees(x, x)
	case impl.FlagSerial:
		return some(func(w int) bool { return sees(x, w) })
	case impl.FlagTransitive:
		return !sees(x, y) || !sees(y, z) || sees(x, z)
	case impl.FlagSymmetric:
		return !sees(x, y) || sees(y, x)
	case impl.FlagEuclidean:
		return !sees(x, y) || !sees(x, z) || sees(y, z)
	case impl.FlagDirected:
		return !sees(x, y) || !sees(x, z) || some(func(w int) bool { return sees(y, w) && sees(z, w) })
	case impl.FlagConnected:
		return !sees(x, y) || !sees(x, z) || sees(y, z) || sees(z, y)
	case impl.FlagAcyclic:
		return !sees(x, y) || !reachesIn(r, y, x)
	case impl.FlagAntisymmetric:
		return !sees(x, y) || !sees(y, x) || x == y
	case impl.FlagDense:
		return !sees(x, y) || some(func(w int) bool { return sees(x, w) && sees(w, y) })
	default:
		return !sees(x, y) || !sees(x, z) || y == z
	}
}

// reachesIn tells whether j is reached from i in some steps, or none.
func reachesIn(r []int64, i, j int) bool { return reachedFrom(r, 1<<i)&(1<<j) != 0 }

// reachedFrom returns the mask of all worlds that the worlds of a mask reach in some steps, or
// none.
func reachedFrom(r []int64, mask int64) int64 {
	waiting := mask
	for w := 0; waiting != 0; w = (w + 1) % len(r) {
		if waiting&(1<<w) != 0 {
			waiting &^= 1 << w
			waiting |= r[w] &^ mask
			mask |= r[w]
		}
	}
	return mask
}

func flagList(r []int64) []int64 {
	list := make([]int64, allFlags)
	for flag := range int64(allFlags) {
		if flagHolds(r, flag) {
			list[flag] = 1
		}
	}
	return list
}

func TestFrameFlags(t *testing.T) {
	seen := map[string]int{}
	for _, f := range sampleFrames() {
		variants := [][]int64{f.Arrows}
		for _, flag := range closingFlags {
			variants = append(variants, leastWith(f.Arrows, flag))
		}
		for _, r := range variants {
			want := flagList(r)
			list, code := impl.FrameFlags(frameWith(r...))
			expectList(t, fmt.Sprint("FrameFlags of ", r), list, code, want...)
			for flag, value := range want {
				seen[fmt.Sprint(flag, value, len(r) > 3)]++
			}
		}
	}
	// Each flag is there and is missing, in small frames and in large ones.
	if len(seen) != 4*allFlags {
		t.Errorf("the samples have flags as in %v", seen)
	}
}

// Each flag at frames that have it and at frames that lack it, with the lists written out.
func TestFlagsOfNamedFrames(t *testing.T) {
	for _, c := range []struct {
		f    impl.Frame
		want []int64
	}{
		{frameWith(), []int64{1, 1, 1, 1, 1, 1, 1, 1, 1, 1, 1}},
		{frameWith(0), []int64{0, 0, 1, 1, 1, 1, 1, 1, 1, 1, 1}},
		{frameWith(1), []int64{1, 1, 1, 1, 1, 1, 1, 0, 1, 1, 1}},
		{frameWith(2, 0), []int64{0, 0, 1, 0, 0, 0, 0, 1, 1, 0, 1}},
		{frameWith(2, 2), []int64{0, 1, 1, 0, 1, 1, 1, 0, 1, 1, 1}},
		{frameWith(2, 1), []int64{0, 1, 0, 1, 0, 1, 0, 0, 0, 0, 1}},
		{frameWith(3, 3), []int64{1, 1, 1, 1, 1, 1, 1, 0, 0, 1, 0}},
		{frameWith(3, 2), []int64{1, 1, 1, 0, 0, 1, 1, 0, 1, 1, 0}},
		{frameWith(7, 2, 4), []int64{1, 1, 1, 0, 0, 0, 0, 0, 1, 1, 0}},
		{frameWith(6, 4, 0), []int64{0, 0, 1, 0, 0, 0, 0, 1, 1, 0, 0}},
		{frameWith(2, 4, 1), []int64{0, 1, 0, 0, 0, 1, 0, 0, 1, 0, 1}},
		{frameWith(6, 4, 4), []int64{0, 1, 1, 0, 0, 1, 0, 0, 1, 0, 0}},
		{frameWith(3, 7, 6), []int64{1, 1, 0, 1, 0, 1, 0, 0, 0, 1, 0}},
		{frameWith(6, 6, 6), []int64{0, 1, 1, 0, 1, 1, 1, 0, 0, 1, 0}},
	} {
		list, code := impl.FrameFlags(c.f)
		expectList(t, fmt.Sprint("FrameFlags of ", c.f), list, code, c.want...)
	}
}

// leastWith returns a relation with all pairs that it must have for one of the closing flags, put
// in one by one.
func leastWith(r []int64, flag int64) []int64 {
	closed := slices.Clone(r)
	for !flagHolds(closed, flag) {
		for x := range closed {
			for y := range closed {
				for z := range closed {
					if flagHoldsAt(closed, flag, x, y, z) {
						continue
					}
					switch flag {
					case impl.FlagReflexive:
						closed[x] |= 1 << x
					case impl.FlagTransitive:
						closed[x] |= 1 << z
					case impl.FlagSymmetric:
						closed[y] |= 1 << x
					default:
						closed[y] |= 1 << z
					}
				}
			}
		}
	}
	return closed
}

func TestCloseFrame(t *testing.T) {
	for _, c := range []struct {
		f    impl.Frame
		flag int64
		want impl.Frame
	}{
		{frameWith(2, 0), impl.FlagEuclidean, frameWith(2, 2)},
		{frameWith(2, 0), impl.FlagReflexive, frameWith(3, 2)},
		{frameWith(2, 0), impl.FlagSymmetric, frameWith(2, 1)},
		{frameWith(2, 0), impl.FlagTransitive, frameWith(2, 0)},
		{frameWith(2, 4, 0), impl.FlagTransitive, frameWith(6, 4, 0)},
		{frameWith(2, 4, 1), impl.FlagTransitive, frameWith(7, 7, 7)},
		{frameWith(2, 4, 8, 0), impl.FlagEuclidean, frameWith(2, 14, 14, 14)},
		{frameWith(2, 4, 8, 16, 32, 64, 128, 0), impl.FlagEuclidean, frameWith(2, 254, 254, 254, 254, 254, 254, 254)},
	} {
		got, code := impl.CloseFrame(c.f, c.flag)
		expectFrame(t, fmt.Sprint("CloseFrame of ", c.f, c.flag), got, code, c.want)
	}
	for _, f := range sampleFrames() {
		for _, flag := range closingFlags {
			got, code := impl.CloseFrame(f, flag)
			what := fmt.Sprint("CloseFrame of ", f, flag)
			expectFrame(t, what, got, code, frameWith(leastWith(f.Arrows, flag)...))
			again, code := impl.CloseFrame(got, flag)
			expectFrame(t, what+" again", again, code, got)
		}
	}
}

func TestCloseFrameRange(t *testing.T) {
	for _, f := range []impl.Frame{frameWith(), frameWith(2, 0), frameWith(3, 3), namedFrames()[1]} {
		for _, flag := range []int64{
			impl.FlagSerial, impl.FlagDirected, impl.FlagConnected, impl.FlagAcyclic, impl.FlagAntisymmetric, impl.FlagDense, impl.FlagFunctional,
			-1, 11, 1 << 32, 64, math.MinInt64, math.MaxInt64,
		} {
			got, code := impl.CloseFrame(f, flag)
			expectNoFrame(t, fmt.Sprint("CloseFrame of ", f, flag), got, code, impl.ErrRange)
		}
	}
}

// P5, first part, by all frames with few worlds: a closure has the property and all arrows of the
// frame, and each frame of which this is true has all arrows of the closure.
func TestClosuresOfFramesAreLeast(t *testing.T) {
	for worlds := range 4 {
		relations := allRelations(worlds)
		for _, flag := range closingFlags {
			var with [][]int64
			for _, r := range relations {
				if flagHolds(r, flag) {
					with = append(with, r)
				}
			}
			for _, r := range relations {
				got, code := impl.CloseFrame(frameWith(r...), flag)
				if code != impl.ErrNone || got.Worlds != int64(worlds) || !contains(got.Arrows, r) || !flagHolds(got.Arrows, flag) {
					t.Fatalf("CloseFrame(%v, %d) = %v, code %d", r, flag, got, code)
				}
				for _, other := range with {
					if contains(other, r) && !contains(other, got.Arrows) {
						t.Fatalf("CloseFrame(%v, %d) = %v, but %v is less", r, flag, got, other)
					}
				}
			}
		}
	}
}

// The same for some frames with 4 worlds: a closure is what all frames with the property have in common
// that have all arrows of the frame.
func TestClosuresOfFourWorldsAreLeast(t *testing.T) {
	for _, flag := range closingFlags {
		var with []int64
		for number := range int64(1) << 16 {
			if flagHolds(fourMasks(number), flag) {
				with = append(with, number)
			}
		}
		seed := uint64(29)
		for i := range 200 {
			number := nextNumber(&seed) & (1<<16 - 1)
			for range i % 4 {
				number &= nextNumber(&seed)
			}
			common := int64(1<<16 - 1)
			for _, other := range with {
				if number&^other == 0 {
					common &= other
				}
			}
			got, code := impl.CloseFrame(frameWith(fourMasks(number)...), flag)
			expectFrame(t, fmt.Sprint("CloseFrame of ", fourMasks(number), flag), got, code, frameWith(fourMasks(common)...))
		}
	}
}

// fourMasks returns the relation on 4 elements with the binary digits of a number.
func fourMasks(number int64) []int64 {
	return []int64{number & 15, number >> 4 & 15, number >> 8 & 15, number >> 12}
}

func isClosed(r []int64, mask int64) bool {
	for i := range r {
		if mask&(1<<i) != 0 && r[i]&^mask != 0 {
			return false
		}
	}
	return true
}

func TestGeneratedWorlds(t *testing.T) {
	got, code := impl.GeneratedWorlds(frameWith(2, 0, 1), 4)
	expectNumber(t, "GeneratedWorlds", got, code, 7)
	for _, f := range sampleFrames() {
		all := int64(1)<<f.Worlds - 1
		for mask := range all + 1 {
			if f.Worlds > 5 && mask%7 != 0 && mask != all {
				continue
			}
			// What all closed sets with these worlds have in common is the least one.
			want := all
			for other := range all + 1 {
				if mask&^other == 0 && isClosed(f.Arrows, other) {
					want &= other
				}
			}
			got, code := impl.GeneratedWorlds(f, mask)
			expectNumber(t, fmt.Sprint("GeneratedWorlds of ", f, mask), got, code, want)
		}
	}
}

func TestPartOfFrame(t *testing.T) {
	for _, c := range []struct {
		f    impl.Frame
		mask int64
		want impl.Frame
	}{
		{frameWith(2, 0, 1), 5, frameWith(0, 1)},
		{frameWith(2, 0, 1), 0, frameWith()},
		{frameWith(2, 0, 1), 7, frameWith(2, 0, 1)},
		{frameWith(2, 0, 1), 3, frameWith(2, 0)},
		{frameWith(2, 0, 1), 4, frameWith(0)},
		{frameWith(), 0, frameWith()},
		{frameWith(129, 0, 0, 0, 0, 0, 0, 129), 129, frameWith(3, 3)},
		{namedFrames()[4], 255, namedFrames()[4]},
	} {
		got, code := impl.PartOfFrame(c.f, c.mask)
		expectFrame(t, fmt.Sprint("PartOfFrame of ", c.f, c.mask), got, code, c.want)
	}
	for _, f := range sampleFrames() {
		for mask := range int64(1) << f.Worlds {
			var members []int
			for w := range int(f.Worlds) {
				if mask&(1<<w) != 0 {
					members = append(members, w)
				}
			}
			want := frameWith(relationWhere(len(members), func(i, j int) bool { return relates(f.Arrows, members[i], members[j]) })...)
			got, code := impl.PartOfFrame(f, mask)
			expectFrame(t, fmt.Sprint("PartOfFrame of ", f, mask), got, code, want)
		}
	}
}

func TestMasksOutOfRange(t *testing.T) {
	for _, f := range namedFrames() {
		for _, mask := range []int64{1 << f.Worlds, 1<<f.Worlds + 1, 256, -1, -256, 1 << 32, 1 << 62, math.MinInt64, math.MaxInt64} {
			number, code := impl.GeneratedWorlds(f, mask)
			if number != 0 || code != impl.ErrRange {
				t.Errorf("GeneratedWorlds(%v, %d) = %d, code %d", f, mask, number, code)
			}
			part, code := impl.PartOfFrame(f, mask)
			expectNoFrame(t, fmt.Sprint("PartOfFrame of ", f, mask), part, code, impl.ErrRange)
		}
	}
}

// sumOf and productOf return the sum and the product of two frames of any sizes.
func sumOf(f, g impl.Frame) impl.Frame {
	n := len(f.Arrows)
	return frameWith(relationWhere(n+len(g.Arrows), func(i, j int) bool {
		return i < n && j < n && relates(f.Arrows, i, j) || i >= n && j >= n && relates(g.Arrows, i-n, j-n)
	})...)
}

func productOf(f, g impl.Frame) impl.Frame {
	n := len(g.Arrows)
	return frameWith(relationWhere(len(f.Arrows)*n, func(i, j int) bool {
		return relates(f.Arrows, i/n, j/n) && relates(g.Arrows, i%n, j%n)
	})...)
}

func expectJoined(t *testing.T, what string, got impl.Frame, code int64, want impl.Frame) {
	t.Helper()
	if want.Worlds > impl.MaxWorlds {
		expectNoFrame(t, what, got, code, impl.ErrLimit)
		return
	}
	expectFrame(t, what, got, code, want)
}

func expectSumAndProduct(t *testing.T, f, g impl.Frame) {
	t.Helper()
	sum, code := impl.SumFrames(f, g)
	expectJoined(t, fmt.Sprint("SumFrames of ", f, g), sum, code, sumOf(f, g))
	product, code := impl.ProductFrames(f, g)
	expectJoined(t, fmt.Sprint("ProductFrames of ", f, g), product, code, productOf(f, g))
}

func TestSumsAndProducts(t *testing.T) {
	seed := uint64(31)
	for n := range impl.MaxWorlds + 1 {
		for k := range impl.MaxWorlds + 1 {
			for i := range 20 {
				expectSumAndProduct(t, irregularFrame(&seed, n, 1+i%8), irregularFrame(&seed, k, 1+i/3))
			}
		}
	}
	var small []impl.Frame
	for n := range 3 {
		for _, r := range allRelations(n) {
			small = append(small, frameWith(r...))
		}
	}
	for _, f := range small {
		for _, g := range append(small, namedFrames()...) {
			expectSumAndProduct(t, f, g)
			expectSumAndProduct(t, g, f)
		}
	}
}

func TestNamedSumsAndProducts(t *testing.T) {
	none, one, eight := frameWith(), frameWith(1), namedFrames()[4]
	for _, c := range []struct{ f, g, sum, product impl.Frame }{
		{none, none, none, none},
		{one, none, one, none},
		{none, eight, eight, none},
		{eight, none, eight, none},
		{frameWith(2, 0), one, frameWith(2, 0, 4), frameWith(2, 0)},
		{one, frameWith(2, 0), frameWith(1, 4, 0), frameWith(2, 0)},
		{frameWith(2, 0), frameWith(3, 0), frameWith(2, 0, 12, 0), frameWith(12, 0, 0, 0)},
		{frameWith(3, 0), frameWith(2, 0), frameWith(3, 0, 8, 0), frameWith(10, 0, 0, 0)},
	} {
		sum, code := impl.SumFrames(c.f, c.g)
		expectFrame(t, fmt.Sprint("SumFrames of ", c.f, c.g), sum, code, c.sum)
		product, code := impl.ProductFrames(c.f, c.g)
		expectFrame(t, fmt.Sprint("ProductFrames of ", c.f, c.g), product, code, c.product)
	}
	// Nine worlds in the sum, or in the product; eight in the other one.
	sum, code := impl.SumFrames(eight, one)
	expectNoFrame(t, "SumFrames with nine worlds", sum, code, impl.ErrLimit)
	product, code := impl.ProductFrames(eight, one)
	expectFrame(t, "ProductFrames with eight worlds", product, code, eight)
	three := frameWith(7, 7, 7)
	sum, code = impl.SumFrames(three, three)
	expectFrame(t, "SumFrames with six worlds", sum, code, frameWith(7, 7, 7, 56, 56, 56))
	product, code = impl.ProductFrames(three, three)
	expectNoFrame(t, "ProductFrames with nine worlds", product, code, impl.ErrLimit)
	product, code = impl.ProductFrames(frameWith(3, 3), frameWith(15, 15, 15, 15))
	expectFrame(t, "ProductFrames with eight worlds", product, code, namedFrames()[1])
}

// clusterNumbers numbers the clusters of worlds that reach each other.
func clusterNumbers(r []int64) []int64 {
	numbers := []int64{}
	var next int64
	for w := range r {
		number := next
		for v := range w {
			if reachesIn(r, v, w) && reachesIn(r, w, v) {
				number = numbers[v]
				break
			}
		}
		numbers = append(numbers, number)
		next = max(next, number+1)
	}
	return numbers
}

// longestFrom returns the length of the longest list that goes on with w behind a list of worlds
// in other clusters than each other, each reached from the one before it.
func longestFrom(r, clusters []int64, before []int, w int) int64 {
	list := append(slices.Clone(before), w)
	longest := int64(len(list))
	for v := range r {
		isNew := !slices.ContainsFunc(list, func(x int) bool { return clusters[x] == clusters[v] })
		if isNew && reachesIn(r, w, v) {
			longest = max(longest, longestFrom(r, clusters, list, v))
		}
	}
	return longest
}

// P5, second part: clusters, depths and roots agree with reachability.
func TestClustersDepthsAndRoots(t *testing.T) {
	for _, f := range sampleFrames() {
		clusters := clusterNumbers(f.Arrows)
		var depths []int64
		var roots int64
		for w := range f.Arrows {
			depths = append(depths, longestFrom(f.Arrows, clusters, nil, w))
			if reachedFrom(f.Arrows, 1<<w) == 1<<f.Worlds-1 {
				roots += 1 << w
			}
		}
		list, code := impl.ClustersOf(f)
		expectList(t, fmt.Sprint("ClustersOf ", f), list, code, clusters...)
		list, code = impl.DepthsOfWorlds(f)
		expectList(t, fmt.Sprint("DepthsOfWorlds of ", f), list, code, depths...)
		mask, code := impl.RootsOf(f)
		expectNumber(t, fmt.Sprint("RootsOf ", f), mask, code, roots)
	}
}

func TestNamedClustersDepthsAndRoots(t *testing.T) {
	for _, c := range []struct {
		f                impl.Frame
		clusters, depths []int64
		roots            int64
	}{
		{frameWith(), nil, nil, 0},
		{frameWith(0), []int64{0}, []int64{1}, 1},
		{frameWith(1), []int64{0}, []int64{1}, 1},
		{frameWith(0, 0), []int64{0, 1}, []int64{1, 1}, 0},
		{frameWith(2, 1, 1), []int64{0, 0, 1}, []int64{1, 1, 2}, 4},
		{frameWith(4, 4, 0), []int64{0, 1, 2}, []int64{2, 2, 1}, 0},
		{frameWith(6, 0, 0), []int64{0, 1, 2}, []int64{2, 1, 1}, 1},
		// A chain whose worlds are one cluster, and chains of one world each, up and down.
		{namedFrames()[4], make([]int64, 8), []int64{1, 1, 1, 1, 1, 1, 1, 1}, 255},
		{namedFrames()[5], []int64{0, 1, 2, 3, 4, 5, 6, 7}, []int64{8, 7, 6, 5, 4, 3, 2, 1}, 1},
		{namedFrames()[6], []int64{0, 1, 2, 3, 4, 5, 6, 7}, []int64{1, 2, 3, 4, 5, 6, 7, 8}, 128},
		// A chain of clusters, and clusters that do not reach each other.
		{frameWith(8, 16, 32, 1, 42, 4), []int64{0, 1, 2, 0, 1, 2}, []int64{1, 2, 1, 1, 2, 1}, 18},
		{namedFrames()[11], []int64{0, 0, 1, 1, 2, 2, 3, 3}, []int64{1, 1, 1, 1, 1, 1, 1, 1}, 0},
		// A world that reaches the last one on a short and on a long way.
		{frameWith(10, 4, 8, 0), []int64{0, 1, 2, 3}, []int64{4, 3, 2, 1}, 1},
	} {
		list, code := impl.ClustersOf(c.f)
		expectList(t, fmt.Sprint("ClustersOf ", c.f), list, code, c.clusters...)
		list, code = impl.DepthsOfWorlds(c.f)
		expectList(t, fmt.Sprint("DepthsOfWorlds of ", c.f), list, code, c.depths...)
		mask, code := impl.RootsOf(c.f)
		expectNumber(t, fmt.Sprint("RootsOf ", c.f), mask, code, c.roots)
	}
}

// arrangements returns all orders of n worlds.
func arrangements(n int) [][]int {
	var all [][]int
	var extend func(order []int)
	extend = func(order []int) {
		if len(order) == n {
			all = append(all, slices.Clone(order))
		}
		for w := range n {
			if !slices.Contains(order, w) {
				extend(append(order, w))
			}
		}
	}
	extend(nil)
	return all
}

// reordered returns the frame in which the world i is the world order[i] of f.
func reordered(f impl.Frame, order []int) impl.Frame {
	return frameWith(relationWhere(len(order), func(i, j int) bool { return relates(f.Arrows, order[i], order[j]) })...)
}

// leastOf returns the least form of f.
func leastOf(f impl.Frame) impl.Frame {
	least := f
	for _, order := range arrangements(len(f.Arrows)) {
		if other := reordered(f, order); slices.Compare(other.Arrows, least.Arrows) < 0 {
			least = other
		}
	}
	return least
}

// areIsomorphic looks for a bijection that keeps and reflects arrows, world by world.
func areIsomorphic(f, g impl.Frame) bool {
	var extend func(images []int) bool
	extend = func(images []int) bool {
		last := len(images) - 1
		for i := range images {
			if relates(f.Arrows, i, last) != relates(g.Arrows, images[i], images[last]) || relates(f.Arrows, last, i) != relates(g.Arrows, images[last], images[i]) {
				return false
			}
		}
		for w := range g.Arrows {
			if !slices.Contains(images, w) && extend(append(slices.Clone(images), w)) {
				return true
			}
		}
		return len(images) == len(g.Arrows)
	}
	return f.Worlds == g.Worlds && extend(nil)
}

// expectOneForm expects that frames have one least form exactly if they are isomorphic.
func expectOneForm(t *testing.T, f, g impl.Frame) bool {
	t.Helper()
	first, code1 := impl.LeastFrame(f)
	second, code2 := impl.LeastFrame(g)
	isomorphic := areIsomorphic(f, g)
	if code1 != impl.ErrNone || code2 != impl.ErrNone || areSameFrames(first, second) != isomorphic {
		t.Errorf("LeastFrame of %v and %v = %v and %v, codes %d and %d, but isomorphic: %v", f, g, first, second, code1, code2, isomorphic)
	}
	return isomorphic
}

func TestLeastFrame(t *testing.T) {
	for _, c := range [][2]impl.Frame{
		{frameWith(), frameWith()},
		{frameWith(0), frameWith(0)},
		{frameWith(1), frameWith(1)},
		{frameWith(2, 0), frameWith(0, 1)},
		{frameWith(3, 0), frameWith(0, 3)},
		{frameWith(1, 0), frameWith(0, 2)},
		{frameWith(2, 4, 0), frameWith(0, 1, 2)},
		{frameWith(63, 63, 63, 63, 63, 63), frameWith(63, 63, 63, 63, 63, 63)},
		{frameWith(62, 60, 56, 48, 32, 0), frameWith(0, 1, 3, 7, 15, 31)},
	} {
		got, code := impl.LeastFrame(c[0])
		expectFrame(t, fmt.Sprint("LeastFrame of ", c[0]), got, code, c[1])
	}
	for i, f := range sampleFrames() {
		switch {
		case f.Worlds > 6:
			got, code := impl.LeastFrame(f)
			expectNoFrame(t, fmt.Sprint("LeastFrame of ", f), got, code, impl.ErrLimit)
		case f.Worlds < 5 || i%3 == 0:
			want := leastOf(f)
			got, code := impl.LeastFrame(f)
			expectFrame(t, fmt.Sprint("LeastFrame of ", f), got, code, want)
			got, code = impl.LeastFrame(got)
			expectFrame(t, fmt.Sprint("LeastFrame of the least form of ", f), got, code, want)
		}
	}
	for _, f := range []impl.Frame{frameWith(0, 0, 0, 0, 0, 0, 0), frameWith(127, 127, 127, 127, 127, 127, 127)} {
		got, code := impl.LeastFrame(f)
		expectNoFrame(t, "LeastFrame of seven worlds", got, code, impl.ErrLimit)
	}
}

// P5, third part, by all pairs of frames with at most 3 worlds.
func TestFramesAreIsomorphicExactlyIfTheyHaveOneLeastForm(t *testing.T) {
	for worlds := range 4 {
		relations := allRelations(worlds)
		for i, r := range relations {
			for _, other := range relations[i:] {
				expectOneForm(t, frameWith(r...), frameWith(other...))
			}
		}
	}
	expectOneForm(t, frameWith(), frameWith(0))
	expectOneForm(t, frameWith(0), frameWith(0, 0))
}

// The same for more worlds: a frame in another order, with or without one arrow changed.
func TestLeastFormsOfChangedFrames(t *testing.T) {
	seed := uint64(37)
	isomorphic, count := 0, 0
	for worlds := 3; worlds <= 6; worlds++ {
		orders := arrangements(worlds)
		for i := range 120 {
			f := irregularFrame(&seed, worlds, 1+i%8)
			g := reordered(f, orders[nextNumber(&seed)%int64(len(orders))])
			if i%2 == 1 {
				g.Arrows[nextNumber(&seed)%int64(worlds)] ^= 1 << (nextNumber(&seed) % int64(worlds))
				g.Arrows[nextNumber(&seed)%int64(worlds)] ^= 1 << (nextNumber(&seed) % int64(worlds))
			}
			count++
			if expectOneForm(t, f, g) {
				isomorphic++
			}
		}
	}
	if isomorphic < count/2 || isomorphic > count*3/4 {
		t.Errorf("%d of %d pairs are isomorphic", isomorphic, count)
	}
	// Worlds that see and are seen by as many worlds, in frames that are not isomorphic.
	for _, c := range [][2]impl.Frame{
		{frameWith(2, 4, 8, 16, 32, 1), frameWith(2, 4, 1, 16, 32, 8)},
		{frameWith(2, 1, 8, 4), frameWith(2, 4, 8, 1)},
		{frameWith(34, 5, 10, 20, 40, 17), frameWith(6, 5, 3, 48, 40, 24)},
		{frameWith(34, 5, 10, 20, 40, 17), frameWith(56, 56, 56, 7, 7, 7)},
	} {
		if expectOneForm(t, c[0], c[1]) {
			t.Errorf("%v and %v are isomorphic", c[0], c[1])
		}
	}
}

// All orders of one frame have the same least form, the least of their codes.
func TestLeastFormOfAllOrders(t *testing.T) {
	for _, f := range []impl.Frame{frameWith(2, 4, 8, 16, 32, 0), frameWith(12, 33, 2, 17, 0, 26)} {
		want := leastOf(f)
		for _, order := range arrangements(6) {
			got, code := impl.LeastFrame(reordered(f, order))
			expectFrame(t, fmt.Sprint("LeastFrame of ", f, " in the order ", order), got, code, want)
		}
	}
}

func TestAllFrames(t *testing.T) {
	for n, count := range []int{1, 2, 10, 104} {
		var want []impl.Frame
		for _, r := range allRelations(n) {
			if f := frameWith(r...); areSameFrames(leastOf(f), f) {
				want = append(want, f)
			}
		}
		slices.SortFunc(want, func(f, g impl.Frame) int { return slices.Compare(f.Arrows, g.Arrows) })
		got, code := impl.AllFrames(int64(n))
		if !slices.EqualFunc(got, want, areSameFrames) || len(got) != count || code != impl.ErrNone {
			t.Errorf("AllFrames(%d) = %v, code %d, want %v", n, got, code, want)
		}
	}
	two := "[{2 [0 0]} {2 [0 1]} {2 [0 2]} {2 [0 3]} {2 [1 1]} {2 [1 2]} {2 [1 3]} {2 [2 1]} {2 [2 3]} {2 [3 3]}]"
	if got, code := impl.AllFrames(2); fmt.Sprint(got) != two || code != impl.ErrNone {
		t.Errorf("AllFrames(2) = %v, code %d", got, code)
	}
	for _, n := range []int64{-1, 4, 5, 8, 1 << 32, math.MinInt64, math.MaxInt64} {
		if got, code := impl.AllFrames(n); len(got) != 0 || code != impl.ErrRange {
			t.Errorf("AllFrames(%d) = %v, code %d", n, got, code)
		}
	}
}

// What is not a frame comes before numbers that are out of range and before limits.
func TestErrorsOfFrames(t *testing.T) {
	for _, f := range invalidFrames() {
		what := fmt.Sprint(" of ", f)
		if text, code := impl.FrameText(f); text != "" || code != impl.ErrInvalid {
			t.Errorf("FrameText%s = %q, code %d", what, text, code)
		}
		flags, code := impl.FrameFlags(f)
		expectNoList(t, "FrameFlags"+what, flags, code, impl.ErrInvalid)
		clusters, code := impl.ClustersOf(f)
		expectNoList(t, "ClustersOf"+what, clusters, code, impl.ErrInvalid)
		depths, code := impl.DepthsOfWorlds(f)
		expectNoList(t, "DepthsOfWorlds"+what, depths, code, impl.ErrInvalid)
		if roots, code := impl.RootsOf(f); roots != 0 || code != impl.ErrInvalid {
			t.Errorf("RootsOf%s = %d, code %d", what, roots, code)
		}
		least, code := impl.LeastFrame(f)
		expectNoFrame(t, "LeastFrame"+what, least, code, impl.ErrInvalid)
		for _, number := range []int64{0, 1, 2, 4, -1, 512, math.MinInt64, math.MaxInt64} {
			closure, code := impl.CloseFrame(f, number)
			expectNoFrame(t, "CloseFrame"+what, closure, code, impl.ErrInvalid)
			part, code := impl.PartOfFrame(f, number)
			expectNoFrame(t, "PartOfFrame"+what, part, code, impl.ErrInvalid)
			if generated, code := impl.GeneratedWorlds(f, number); generated != 0 || code != impl.ErrInvalid {
				t.Errorf("GeneratedWorlds%s and %d = %d, code %d", what, number, generated, code)
			}
		}
		for _, pair := range [][2]impl.Frame{{f, frameWith()}, {frameWith(), f}, {f, f}, {f, namedFrames()[1]}, {namedFrames()[1], f}} {
			sum, code := impl.SumFrames(pair[0], pair[1])
			expectNoFrame(t, "SumFrames"+what, sum, code, impl.ErrInvalid)
			product, code := impl.ProductFrames(pair[0], pair[1])
			expectNoFrame(t, "ProductFrames"+what, product, code, impl.ErrInvalid)
		}
	}
}

func arrowsIn(frames ...impl.Frame) [][]int64 {
	var lists [][]int64
	for _, f := range frames {
		lists = append(lists, f.Arrows)
	}
	return lists
}

// No function changes an argument or the capacity behind it, and no result shares memory with an
// argument, within itself or with a later result, not even where it equals the argument.
func TestFramesAreNeitherChangedNorShared(t *testing.T) {
	for _, arrows := range [][]int64{{}, {1}, {0, 1, 2}, {7, 7, 7}, {2, 4, 1}, {6, 1, 0}} {
		store := append(slices.Clone(arrows), slices.Repeat([]int64{-9}, 20)...)
		before := slices.Clone(store)
		f := impl.Frame{Worlds: int64(len(arrows)), Arrows: store[:len(arrows)]}
		for range 2 {
			for _, flag := range closingFlags {
				closure, _ := impl.CloseFrame(f, flag)
				expectOwnNumbers(t, "CloseFrame", arrowsIn(closure))
			}
			part, _ := impl.PartOfFrame(f, 1<<f.Worlds-1)
			sum1, _ := impl.SumFrames(f, frameWith())
			sum2, _ := impl.SumFrames(frameWith(), f)
			sum3, _ := impl.SumFrames(f, f)
			product1, _ := impl.ProductFrames(f, frameWith(1))
			product2, _ := impl.ProductFrames(frameWith(1), f)
			least, _ := impl.LeastFrame(f)
			expectOwnNumbers(t, "a frame", arrowsIn(part, sum1, sum2, sum3, product1, product2, least))
			flags, _ := impl.FrameFlags(f)
			clusters, _ := impl.ClustersOf(f)
			depths, _ := impl.DepthsOfWorlds(f)
			expectOwnNumbers(t, "a list", [][]int64{flags, clusters, depths})
			impl.IsFrame(f)
			impl.FrameText(f)
			impl.GeneratedWorlds(f, 1<<f.Worlds-1)
			impl.RootsOf(f)
			if !slices.Equal(store, before) {
				t.Fatalf("an argument was changed: %v", store)
			}
		}
	}
	for n := range int64(4) {
		first, _ := impl.AllFrames(n)
		expectOwnNumbers(t, "AllFrames", arrowsIn(first...))
		second, _ := impl.AllFrames(n)
		expectOwnNumbers(t, "AllFrames again", arrowsIn(second...))
	}
	one, _ := impl.ParseFrame("2: 0>1")
	expectOwnNumbers(t, "ParseFrame", arrowsIn(one))
	again, code := impl.ParseFrame("2: 0>1")
	expectFrame(t, "ParseFrame again", again, code, frameWith(2, 0))
}
