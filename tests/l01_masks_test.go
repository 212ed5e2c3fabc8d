package tests

import (
	"math"
	"math/bits"
	"slices"
	"testing"

	"loop.example/g01089/impl"
)

const allThirty = int64(1)<<impl.MaxBits - 1

// sampleRelations returns every relation on at most 2 elements, and for each greater size the
// empty one, the full one, chains in both directions, a cycle and some irregular ones.
func sampleRelations() [][]int64 {
	samples := slices.Concat(allRelations(0), allRelations(1), allRelations(2))
	seed := uint64(1)
	for n := 3; n <= impl.MaxBits; n++ {
		empty, full := make([]int64, n), make([]int64, n)
		up, down, cycle := make([]int64, n), make([]int64, n), make([]int64, n)
		for i := range n {
			full[i] = 1<<n - 1
			cycle[i] = 1 << ((i + 1) % n)
			if i > 0 {
				down[i] = 1 << (i - 1)
				up[i-1] = 1 << i
			}
		}
		samples = append(samples, empty, full, up, down, cycle)
		for density := range 3 {
			irregular := make([]int64, n)
			for i := range n {
				irregular[i] = 1<<n - 1
				for range density + 1 {
					irregular[i] &= nextNumber(&seed)
				}
			}
			samples = append(samples, irregular)
		}
	}
	return samples
}

// nextNumber returns the next number of a fixed sequence without visible order.
func nextNumber(seed *uint64) int64 {
	*seed ^= *seed << 13
	*seed ^= *seed >> 7
	*seed ^= *seed << 17
	return int64(*seed >> 20)
}

// allRelations returns all relations on n elements, n at most 3.
func allRelations(n int) [][]int64 {
	relations := [][]int64{}
	for number := range int64(1) << (n * n) {
		r := make([]int64, n)
		for i := range n {
			r[i] = number >> (i * n) & (1<<n - 1)
		}
		relations = append(relations, r)
	}
	return relations
}

func relates(r []int64, i, j int) bool { return r[i]&(1<<j) != 0 }

// relationWhere returns the relation on n elements of the pairs for which holds is true.
func relationWhere(n int, holds func(i, j int) bool) []int64 {
	r := make([]int64, n)
	for i := range n {
		for j := range n {
			if holds(i, j) {
				r[i] += 1 << j
			}
		}
	}
	return r
}

func contains(outer, inner []int64) bool {
	for i := range inner {
		if inner[i]&^outer[i] != 0 {
			return false
		}
	}
	return true
}

func isTransitive(r []int64) bool {
	for i := range r {
		for j := range r {
			for k := range r {
				if relates(r, i, j) && relates(r, j, k) && !relates(r, i, k) {
					return false
				}
			}
		}
	}
	return true
}

func isReflexive(r []int64) bool {
	for i := range r {
		if !relates(r, i, i) {
			return false
		}
	}
	return true
}

func expectNumber(t *testing.T, what string, got, code, want int64) {
	t.Helper()
	if got != want || code != impl.ErrNone {
		t.Errorf("%s = %d, code %d, want %d", what, got, code, want)
	}
}

func expectList(t *testing.T, what string, got []int64, code int64, want ...int64) {
	t.Helper()
	if !slices.Equal(got, want) || code != impl.ErrNone {
		t.Errorf("%s = %v, code %d, want %v", what, got, code, want)
	}
}

func TestErrorCodesAndLimit(t *testing.T) {
	codes := []int64{impl.ErrNone, impl.ErrInvalid, impl.ErrRange, impl.ErrLimit, impl.ErrNotFound, impl.ErrState, impl.ErrSyntax}
	expectList(t, "codes", codes, impl.ErrNone, 0, 1, 2, 3, 4, 5, 6)
	if impl.MaxBits != 30 {
		t.Errorf("MaxBits = %d", impl.MaxBits)
	}
}

func TestIsMask(t *testing.T) {
	for n := int64(0); n <= impl.MaxBits; n++ {
		last := int64(1)<<n - 1
		for _, mask := range []int64{0, last / 2, last} {
			if !impl.IsMask(n, mask) {
				t.Errorf("IsMask(%d, %d) is false", n, mask)
			}
		}
		for _, mask := range []int64{-1, last + 1, math.MinInt64, math.MaxInt64, 1 << 32, 1 << 62} {
			if impl.IsMask(n, mask) {
				t.Errorf("IsMask(%d, %d) is true", n, mask)
			}
		}
	}
	for _, n := range []int64{-1, 31, 63, 64, 65, math.MinInt64, math.MaxInt64} {
		for _, mask := range []int64{-1, 0, 1} {
			if impl.IsMask(n, mask) {
				t.Errorf("IsMask(%d, %d) is true", n, mask)
			}
		}
	}
}

func TestMaskOf(t *testing.T) {
	cases := []struct {
		n    int64
		list []int64
		want int64
	}{
		{4, []int64{3, 0, 3}, 9},
		{0, nil, 0},
		{0, []int64{}, 0},
		{30, nil, 0},
		{1, []int64{0, 0, 0}, 1},
		{5, []int64{4, 3, 2, 1, 0}, 31},
		{30, []int64{29}, 1 << 29},
		{30, []int64{29, 0, 29, 0}, 1<<29 + 1},
	}
	for _, c := range cases {
		got, code := impl.MaskOf(c.n, c.list)
		expectNumber(t, "MaskOf", got, code, c.want)
	}
	// A list of a set may be longer than n.
	got, code := impl.MaskOf(2, make([]int64, 100))
	expectNumber(t, "MaskOf of a long list", got, code, 1)
}

func TestMembersOf(t *testing.T) {
	cases := []struct {
		n, mask int64
		want    []int64
	}{
		{4, 9, []int64{0, 3}},
		{0, 0, nil},
		{30, 0, nil},
		{3, 7, []int64{0, 1, 2}},
		{30, 1 << 29, []int64{29}},
		{30, 1<<29 + 2, []int64{1, 29}},
	}
	for _, c := range cases {
		got, code := impl.MembersOf(c.n, c.mask)
		expectList(t, "MembersOf", got, code, c.want...)
	}
	all, code := impl.MembersOf(impl.MaxBits, allThirty)
	want := []int64{}
	for i := int64(0); i < impl.MaxBits; i++ {
		want = append(want, i)
	}
	expectList(t, "MembersOf of all", all, code, want...)
}

// The first half of P1: going to the list and back gives the mask, going to the mask and back
// gives the list, and the count is the length.
func TestMasksAndListsDetermineEachOther(t *testing.T) {
	check := func(n, mask int64) {
		t.Helper()
		list, code := impl.MembersOf(n, mask)
		if code != impl.ErrNone {
			t.Fatalf("MembersOf(%d, %d): code %d", n, mask, code)
		}
		for i := int64(0); i < n; i++ {
			if slices.Contains(list, i) != (mask&(1<<i) != 0) {
				t.Fatalf("MembersOf(%d, %d) = %v is wrong about %d", n, mask, list, i)
			}
		}
		for i := 1; i < len(list); i++ {
			if list[i-1] >= list[i] {
				t.Fatalf("MembersOf(%d, %d) = %v does not ascend", n, mask, list)
			}
		}
		back, code := impl.MaskOf(n, list)
		expectNumber(t, "MaskOf of the members", back, code, mask)
		slices.Reverse(list)
		back, code = impl.MaskOf(n, append(list, list...))
		expectNumber(t, "MaskOf of the members in disorder", back, code, mask)
		count, code := impl.CountMembers(n, mask)
		expectNumber(t, "CountMembers", count, code, int64(len(list)))
	}
	for n := int64(0); n <= 10; n++ {
		for mask := range int64(1) << n {
			check(n, mask)
		}
	}
	seed := uint64(7)
	for range 500 {
		check(impl.MaxBits, nextNumber(&seed)&allThirty)
	}
	check(impl.MaxBits, allThirty)
}

func TestCountMembers(t *testing.T) {
	for _, c := range [][3]int64{{4, 9, 2}, {0, 0, 0}, {30, 0, 0}, {30, allThirty, 30}, {8, 255, 8}, {30, 1 << 29, 1}} {
		got, code := impl.CountMembers(c[0], c[1])
		expectNumber(t, "CountMembers", got, code, c[2])
	}
}

func TestSubMasks(t *testing.T) {
	got, code := impl.SubMasks(4, 9)
	expectList(t, "SubMasks", got, code, 0, 1, 8, 9)
	got, code = impl.SubMasks(0, 0)
	expectList(t, "SubMasks of no elements", got, code, 0)
	got, code = impl.SubMasks(30, 1<<29+1)
	expectList(t, "SubMasks of first and last", got, code, 0, 1, 1<<29, 1<<29+1)
	for mask := range int64(1) << 10 {
		if bits.OnesCount64(uint64(mask)) > 8 {
			continue
		}
		want := []int64{}
		for sub := range mask + 1 {
			if sub&^mask == 0 {
				want = append(want, sub)
			}
		}
		got, code := impl.SubMasks(10, mask)
		expectList(t, "SubMasks", got, code, want...)
	}
}

func TestSubMasksLimit(t *testing.T) {
	eight := []int64{255, 0b101010101010101, 255 << 22}
	for _, mask := range eight {
		got, code := impl.SubMasks(30, mask)
		if len(got) != 256 || code != impl.ErrNone || got[255] != mask || !slices.IsSorted(got) {
			t.Errorf("SubMasks of the eight members of %d = %v, code %d", mask, got, code)
		}
	}
	for _, mask := range []int64{511, 511 << 21, 255 + 1<<29, allThirty} {
		got, code := impl.SubMasks(30, mask)
		if len(got) != 0 || code != impl.ErrLimit {
			t.Errorf("SubMasks(30, %d) = %v, code %d", mask, got, code)
		}
	}
}

func TestChooseMasks(t *testing.T) {
	got, code := impl.ChooseMasks(3, 2)
	expectList(t, "ChooseMasks", got, code, 3, 5, 6)
	got, code = impl.ChooseMasks(0, 0)
	expectList(t, "ChooseMasks of no elements", got, code, 0)
	got, code = impl.ChooseMasks(12, 12)
	expectList(t, "ChooseMasks of all elements", got, code, 4095)
	for n := range int64(13) {
		for k := range n + 1 {
			want := []int64{}
			for mask := range int64(1) << n {
				if int64(bits.OnesCount64(uint64(mask))) == k {
					want = append(want, mask)
				}
			}
			got, code := impl.ChooseMasks(n, k)
			expectList(t, "ChooseMasks", got, code, want...)
		}
	}
}

func TestChooseMasksRange(t *testing.T) {
	pairs := [][2]int64{
		{13, 0}, {13, 1}, {13, 13}, {30, 2}, {31, 0}, {-1, 0}, {-1, -1}, {3, -1}, {3, 4}, {0, 1}, {12, 13},
		{math.MinInt64, 0}, {math.MaxInt64, 0}, {5, math.MinInt64}, {5, math.MaxInt64},
	}
	for _, p := range pairs {
		if got, code := impl.ChooseMasks(p[0], p[1]); len(got) != 0 || code != impl.ErrRange {
			t.Errorf("ChooseMasks(%d, %d) = %v, code %d", p[0], p[1], got, code)
		}
	}
}

func TestImageAndBoxExamples(t *testing.T) {
	r := []int64{2, 4, 0}
	image, code := impl.ImageMask(r, 3)
	expectNumber(t, "ImageMask", image, code, 6)
	box, code := impl.BoxMask(r, 2)
	expectNumber(t, "BoxMask", box, code, 5)
	image, code = impl.ImageMask(nil, 0)
	expectNumber(t, "ImageMask of no elements", image, code, 0)
	box, code = impl.BoxMask(nil, 0)
	expectNumber(t, "BoxMask of no elements", box, code, 0)
	// An element that is related to nothing is in every box.
	box, code = impl.BoxMask([]int64{0, 3}, 0)
	expectNumber(t, "BoxMask of the empty mask", box, code, 1)
}

func TestImageAndBoxByTheirDefinitions(t *testing.T) {
	seed := uint64(11)
	for _, r := range sampleRelations() {
		all := int64(1)<<len(r) - 1
		for _, mask := range []int64{0, all, nextNumber(&seed) & all, nextNumber(&seed) & all} {
			wantImage, wantBox := int64(0), all
			for i := range r {
				for j := range r {
					if mask&(1<<i) != 0 && relates(r, i, j) {
						wantImage |= 1 << j
					}
					if relates(r, i, j) && mask&(1<<j) == 0 {
						wantBox &^= 1 << i
					}
				}
			}
			image, code := impl.ImageMask(r, mask)
			expectNumber(t, "ImageMask", image, code, wantImage)
			box, code := impl.BoxMask(r, mask)
			expectNumber(t, "BoxMask", box, code, wantBox)
		}
	}
}

func TestComposeRelations(t *testing.T) {
	r := []int64{2, 4, 0}
	got, code := impl.ComposeRelations(r, r)
	expectList(t, "ComposeRelations", got, code, 4, 0, 0)
	got, code = impl.ComposeRelations(nil, []int64{})
	expectList(t, "ComposeRelations of no elements", got, code)
	// The order matters: 0 to 1 by a and 1 to 2 by b, but nothing the other way round.
	a, b := []int64{2, 0, 0}, []int64{0, 4, 0}
	got, code = impl.ComposeRelations(a, b)
	expectList(t, "ComposeRelations(a, b)", got, code, 4, 0, 0)
	got, code = impl.ComposeRelations(b, a)
	expectList(t, "ComposeRelations(b, a)", got, code, 0, 0, 0)
	samples := sampleRelations()
	for x, a := range samples {
		for _, b := range samples[x:min(x+6, len(samples))] {
			if len(a) != len(b) {
				continue
			}
			want := relationWhere(len(a), func(i, k int) bool {
				for j := range a {
					if relates(a, i, j) && relates(b, j, k) {
						return true
					}
				}
				return false
			})
			got, code := impl.ComposeRelations(a, b)
			expectList(t, "ComposeRelations", got, code, want...)
		}
	}
}

func TestInverseRelation(t *testing.T) {
	got, code := impl.InverseRelation([]int64{2, 4, 0})
	expectList(t, "InverseRelation", got, code, 0, 1, 2)
	got, code = impl.InverseRelation(nil)
	expectList(t, "InverseRelation of no elements", got, code)
	for _, r := range slices.Concat(sampleRelations(), allRelations(3)) {
		want := relationWhere(len(r), func(i, j int) bool { return relates(r, j, i) })
		got, code := impl.InverseRelation(r)
		expectList(t, "InverseRelation", got, code, want...)
		back, code := impl.InverseRelation(got)
		expectList(t, "InverseRelation of the inverse", back, code, r...)
	}
}

func TestClosureExamples(t *testing.T) {
	got, code := impl.TransitiveClosure([]int64{2, 4, 0})
	expectList(t, "TransitiveClosure", got, code, 6, 4, 0)
	got, code = impl.ReflexiveClosure([]int64{2, 4, 0})
	expectList(t, "ReflexiveClosure", got, code, 3, 6, 4)
	got, code = impl.TransitiveClosure(nil)
	expectList(t, "TransitiveClosure of no elements", got, code)
	got, code = impl.ReflexiveClosure(nil)
	expectList(t, "ReflexiveClosure of no elements", got, code)
	// Two elements on a cycle are related to themselves by it.
	got, code = impl.TransitiveClosure([]int64{2, 1})
	expectList(t, "TransitiveClosure of a cycle", got, code, 3, 3)
}

// The second half of P1, by all relations on few elements: the closure has the property,
// contains the relation, and is contained in each such relation.
func TestClosuresAreLeast(t *testing.T) {
	for n := 0; n <= 3; n++ {
		relations := allRelations(n)
		for _, r := range relations {
			transitive, code := impl.TransitiveClosure(r)
			if code != impl.ErrNone || !isTransitive(transitive) || !contains(transitive, r) {
				t.Fatalf("TransitiveClosure(%v) = %v, code %d", r, transitive, code)
			}
			reflexive, code := impl.ReflexiveClosure(r)
			if code != impl.ErrNone || !isReflexive(reflexive) || !contains(reflexive, r) {
				t.Fatalf("ReflexiveClosure(%v) = %v, code %d", r, reflexive, code)
			}
			for _, other := range relations {
				if !contains(other, r) {
					continue
				}
				if isTransitive(other) && !contains(other, transitive) {
					t.Fatalf("TransitiveClosure(%v) = %v, but %v is less", r, transitive, other)
				}
				if isReflexive(other) && !contains(other, reflexive) {
					t.Fatalf("ReflexiveClosure(%v) = %v, but %v is less", r, reflexive, other)
				}
			}
		}
	}
}

// On more elements: the closure relates exactly what steps of the relation lead to.
func TestClosuresByTheirSteps(t *testing.T) {
	for _, r := range sampleRelations() {
		want := make([]int64, len(r))
		for i := range r {
			for reached := r[i]; reached != want[i]; {
				want[i] = reached
				for j := range r {
					if want[i]&(1<<j) != 0 {
						reached |= r[j]
					}
				}
			}
		}
		got, code := impl.TransitiveClosure(r)
		expectList(t, "TransitiveClosure", got, code, want...)
		again, code := impl.TransitiveClosure(got)
		expectList(t, "TransitiveClosure of the closure", again, code, got...)
		wantReflexive := relationWhere(len(r), func(i, j int) bool { return i == j || relates(r, i, j) })
		reflexive, code := impl.ReflexiveClosure(r)
		expectList(t, "ReflexiveClosure", reflexive, code, wantReflexive...)
	}
}

// maskCalls calls all functions of a number of elements and a mask, and returns what each call
// has beside its code, as a list, and its code.
func maskCalls(n, mask int64) (map[string][]int64, map[string]int64) {
	results, codes := map[string][]int64{}, map[string]int64{}
	results["MembersOf"], codes["MembersOf"] = impl.MembersOf(n, mask)
	results["SubMasks"], codes["SubMasks"] = impl.SubMasks(n, mask)
	count, code := impl.CountMembers(n, mask)
	results["CountMembers"], codes["CountMembers"] = []int64{count}, code
	return results, codes
}

func expectMaskError(t *testing.T, n, mask, want int64) {
	t.Helper()
	results, codes := maskCalls(n, mask)
	for name, code := range codes {
		if code != want || slices.ContainsFunc(results[name], isNotZero) || name != "CountMembers" && len(results[name]) > 0 {
			t.Errorf("%s(%d, %d) = %v, code %d, want code %d", name, n, mask, results[name], code, want)
		}
	}
}

func isNotZero(x int64) bool { return x != 0 }

func TestMaskErrors(t *testing.T) {
	for _, n := range []int64{-1, 31, 64, math.MinInt64, math.MaxInt64} {
		// A size out of range comes before a wrong mask and before too many members.
		for _, mask := range []int64{0, 1, -1, 511, math.MinInt64, math.MaxInt64} {
			expectMaskError(t, n, mask, impl.ErrRange)
		}
		for _, list := range [][]int64{nil, {0}, {-1}, {31}} {
			if got, code := impl.MaskOf(n, list); got != 0 || code != impl.ErrRange {
				t.Errorf("MaskOf(%d, %v) = %d, code %d", n, list, got, code)
			}
		}
	}
	for n := int64(0); n <= impl.MaxBits; n++ {
		// A wrong mask comes before too many members.
		for _, mask := range []int64{-1, 1 << n, 1<<31 - 1, 1 << 40, math.MinInt64, math.MaxInt64} {
			expectMaskError(t, n, mask, impl.ErrInvalid)
		}
		for _, list := range [][]int64{{-1}, {n}, {math.MinInt64}, {math.MaxInt64}, {n + 64}} {
			if got, code := impl.MaskOf(n, list); got != 0 || code != impl.ErrInvalid {
				t.Errorf("MaskOf(%d, %v) = %d, code %d", n, list, got, code)
			}
		}
	}
	if got, code := impl.MaskOf(3, []int64{0, 1, 2, 3}); got != 0 || code != impl.ErrInvalid {
		t.Errorf("MaskOf of a list that goes wrong at its end = %d, code %d", got, code)
	}
}

// relationCalls calls all functions of one relation, and returns the sizes of what they return
// beside their codes (0 if it is the zero value), and their codes.
func relationCalls(r []int64) (map[string]int64, map[string]int64) {
	results, codes := map[string]int64{}, map[string]int64{}
	results["ImageMask"], codes["ImageMask"] = impl.ImageMask(r, 0)
	results["BoxMask"], codes["BoxMask"] = impl.BoxMask(r, 0)
	lists := map[string]func([]int64) ([]int64, int64){
		"InverseRelation":   impl.InverseRelation,
		"TransitiveClosure": impl.TransitiveClosure,
		"ReflexiveClosure":  impl.ReflexiveClosure,
		"ComposeRelations":  func(r []int64) ([]int64, int64) { return impl.ComposeRelations(r, r) },
	}
	for name, call := range lists {
		list, code := call(r)
		results[name], codes[name] = int64(len(list)), code
	}
	return results, codes
}

func expectRelationError(t *testing.T, r []int64, want int64) {
	t.Helper()
	results, codes := relationCalls(r)
	for name, code := range codes {
		if code != want || results[name] != 0 {
			t.Errorf("%s of %v: result %d, code %d, want code %d", name, r, results[name], code, want)
		}
	}
}

func TestRelationErrors(t *testing.T) {
	for _, r := range [][]int64{{2}, {-1}, {0, 4}, {4, 0}, {3, -4}, {0, 0, math.MinInt64}, {math.MaxInt64, 0}} {
		expectRelationError(t, r, impl.ErrInvalid)
	}
	last := make([]int64, impl.MaxBits)
	last[29] = allThirty + 1
	expectRelationError(t, last, impl.ErrInvalid)
	for _, length := range []int{31, 64, 1000} {
		r := make([]int64, length)
		expectRelationError(t, r, impl.ErrRange)
		r[0] = -1
		expectRelationError(t, r, impl.ErrRange)
	}
}

func TestImageAndBoxErrors(t *testing.T) {
	cases := []struct {
		r          []int64
		mask, want int64
	}{
		{nil, 1, impl.ErrInvalid},
		{nil, -1, impl.ErrInvalid},
		{[]int64{2, 4, 0}, 8, impl.ErrInvalid},
		{[]int64{2, 4, 0}, -1, impl.ErrInvalid},
		{[]int64{2, 4, 0}, math.MaxInt64, impl.ErrInvalid},
		{[]int64{2, 8, 0}, 3, impl.ErrInvalid},
		{[]int64{-1}, 9, impl.ErrInvalid},
		{make([]int64, 30), 1 << 30, impl.ErrInvalid},
		{make([]int64, 31), 1, impl.ErrRange},
		{make([]int64, 31), -1, impl.ErrRange},
	}
	for _, c := range cases {
		if got, code := impl.ImageMask(c.r, c.mask); got != 0 || code != c.want {
			t.Errorf("ImageMask(%v, %d) = %d, code %d, want code %d", c.r, c.mask, got, code, c.want)
		}
		if got, code := impl.BoxMask(c.r, c.mask); got != 0 || code != c.want {
			t.Errorf("BoxMask(%v, %d) = %d, code %d, want code %d", c.r, c.mask, got, code, c.want)
		}
	}
}

func TestComposeErrors(t *testing.T) {
	tooLong := make([]int64, 31)
	cases := []struct {
		a, b []int64
		want int64
	}{
		{[]int64{2, 4, 0}, []int64{0}, impl.ErrInvalid},
		{nil, []int64{0}, impl.ErrInvalid},
		{[]int64{0}, nil, impl.ErrInvalid},
		{make([]int64, 30), make([]int64, 29), impl.ErrInvalid},
		{[]int64{0, 0}, []int64{0, 4}, impl.ErrInvalid},
		{[]int64{-1, 0}, []int64{0, 0}, impl.ErrInvalid},
		// A length out of range comes first, on whichever side it is.
		{[]int64{-1}, tooLong, impl.ErrRange},
		{tooLong, []int64{-1}, impl.ErrRange},
		{[]int64{0}, tooLong, impl.ErrRange},
		{tooLong, nil, impl.ErrRange},
	}
	for _, c := range cases {
		if got, code := impl.ComposeRelations(c.a, c.b); len(got) != 0 || code != c.want {
			t.Errorf("ComposeRelations(%v, %v) = %v, code %d, want code %d", c.a, c.b, got, code, c.want)
		}
	}
}

// No function changes an argument or the capacity behind it, and no result shares memory with
// an argument, not even where the two are equal.
func TestRelationsAreNeitherChangedNorShared(t *testing.T) {
	store := []int64{7, 6, 4, -5, -6, -7}
	before := slices.Clone(store)
	r := store[:3]
	closed := map[string]func([]int64) ([]int64, int64){
		"TransitiveClosure": impl.TransitiveClosure,
		"ReflexiveClosure":  impl.ReflexiveClosure,
		"InverseRelation":   impl.InverseRelation,
		"ComposeRelations":  func(r []int64) ([]int64, int64) { return impl.ComposeRelations(r, r) },
	}
	for name, call := range closed {
		got, code := call(r)
		if code != impl.ErrNone || len(got) != 3 {
			t.Fatalf("%s(%v) = %v, code %d", name, r, got, code)
		}
		for i := range got {
			got[i] = -1
		}
		if !slices.Equal(store, before) {
			t.Fatalf("%s shares memory with its argument or changes it: %v", name, store)
		}
	}
	impl.ImageMask(r, 7)
	impl.BoxMask(r, 7)
	impl.MaskOf(8, r)
	if !slices.Equal(store, before) {
		t.Errorf("an argument was changed: %v", store)
	}
	changing := []int64{2, 4, 0}
	impl.TransitiveClosure(changing)
	impl.ReflexiveClosure(changing)
	impl.InverseRelation(changing)
	impl.ComposeRelations(changing, changing)
	if !slices.Equal(changing, []int64{2, 4, 0}) {
		t.Errorf("a relation that is not closed was changed: %v", changing)
	}
}
