package impl

import "math/bits"

const (
	ErrNone = iota
	ErrInvalid
	ErrRange
	ErrLimit
	ErrNotFound
	ErrState
	ErrSyntax

	MaxBits = 30
)

const (
	maxSubMaskMembers = 8
	maxChooseBits     = 12
)

// binaryRelation has at each element the mask of the elements to which it is related. Its
// methods, check excepted, take for granted that check found nothing wrong.
type binaryRelation []int64

// check returns the error of r that comes first, or ErrNone.
func (r binaryRelation) check() int64 {
	if len(r) > MaxBits {
		return ErrRange
	}
	for _, mask := range r {
		if !isMaskWithin(int64(len(r)), mask) {
			return ErrInvalid
		}
	}
	return ErrNone
}

// image returns the elements to which a member of mask is related.
func (r binaryRelation) image(mask int64) int64 {
	var image int64
	for i, related := range r {
		if hasMember(mask, i) {
			image |= related
		}
	}
	return image
}

// preimage returns the elements that are related to a member of mask.
func (r binaryRelation) preimage(mask int64) int64 {
	var preimage int64
	for i, related := range r {
		if related&mask != 0 {
			preimage |= 1 << i
		}
	}
	return preimage
}

// box returns the elements that are related to members of mask only.
func (r binaryRelation) box(mask int64) int64 {
	var box int64
	for i, related := range r {
		if related&^mask == 0 {
			box |= 1 << i
		}
	}
	return box
}

// then returns the relation that goes one step by r and one step by next, which has as many
// elements.
func (r binaryRelation) then(next binaryRelation) binaryRelation {
	composed := make(binaryRelation, len(r))
	for i, related := range r {
		composed[i] = next.image(related)
	}
	return composed
}

func (r binaryRelation) inverse() binaryRelation { return inverseOf(r, int64(len(r))) }

func (r binaryRelation) transitive() binaryRelation {
	closure := make(binaryRelation, len(r))
	copy(closure, r)
	// Warshall's order: when the turn of via is over, all ways whose inner elements are at most
	// via have become pairs.
	for via := range closure {
		for i := range closure {
			if hasMember(closure[i], via) {
				closure[i] |= closure[via]
			}
		}
	}
	return closure
}

func (r binaryRelation) reflexive() binaryRelation {
	closure := make(binaryRelation, len(r))
	for i, related := range r {
		closure[i] = related | 1<<i
	}
	return closure
}

// union returns the relation of all pairs of r or other, which has as many elements.
func (r binaryRelation) union(other binaryRelation) binaryRelation {
	union := make(binaryRelation, len(r))
	for i, related := range r {
		union[i] = related | other[i]
	}
	return union
}

// common returns the relation of all pairs of both r and other, which has as many elements.
func (r binaryRelation) common(other binaryRelation) binaryRelation {
	common := make(binaryRelation, len(r))
	for i, related := range r {
		common[i] = related & other[i]
	}
	return common
}

// isWithin tells whether other, which has as many elements, has all pairs of r.
func (r binaryRelation) isWithin(other binaryRelation) bool {
	for i, related := range r {
		if related&^other[i] != 0 {
			return false
		}
	}
	return true
}

// inverseOf returns, for each of n elements, the mask of the indices of the masks in a list of which
// it is a member.
func inverseOf(masks []int64, n int64) []int64 {
	inverse := make([]int64, n)
	for i, mask := range masks {
		for j := range inverse {
			if hasMember(mask, j) {
				inverse[j] |= 1 << i
			}
		}
	}
	return inverse
}

func isSize(n int64) bool { return n >= 0 && n <= MaxBits }

// isMaskWithin tells whether mask is a mask of n elements, where n is in 0..MaxBits.
func isMaskWithin(n int64, mask int64) bool { return mask >= 0 && mask < 1<<n }

func hasMember(mask int64, i int) bool { return mask>>i&1 == 1 }

// leastMember returns the least member of a mask that has one.
func leastMember(mask int64) int { return bits.TrailingZeros64(uint64(mask)) }

func countBits(mask int64) int64 { return int64(bits.OnesCount64(uint64(mask))) }

// checkMask returns the error of a mask of n elements that comes first, or ErrNone.
func checkMask(n int64, mask int64) int64 {
	if !isSize(n) {
		return ErrRange
	}
	if !isMaskWithin(n, mask) {
		return ErrInvalid
	}
	return ErrNone
}

// checkRelationMask returns the error of a relation and a mask of its elements that comes
// first, or ErrNone.
func checkRelationMask(r binaryRelation, mask int64) int64 {
	if code := r.check(); code != ErrNone {
		return code
	}
	return checkMask(int64(len(r)), mask)
}

// checkRelations returns the error of two relations on the same elements that comes first, or
// ErrNone: a length out of range comes before anything that is wrong within the other relation.
func checkRelations(a binaryRelation, b binaryRelation) int64 {
	codeA, codeB := a.check(), b.check()
	if codeA == ErrRange || codeB == ErrRange {
		return ErrRange
	}
	if codeA != ErrNone || codeB != ErrNone || len(a) != len(b) {
		return ErrInvalid
	}
	return ErrNone
}

// IsMask reports whether n is in 0..MaxBits and mask a mask of n elements.
func IsMask(n int64, mask int64) bool { return checkMask(n, mask) == ErrNone }

// MaskOf returns the mask of the set of all numbers of a list, and ErrNone. Errors: ErrInvalid
// also if a number is not in 0..n - 1.
func MaskOf(n int64, list []int64) (int64, int64) {
	if !isSize(n) {
		return 0, ErrRange
	}
	var mask int64
	for _, i := range list {
		if i < 0 || i >= n {
			return 0, ErrInvalid
		}
		mask |= 1 << i
	}
	return mask, ErrNone
}

// MembersOf returns the members of a mask in ascending order, and ErrNone.
func MembersOf(n int64, mask int64) ([]int64, int64) {
	if code := checkMask(n, mask); code != ErrNone {
		return nil, code
	}
	members := make([]int64, 0, countBits(mask))
	for i := range int(n) {
		if hasMember(mask, i) {
			members = append(members, int64(i))
		}
	}
	return members, ErrNone
}

// CountMembers returns the number of members of a mask, and ErrNone.
func CountMembers(n int64, mask int64) (int64, int64) {
	if code := checkMask(n, mask); code != ErrNone {
		return 0, code
	}
	return countBits(mask), ErrNone
}

// SubMasks returns all masks whose members belong to a mask, in ascending order, and ErrNone.
// Errors: ErrLimit if the mask has more than 8 members.
func SubMasks(n int64, mask int64) ([]int64, int64) {
	if code := checkMask(n, mask); code != ErrNone {
		return nil, code
	}
	members := countBits(mask)
	if members > maxSubMaskMembers {
		return nil, ErrLimit
	}
	subMasks := make([]int64, 0, 1<<members)
	for sub := int64(0); ; {
		subMasks = append(subMasks, sub)
		if sub == mask {
			return subMasks, ErrNone
		}
		// The digits outside the mask are 1 while 1 is added, so that a carry passes through
		// them to the next member.
		sub = ((sub | ^mask) + 1) & mask
	}
}

// ChooseMasks returns all masks of n elements with k members, in ascending order, and ErrNone.
// Errors: ErrRange also if n is greater than 12, or k not in 0..n.
func ChooseMasks(n int64, k int64) ([]int64, int64) {
	if n < 0 || n > maxChooseBits || k < 0 || k > n {
		return nil, ErrRange
	}
	var chosen []int64
	for mask := range int64(1) << n {
		if countBits(mask) == k {
			chosen = append(chosen, mask)
		}
	}
	return chosen, ErrNone
}

// ImageMask returns the mask of all elements to which a member of a mask is related, and
// ErrNone; n is the length of relation.
func ImageMask(relation []int64, mask int64) (int64, int64) {
	if code := checkRelationMask(relation, mask); code != ErrNone {
		return 0, code
	}
	return binaryRelation(relation).image(mask), ErrNone
}

// BoxMask returns the mask of all elements i such that all elements to which i is related belong
// to a mask, and ErrNone.
func BoxMask(relation []int64, mask int64) (int64, int64) {
	if code := checkRelationMask(relation, mask); code != ErrNone {
		return 0, code
	}
	return binaryRelation(relation).box(mask), ErrNone
}

// ComposeRelations returns the relation in which i is related to k if a relates i to some j and
// b relates this j to k, and ErrNone. Errors: ErrInvalid also if a and b have different lengths.
func ComposeRelations(a []int64, b []int64) ([]int64, int64) {
	if code := checkRelations(a, b); code != ErrNone {
		return nil, code
	}
	return binaryRelation(a).then(b), ErrNone
}

// InverseRelation returns the relation in which i is related to j if a relates j to i, and
// ErrNone.
func InverseRelation(a []int64) ([]int64, int64) {
	r := binaryRelation(a)
	if code := r.check(); code != ErrNone {
		return nil, code
	}
	return r.inverse(), ErrNone
}

// TransitiveClosure returns the least relation that contains a and relates i to k whenever it
// relates i to some j and j to k; and ErrNone.
func TransitiveClosure(a []int64) ([]int64, int64) {
	r := binaryRelation(a)
	if code := r.check(); code != ErrNone {
		return nil, code
	}
	return r.transitive(), ErrNone
}

// ReflexiveClosure returns the relation a in which each element is related to itself, too, and
// ErrNone.
func ReflexiveClosure(a []int64) ([]int64, int64) {
	r := binaryRelation(a)
	if code := r.check(); code != ErrNone {
		return nil, code
	}
	return r.reflexive(), ErrNone
}
