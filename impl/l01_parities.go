package impl

import (
	"maps"
	"math"
	"math/bits"
	"slices"
)

// Constants of chapter 1.
const (
	ErrNone     = 0
	ErrInvalid  = 1
	ErrRange    = 2
	ErrLimit    = 3
	ErrNotFound = 4
	ErrState    = 5
	ErrSyntax   = 6
	MaxDegree   = 40
	MaxNumber   = 1000000000000
)

// A parity is a remainder by 2, so the names are counted from 0.
const (
	evenParity int64 = iota
	oddParity
)

// Limits that chapter 1 states without a name.
const (
	maxExponents   = 10
	maxClasses     = 20
	maxCounted     = 300
	maxSpikeDegree = 1000000
	maxListedTerms = 2000
	maxTermLength  = 20
)

// BinomialParity returns the remainder by 2 of the number of ways to choose k of n things, for n
// and k in 0..MaxNumber, which is 0 if k is greater than n, and ErrNone.
func BinomialParity(n int64, k int64) (int64, int64) {
	if !isNumber(n) || !isNumber(k) {
		return 0, ErrRange
	}
	// Lucas: the number is odd exactly if every digit of k is at most that of n.
	if k&^n != 0 {
		return evenParity, ErrNone
	}
	return oddParity, ErrNone
}

// MultinomialParity returns the remainder by 2 of the number of ways to divide things into classes
// with the numbers of a list of at most 20 integers in 0..MaxNumber, and ErrNone. Errors: ErrRange
// also if the list is longer.
func MultinomialParity(list []int64) (int64, int64) {
	if len(list) > maxClasses || !areNumbers(list) {
		return 0, ErrRange
	}
	// Kummer: the number is odd exactly if the classes are added without a carry.
	taken := int64(0)
	for _, n := range list {
		if taken&n != 0 {
			return evenParity, ErrNone
		}
		taken |= n
	}
	return oddParity, ErrNone
}

// OnesIn returns how many binary digits of n, in 0..MaxNumber, are 1, and ErrNone.
func OnesIn(n int64) (int64, int64) {
	if !isNumber(n) {
		return 0, ErrRange
	}
	return countOnes(n), ErrNone
}

// DigitsOf returns, in ascending order, all i for which the binary digit of n at 2^i is 1, for n
// in 0..MaxNumber, and ErrNone.
func DigitsOf(n int64) ([]int64, int64) {
	if !isNumber(n) {
		return nil, ErrRange
	}
	var digits []int64
	for i := int64(0); n>>i != 0; i++ {
		if n>>i&1 == oddParity {
			digits = append(digits, i)
		}
	}
	return digits, ErrNone
}

// DegreeOf returns the degree of an exponent list, and ErrNone. Errors: ErrLimit if it is greater
// than MaxNumber.
func DegreeOf(r []int64) (int64, int64) {
	if !isExponentList(r) {
		return 0, ErrInvalid
	}
	// Ten exponents of at most MaxNumber stay far below the end of int64.
	degree := int64(0)
	for i, n := range r {
		degree += n * spikeNumber(i+1)
	}
	if degree > MaxNumber {
		return 0, ErrLimit
	}
	return degree, ErrNone
}

// PartitionsOf returns all exponent lists of degree d, in 0..MaxDegree, in lexicographic order,
// and ErrNone.
func PartitionsOf(d int64) ([][]int64, int64) {
	if d < 0 || d > MaxDegree {
		return nil, ErrRange
	}
	return appendPartitions(nil, nil, d), ErrNone
}

// CountPartitions returns the number of exponent lists of degree d, in 0..300, and ErrNone.
func CountPartitions(d int64) (int64, int64) {
	if d < 0 || d > maxCounted {
		return 0, ErrRange
	}
	counts := make([]int64, d+1)
	counts[0] = 1
	for i := 1; spikeNumber(i) <= d; i++ {
		part := spikeNumber(i)
		for n := part; n <= d; n++ {
			counts[n] += counts[n-part]
		}
	}
	return counts[d], ErrNone
}

// LeastSpike returns the least length of a spike list for d, in 0..1000000, and ErrNone: this is
// the least s for which d + s has at most s binary digits that are 1.
func LeastSpike(d int64) (int64, int64) {
	if d < 0 || d > maxSpikeDegree {
		return 0, ErrRange
	}
	length := int64(0)
	for countOnes(d+length) > length {
		length++
	}
	return length, ErrNone
}

// SpikesOf returns all spike lists for d, in 0..MaxDegree, that are in descending order (equal
// integers may follow each other), in lexicographic order, and ErrNone.
func SpikesOf(d int64) ([][]int64, int64) {
	if d < 0 || d > MaxDegree {
		return nil, ErrRange
	}
	return appendSpikes(nil, nil, d), ErrNone
}

// IsTermList reports whether a list of at most 2000 lists of at most 20 integers each is a term
// list; it reports false for longer ones.
func IsTermList(list [][]int64) bool {
	if len(list) > maxListedTerms {
		return false
	}
	for i, term := range list {
		if len(term) > maxTermLength {
			return false
		}
		if i > 0 && slices.Compare(list[i-1], term) >= 0 {
			return false
		}
	}
	return true
}

// SumOfTermLists returns the sum of two term lists (in the sense of IsTermList), and ErrNone.
// Errors: ErrLimit if it has more than 2000 lists.
func SumOfTermLists(a [][]int64, b [][]int64) ([][]int64, int64) {
	if !IsTermList(a) || !IsTermList(b) {
		return nil, ErrInvalid
	}
	sum := sumOfTerms(a, b)
	if len(sum) > maxListedTerms {
		return nil, ErrLimit
	}
	return sum, ErrNone
}

func isNumber(n int64) bool {
	return n >= 0 && n <= MaxNumber
}

func areNumbers(list []int64) bool {
	for _, n := range list {
		if !isNumber(n) {
			return false
		}
	}
	return true
}

func isExponentList(r []int64) bool {
	if len(r) > maxExponents || !areNumbers(r) {
		return false
	}
	return len(r) == 0 || r[len(r)-1] != 0
}

func countOnes(n int64) int64 {
	return int64(bits.OnesCount64(uint64(n)))
}

// spikeNumber returns 2^i - 1.
func spikeNumber(i int) int64 {
	return int64(1)<<i - 1
}

// appendPartitions appends to found all exponent lists of which the exponents before are a
// beginning, and whose others have the degree d.
func appendPartitions(found [][]int64, before []int64, d int64) [][]int64 {
	if d == 0 {
		return append(found, slices.Clone(before))
	}
	part := spikeNumber(len(before) + 1)
	for n := int64(0); part <= d && n*part <= d; n++ {
		found = appendPartitions(found, append(before, n), d-n*part)
	}
	return found
}

// appendSpikes appends to found all descending spike lists of which the spikes before are a
// beginning, and whose others have the sum d.
func appendSpikes(found [][]int64, before []int64, d int64) [][]int64 {
	if d == 0 {
		return append(found, slices.Clone(before))
	}
	most := d
	if len(before) > 0 {
		most = min(d, before[len(before)-1])
	}
	for i := 1; spikeNumber(i) <= most; i++ {
		found = appendSpikes(found, append(before, spikeNumber(i)), d-spikeNumber(i))
	}
	return found
}

// sumOfTerms returns the lists that occur an odd number of times in both, in ascending order.
func sumOfTerms(a, b [][]int64) [][]int64 {
	packedA, wideA := keysOfTerms(a)
	packedB, wideB := keysOfTerms(b)
	var sum [][]int64
	for _, key := range sumOfLists(packedA, packedB) {
		sum = append(sum, key.term())
	}
	for _, key := range sumOfLists(wideA, wideB) {
		sum = append(sum, key.term())
	}
	slices.SortFunc(sum, slices.Compare)
	return sum
}

// sumOfLists returns, in no particular order, what occurs an odd number of times in both lists.
func sumOfLists[K comparable](a, b []K) []K {
	odd := make(map[K]bool)
	for _, list := range [][]K{a, b} {
		for _, key := range list {
			if odd[key] {
				delete(odd, key)
			} else {
				odd[key] = true
			}
		}
	}
	return slices.Collect(maps.Keys(odd))
}

// packedTerm holds a term of at most eight small integers. Each byte is greater by one than its
// integer, because the byte 0 tells that the term has ended: {1} and {1, 0} are different terms.
type packedTerm [8]byte

const maxPackedNumber = math.MaxUint8 - 1

// wideTerm holds any term of a term list: it is for those that do not fit into a packedTerm.
type wideTerm struct {
	length  int
	numbers [maxTermLength]int64
}

// keysOfTerms divides terms by the kind of key that holds them. Equal terms have keys of one kind.
func keysOfTerms(terms [][]int64) ([]packedTerm, []wideTerm) {
	var packed []packedTerm
	var wide []wideTerm
	for _, term := range terms {
		if fitsPacked(term) {
			packed = append(packed, packTerm(term))
		} else {
			wide = append(wide, widenTerm(term))
		}
	}
	return packed, wide
}

func fitsPacked(term []int64) bool {
	if len(term) > len(packedTerm{}) {
		return false
	}
	for _, n := range term {
		if n < 0 || n > maxPackedNumber {
			return false
		}
	}
	return true
}

func packTerm(term []int64) packedTerm {
	var key packedTerm
	for i, n := range term {
		key[i] = byte(n + 1)
	}
	return key
}

func widenTerm(term []int64) wideTerm {
	key := wideTerm{length: len(term)}
	copy(key.numbers[:], term)
	return key
}

func (key packedTerm) term() []int64 {
	var term []int64
	for _, b := range key {
		if b == 0 {
			break
		}
		term = append(term, int64(b)-1)
	}
	return term
}

func (key wideTerm) term() []int64 {
	return slices.Clone(key.numbers[:key.length])
}
