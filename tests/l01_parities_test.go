package tests

import (
	"fmt"
	"math"
	"slices"
	"testing"

	"loop.example/g01154/impl"
)

func TestConstantsOfChapter1(t *testing.T) {
	codes := []int64{impl.ErrNone, impl.ErrInvalid, impl.ErrRange, impl.ErrLimit, impl.ErrNotFound, impl.ErrState, impl.ErrSyntax}
	if !slices.Equal(codes, []int64{0, 1, 2, 3, 4, 5, 6}) {
		t.Errorf("codes %v", codes)
	}
	if impl.MaxDegree != 40 || impl.MaxNumber != 1000000000000 {
		t.Errorf("limits %d, %d", impl.MaxDegree, int64(impl.MaxNumber))
	}
}

// nextPascalRow returns the row of Pascal's triangle modulo 2 after a row.
func nextPascalRow(row []int64) []int64 {
	next := make([]int64, len(row)+1)
	for i, n := range row {
		next[i] = (next[i] + n) % 2
		next[i+1] = n
	}
	return next
}

func TestBinomialParityIsPascalsTriangle(t *testing.T) {
	row := []int64{1}
	for n := int64(0); n <= 140; n++ {
		for k := int64(0); k <= 150; k++ {
			want := int64(0)
			if k <= n {
				want = row[k]
			}
			got, code := impl.BinomialParity(n, k)
			checkNumber(t, fmt.Sprintf("BinomialParity(%d, %d)", n, k), got, code, want, impl.ErrNone)
		}
		row = nextPascalRow(row)
	}
}

func TestBinomialParitiesAddUpForGreatNumbers(t *testing.T) {
	parity := func(n, k int64) int64 {
		got, code := impl.BinomialParity(n, k)
		if code != impl.ErrNone {
			t.Fatalf("BinomialParity(%d, %d): code %d", n, k, code)
		}
		return got
	}
	odd := 0
	for _, n := range []int64{impl.MaxNumber, impl.MaxNumber - 1, 1 << 39, 1<<39 - 1, 1<<32 + 5, 1<<31 - 1, 987654321987} {
		for _, k := range []int64{1, 2, 3, 64, 4096, 1 << 31, 1 << 32, 1<<32 + 1, n / 2, n/3 + 1, n - 4096, n - 1, n} {
			if k > n {
				continue
			}
			if parity(n, k) != (parity(n-1, k)+parity(n-1, k-1))%2 {
				t.Errorf("parities of %d and %d do not add up", n, k)
			}
			if parity(n, k) != parity(n, n-k) {
				t.Errorf("parities of %d and %d are not symmetric", n, k)
			}
			odd += int(parity(n, k))
		}
	}
	if odd == 0 {
		t.Errorf("no parity of great numbers is odd")
	}
}

func TestBinomialParityEdges(t *testing.T) {
	most := int64(impl.MaxNumber)
	for _, c := range []struct{ n, k, want int64 }{
		{6, 2, 1}, {4, 2, 0}, {0, 0, 1}, {0, 1, 0}, {0, most, 0}, {most, 0, 1}, {most, most, 1}, {most, 1, 0}, {most - 1, most, 0},
	} {
		got, code := impl.BinomialParity(c.n, c.k)
		checkNumber(t, fmt.Sprintf("BinomialParity(%d, %d)", c.n, c.k), got, code, c.want, impl.ErrNone)
	}
	for _, bad := range outside(most) {
		for _, good := range []int64{0, 5, most, bad} {
			got, code := impl.BinomialParity(bad, good)
			checkNumber(t, fmt.Sprintf("BinomialParity(%d, %d)", bad, good), got, code, 0, impl.ErrRange)
			got, code = impl.BinomialParity(good, bad)
			checkNumber(t, fmt.Sprintf("BinomialParity(%d, %d)", good, bad), got, code, 0, impl.ErrRange)
		}
	}
}

// pascalMultinomial is the product of binomial numbers modulo 2, from rows of Pascal's triangle.
func pascalMultinomial(rows [][]int64, list []int64) int64 {
	product, sum := int64(1), int64(0)
	for _, n := range list {
		sum += n
		product *= rows[sum][n]
	}
	return product
}

func TestMultinomialParityIsAProductOfBinomialNumbers(t *testing.T) {
	rows := [][]int64{{1}}
	for len(rows) <= 60 {
		rows = append(rows, nextPascalRow(rows[len(rows)-1]))
	}
	for a := int64(0); a <= 12; a++ {
		for b := int64(0); b <= 12; b++ {
			for c := int64(0); c <= 12; c++ {
				for d := int64(0); d <= 9; d++ {
					list := []int64{a, b, c, d}
					got, code := impl.MultinomialParity(list)
					checkNumber(t, fmt.Sprintf("MultinomialParity(%v)", list), got, code, pascalMultinomial(rows, list), impl.ErrNone)
				}
			}
		}
	}
}

func TestMultinomialParityEdges(t *testing.T) {
	most := int64(impl.MaxNumber)
	powers := make([]int64, 20)
	for i := range powers {
		powers[i] = 1 << (i + 20)
	}
	for _, c := range []struct {
		list []int64
		want int64
	}{
		{nil, 1}, {[]int64{}, 1}, {[]int64{0}, 1}, {[]int64{7}, 1}, {[]int64{most}, 1}, {[]int64{most, 0}, 1},
		{[]int64{1, 2, 4}, 1}, {[]int64{1, 3}, 0}, {[]int64{1, 1}, 0}, {[]int64{1, 2, 1}, 0}, {[]int64{4, 2, 8, 6}, 0},
		{make([]int64, 20), 1}, {powers, 1}, {[]int64{most, most}, 0}, {[]int64{1 << 39, 1 << 38, 1 << 39}, 0}, {[]int64{1 << 39, 1<<39 - 1}, 1},
	} {
		got, code := impl.MultinomialParity(c.list)
		checkNumber(t, fmt.Sprintf("MultinomialParity(%v)", c.list), got, code, c.want, impl.ErrNone)
	}
	got, code := impl.MultinomialParity(make([]int64, 21))
	checkNumber(t, "MultinomialParity of 21 zeros", got, code, 0, impl.ErrRange)
	for _, bad := range outside(most) {
		for _, list := range [][]int64{{bad}, {1, 1, bad}, {bad, 1, 2}, append(make([]int64, 19), bad), append(make([]int64, 20), bad)} {
			got, code := impl.MultinomialParity(list)
			checkNumber(t, fmt.Sprintf("MultinomialParity(%v)", list), got, code, 0, impl.ErrRange)
		}
	}
}

// digitsByDivision returns the places of the digits 1 of n, found by division.
func digitsByDivision(n int64) []int64 {
	var places []int64
	for place := int64(0); n > 0; place++ {
		if n%2 == 1 {
			places = append(places, place)
		}
		n /= 2
	}
	return places
}

func TestOnesInAndDigitsOf(t *testing.T) {
	numbers := []int64{impl.MaxNumber, impl.MaxNumber - 1, 1 << 39, 1<<39 - 1, 1 << 32, 1<<32 - 1, 1<<31 + 1, 123456789012}
	for n := int64(0); n <= 1100; n++ {
		numbers = append(numbers, n)
	}
	for _, n := range numbers {
		want := digitsByDivision(n)
		ones, code := impl.OnesIn(n)
		checkNumber(t, fmt.Sprintf("OnesIn(%d)", n), ones, code, int64(len(want)), impl.ErrNone)
		digits, code := impl.DigitsOf(n)
		if !slices.Equal(digits, want) || code != impl.ErrNone {
			t.Errorf("DigitsOf(%d) = %v, %d; want %v", n, digits, code, want)
		}
	}
	for _, bad := range outside(impl.MaxNumber) {
		ones, code := impl.OnesIn(bad)
		checkNumber(t, fmt.Sprintf("OnesIn(%d)", bad), ones, code, 0, impl.ErrRange)
		if digits, code := impl.DigitsOf(bad); len(digits) != 0 || code != impl.ErrRange {
			t.Errorf("DigitsOf(%d) = %v, %d", bad, digits, code)
		}
	}
}

func TestDegreeOf(t *testing.T) {
	most := int64(impl.MaxNumber)
	for _, c := range []struct {
		list       []int64
		want, code int64
	}{
		{nil, 0, impl.ErrNone}, {[]int64{}, 0, impl.ErrNone}, {[]int64{2, 1}, 5, impl.ErrNone}, {[]int64{0, 0, 1}, 7, impl.ErrNone},
		{[]int64{1, 1, 1, 1, 1, 1, 1, 1, 1, 1}, 2036, impl.ErrNone}, {[]int64{0, 0, 0, 0, 0, 0, 0, 0, 0, 1}, 1023, impl.ErrNone},
		{[]int64{most}, most, impl.ErrNone}, {[]int64{1, 333333333333}, most, impl.ErrNone}, {[]int64{most - 3, 1}, most, impl.ErrNone},
		{[]int64{2, 333333333333}, 0, impl.ErrLimit}, {[]int64{most - 2, 1}, 0, impl.ErrLimit}, {[]int64{0, most}, 0, impl.ErrLimit},
		{slices.Repeat([]int64{most}, 10), 0, impl.ErrLimit},
		{[]int64{0}, 0, impl.ErrInvalid}, {[]int64{2, 0}, 0, impl.ErrInvalid}, {[]int64{0, 0, 0}, 0, impl.ErrInvalid},
		{slices.Repeat([]int64{1}, 11), 0, impl.ErrInvalid}, {slices.Repeat([]int64{most}, 11), 0, impl.ErrInvalid},
		{[]int64{most, most, 0}, 0, impl.ErrInvalid}, {[]int64{most, most, -1}, 0, impl.ErrInvalid}, {[]int64{-1, 1}, 0, impl.ErrInvalid},
	} {
		got, code := impl.DegreeOf(c.list)
		checkNumber(t, fmt.Sprintf("DegreeOf(%v)", c.list), got, code, c.want, c.code)
	}
	for _, bad := range outside(most) {
		for _, list := range [][]int64{{bad}, {bad, 1}, {1, bad}, {most, most, bad, 1}} {
			got, code := impl.DegreeOf(list)
			checkNumber(t, fmt.Sprintf("DegreeOf(%v)", list), got, code, 0, impl.ErrInvalid)
		}
	}
}

// exponentListsByTrial finds the exponent lists of degree d among all tables of five numbers.
func exponentListsByTrial(d int64) [][]int64 {
	var found [][]int64
	for e := int64(0); 31*e <= d; e++ {
		for f := int64(0); 31*e+15*f <= d; f++ {
			for g := int64(0); 31*e+15*f+7*g <= d; g++ {
				for h := int64(0); 31*e+15*f+7*g+3*h <= d; h++ {
					list := []int64{d - 31*e - 15*f - 7*g - 3*h, h, g, f, e}
					for len(list) > 0 && list[len(list)-1] == 0 {
						list = list[:len(list)-1]
					}
					found = append(found, list)
				}
			}
		}
	}
	slices.SortFunc(found, slices.Compare)
	return found
}

func TestPartitionsOf(t *testing.T) {
	for d := int64(0); d <= impl.MaxDegree; d++ {
		got, code := impl.PartitionsOf(d)
		checkLists(t, fmt.Sprintf("PartitionsOf(%d)", d), got, code, exponentListsByTrial(d), impl.ErrNone)
		count, code := impl.CountPartitions(d)
		checkNumber(t, fmt.Sprintf("CountPartitions(%d)", d), count, code, int64(len(got)), impl.ErrNone)
		for _, list := range got {
			degree, code := impl.DegreeOf(list)
			checkNumber(t, fmt.Sprintf("DegreeOf(%v)", list), degree, code, d, impl.ErrNone)
		}
		checkSeparate(t, fmt.Sprintf("PartitionsOf(%d)", d), got)
	}
	got, code := impl.PartitionsOf(0)
	checkLists(t, "PartitionsOf(0)", got, code, [][]int64{{}}, impl.ErrNone)
	got, code = impl.PartitionsOf(7)
	checkLists(t, "PartitionsOf(7)", got, code, [][]int64{{0, 0, 1}, {1, 2}, {4, 1}, {7}}, impl.ErrNone)
	for _, bad := range outside(impl.MaxDegree) {
		got, code := impl.PartitionsOf(bad)
		checkLists(t, fmt.Sprintf("PartitionsOf(%d)", bad), got, code, nil, impl.ErrRange)
	}
}

// partitionsByParts counts the ways to write n as a sum of the first parts of 1, 3, 7, ..
func partitionsByParts(n int64, parts int, known map[[2]int64]int64) int64 {
	if n == 0 {
		return 1
	}
	if n < 0 || parts == 0 {
		return 0
	}
	key := [2]int64{n, int64(parts)}
	if count, ok := known[key]; ok {
		return count
	}
	count := partitionsByParts(n, parts-1, known) + partitionsByParts(n-(1<<parts-1), parts, known)
	known[key] = count
	return count
}

func TestCountPartitions(t *testing.T) {
	known := map[[2]int64]int64{}
	for d := int64(0); d <= 300; d++ {
		got, code := impl.CountPartitions(d)
		checkNumber(t, fmt.Sprintf("CountPartitions(%d)", d), got, code, partitionsByParts(d, 10, known), impl.ErrNone)
	}
	for _, bad := range outside(300) {
		got, code := impl.CountPartitions(bad)
		checkNumber(t, fmt.Sprintf("CountPartitions(%d)", bad), got, code, 0, impl.ErrRange)
	}
}

// leastLengths returns the least lengths of spike lists for 0..last, one spike after another.
func leastLengths(last int64) []int64 {
	least := make([]int64, last+1)
	for d := int64(1); d <= last; d++ {
		least[d] = least[d-1] + 1
		for spike := int64(3); spike <= d; spike = 2*spike + 1 {
			least[d] = min(least[d], least[d-spike]+1)
		}
	}
	return least
}

func TestLeastSpike(t *testing.T) {
	least := leastLengths(1000000)
	for d, want := range least {
		if got, code := impl.LeastSpike(int64(d)); got != want || code != impl.ErrNone {
			t.Fatalf("LeastSpike(%d) = %d, %d; want %d", d, got, code, want)
		}
	}
	for _, bad := range outside(1000000) {
		got, code := impl.LeastSpike(bad)
		checkNumber(t, fmt.Sprintf("LeastSpike(%d)", bad), got, code, 0, impl.ErrRange)
	}
}

// spikesByExponents turns exponent lists of degree d into spike lists: the exponent at a place
// tells how often the spike of that place is there.
func spikesByExponents(d int64) [][]int64 {
	var found [][]int64
	for _, exponents := range exponentListsByTrial(d) {
		var spikes []int64
		for i := len(exponents) - 1; i >= 0; i-- {
			spikes = append(spikes, slices.Repeat([]int64{2<<i - 1}, int(exponents[i]))...)
		}
		found = append(found, spikes)
	}
	slices.SortFunc(found, slices.Compare)
	return found
}

func TestSpikesOf(t *testing.T) {
	for d := int64(0); d <= impl.MaxDegree; d++ {
		got, code := impl.SpikesOf(d)
		checkLists(t, fmt.Sprintf("SpikesOf(%d)", d), got, code, spikesByExponents(d), impl.ErrNone)
		shortest := len(got[0])
		for _, spikes := range got {
			shortest = min(shortest, len(spikes))
		}
		least, code := impl.LeastSpike(d)
		checkNumber(t, fmt.Sprintf("LeastSpike(%d)", d), least, code, int64(shortest), impl.ErrNone)
		checkSeparate(t, fmt.Sprintf("SpikesOf(%d)", d), got)
	}
	got, code := impl.SpikesOf(0)
	checkLists(t, "SpikesOf(0)", got, code, [][]int64{{}}, impl.ErrNone)
	got, code = impl.SpikesOf(7)
	checkLists(t, "SpikesOf(7)", got, code, [][]int64{{1, 1, 1, 1, 1, 1, 1}, {3, 1, 1, 1, 1}, {3, 3, 1}, {7}}, impl.ErrNone)
	for _, bad := range outside(impl.MaxDegree) {
		got, code := impl.SpikesOf(bad)
		checkLists(t, fmt.Sprintf("SpikesOf(%d)", bad), got, code, nil, impl.ErrRange)
	}
}

// countedTerms returns the terms {from}, {from + step}, ..
func countedTerms(count int, from, step int64) [][]int64 {
	terms := make([][]int64, count)
	for i := range terms {
		terms[i] = []int64{from + int64(i)*step}
	}
	return terms
}

func TestIsTermList(t *testing.T) {
	long := slices.Repeat([]int64{1}, 20)
	for _, c := range []struct {
		list [][]int64
		want bool
	}{
		{nil, true}, {[][]int64{}, true}, {[][]int64{nil}, true}, {[][]int64{{}}, true}, {[][]int64{{}, {1}, {1, 2}}, true},
		{[][]int64{{1}, {1, math.MinInt64}}, true}, {[][]int64{{math.MinInt64}, {-1}, {0}, {0, 0}, {math.MaxInt64}}, true},
		{[][]int64{{1, 9}, {2}}, true}, {[][]int64{long}, true}, {[][]int64{long[:19], long}, true}, {[][]int64{{3, 0}}, true},
		{[][]int64{{1}, {1}}, false}, {[][]int64{{}, nil}, false}, {[][]int64{{2}, {1}}, false}, {[][]int64{{1, 2}, {1}}, false},
		{[][]int64{{1}, {}}, false}, {[][]int64{{2}, {1, 9}}, false}, {[][]int64{{1}, {3}, {2}}, false}, {[][]int64{{math.MaxInt64}, {math.MinInt64}}, false},
		{[][]int64{append(long[:20:20], 1)}, false}, {[][]int64{{0}, append(long[:20:20], 1)}, false}, {[][]int64{append(long[:20:20], 1), {2}}, false},
		{countedTerms(2000, -1000, 1), true}, {countedTerms(2001, -1000, 1), false}, {countedTerms(2000, 0, -1), false},
	} {
		if got := impl.IsTermList(c.list); got != c.want {
			t.Errorf("IsTermList(%v) = %v", c.list, got)
		}
	}
}

// sampleTermLists are term lists with small, great and negative integers, with short and long
// terms, and with terms of which one is the beginning of another one.
func sampleTermLists() [][][]int64 {
	long := slices.Repeat([]int64{3}, 20)
	return [][][]int64{
		nil,
		{{}},
		{{1}, {2}},
		{{1}, {3}},
		{{1}, {1, 0}, {1, 0, 0}},
		{{}, {0}, {0, 0}, {1, 0}, {1, 1}},
		{{253}, {254}, {255}, {256}, {257}},
		{{-256}, {-255}, {-2}, {-1}, {0}, {1}, {255}},
		{{math.MinInt64}, {math.MinInt64, math.MaxInt64}, {-1}, {0}, {254}, {math.MaxInt64 - 1}, {math.MaxInt64}},
		{{math.MinInt64}, {-1, 0}, {254}, {256}, {510}, {math.MaxInt64}},
		{long[:7], long[:8], long[:9], long[:19], long[:20]},
		{long[:8], long[:9], append(long[:19:19], 4), append(long[:8:8], 4)},
		{{0, 0, 0, 0, 0, 0, 0}, {0, 0, 0, 0, 0, 0, 0, 0}, {0, 0, 0, 0, 0, 0, 0, 0, 0}, make([]int64, 20)},
		{{1, 300, 2}, {1, 301}, {2, 5}, {4}, {300, 1}},
		{{0, 255}, {1, 0}, {1, 300}, {2}, {2, 5}, {300}},
		countedTerms(600, 0, 1),
		countedTerms(600, 200, 2),
	}
}

// sumByTrial returns the lists that are in exactly one of both, in ascending order.
func sumByTrial(a, b [][]int64) [][]int64 {
	var sum [][]int64
	holds := func(list [][]int64, term []int64) bool {
		return slices.ContainsFunc(list, func(x []int64) bool { return slices.Equal(x, term) })
	}
	for _, term := range a {
		if !holds(b, term) {
			sum = append(sum, term)
		}
	}
	for _, term := range b {
		if !holds(a, term) {
			sum = append(sum, term)
		}
	}
	slices.SortFunc(sum, slices.Compare)
	return sum
}

func TestSumsOfTermListsUndoThemselves(t *testing.T) {
	samples := sampleTermLists()
	sumOf := func(a, b [][]int64) [][]int64 {
		sum, code := impl.SumOfTermLists(a, b)
		return mustLists(t, sum, code)
	}
	for i, a := range samples {
		for j, b := range samples {
			name := fmt.Sprintf("sum of samples %d and %d", i, j)
			sum := sumOf(a, b)
			checkLists(t, name, sum, 0, sumByTrial(a, b), 0)
			checkLists(t, name+", turned around", sumOf(b, a), 0, sum, 0)
			checkLists(t, name+", undone on the right", sumOf(sum, b), 0, a, 0)
			checkLists(t, name+", undone on the left", sumOf(a, sum), 0, b, 0)
			if !impl.IsTermList(sum) {
				t.Errorf("%s is no term list", name)
			}
			for k, c := range samples {
				checkLists(t, fmt.Sprintf("%s, with sample %d", name, k), sumOf(sum, c), 0, sumOf(a, sumOf(b, c)), 0)
			}
		}
	}
}

func TestSumOfTermListsLimits(t *testing.T) {
	full := countedTerms(2000, 0, 2)
	sum, code := impl.SumOfTermLists(full, nil)
	checkLists(t, "sum of 2000 and 0 terms", sum, code, full, impl.ErrNone)
	sum, code = impl.SumOfTermLists(full, full)
	checkLists(t, "sum of 2000 equal terms", sum, code, nil, impl.ErrNone)
	sum, code = impl.SumOfTermLists(full[:1000], full[1000:])
	checkLists(t, "sum of 1000 and 1000 terms", sum, code, full, impl.ErrNone)
	sum, code = impl.SumOfTermLists(full[:1001], full[1000:])
	checkLists(t, "sum of 1001 and 1000 terms with one in both", sum, code, append(slices.Clone(full[:1000]), full[1001:]...), impl.ErrNone)
	sum, code = impl.SumOfTermLists(full, [][]int64{{1}})
	checkLists(t, "sum of 2000 and 1 terms", sum, code, nil, impl.ErrLimit)
	sum, code = impl.SumOfTermLists(full[:1000], countedTerms(1001, -2003, 2))
	checkLists(t, "sum of 1000 and 1001 terms", sum, code, nil, impl.ErrLimit)
	sum, code = impl.SumOfTermLists(full, countedTerms(2000, 1, 2))
	checkLists(t, "sum of 2000 and 2000 terms", sum, code, nil, impl.ErrLimit)
}

func TestSumOfTermListsErrors(t *testing.T) {
	good := [][]int64{{1}, {2}}
	full := countedTerms(2000, 0, 1)
	for i, bad := range [][][]int64{
		{{1}, {1}}, {{2}, {1}}, {{1}, {}}, {{}, nil}, {make([]int64, 21)}, countedTerms(2001, 0, 1), countedTerms(2000, 5, -1),
	} {
		for _, other := range [][][]int64{nil, good, full, bad} {
			sum, code := impl.SumOfTermLists(bad, other)
			checkLists(t, fmt.Sprintf("sum with bad list %d first", i), sum, code, nil, impl.ErrInvalid)
			sum, code = impl.SumOfTermLists(other, bad)
			checkLists(t, fmt.Sprintf("sum with bad list %d second", i), sum, code, nil, impl.ErrInvalid)
		}
	}
}

func TestNilAndEmptyListsAreTheSame(t *testing.T) {
	sum, code := impl.SumOfTermLists([][]int64{nil}, [][]int64{{}})
	checkLists(t, "sum of nil and empty terms", sum, code, nil, impl.ErrNone)
	sum, code = impl.SumOfTermLists([][]int64{}, [][]int64{{}})
	checkLists(t, "sum of no terms and an empty term", sum, code, [][]int64{nil}, impl.ErrNone)
}

func TestChapter1KeepsItsArguments(t *testing.T) {
	for _, list := range [][]int64{nil, {1, 2, 4}, {1, 3}, {2, 0}, {-1}, {0, impl.MaxNumber}, make([]int64, 21)} {
		given := spareList(list)
		before := wholeList(given)
		impl.MultinomialParity(given)
		impl.DegreeOf(given)
		if !slices.Equal(wholeList(given), before) {
			t.Errorf("the argument %v is changed to %v", before, wholeList(given))
		}
	}
	samples := append(sampleTermLists(), [][]int64{{2}, {1}}, [][]int64{{1}, {1}}, countedTerms(2000, 1000, 1))
	for i := range samples {
		for j := range samples {
			a, b := spareLists(samples[i]), spareLists(samples[j])
			beforeA, beforeB := wholeLists(a), wholeLists(b)
			impl.IsTermList(a)
			impl.SumOfTermLists(a, b)
			if !equalLists(wholeLists(a), beforeA) || !equalLists(wholeLists(b), beforeB) {
				t.Errorf("the arguments of sum %d, %d are changed", i, j)
			}
		}
	}
}

func TestChapter1SharesNoMemory(t *testing.T) {
	samples := sampleTermLists()
	for i := range samples {
		for j := range samples {
			a, b := spareLists(samples[i]), spareLists(samples[j])
			beforeA, beforeB := wholeLists(a), wholeLists(b)
			sum, code := impl.SumOfTermLists(a, b)
			checkSeparate(t, fmt.Sprintf("sum of %d and %d", i, j), mustLists(t, sum, code))
			for k := range sum[:cap(sum)] {
				sum[:cap(sum)][k] = []int64{guard}
			}
			if !equalLists(wholeLists(a), beforeA) || !equalLists(wholeLists(b), beforeB) {
				t.Errorf("the sum of %d and %d shares memory with an argument", i, j)
			}
		}
	}
}

func TestChapter1KeepsNoState(t *testing.T) {
	first, _ := impl.PartitionsOf(12)
	spikes, _ := impl.SpikesOf(12)
	digits, _ := impl.DigitsOf(12345)
	overwrite(guard, first...)
	overwrite(guard, spikes...)
	overwrite(guard, digits)
	got, code := impl.PartitionsOf(12)
	checkLists(t, "PartitionsOf(12)", got, code, exponentListsByTrial(12), impl.ErrNone)
	got, code = impl.SpikesOf(12)
	checkLists(t, "SpikesOf(12)", got, code, spikesByExponents(12), impl.ErrNone)
	if digits, _ := impl.DigitsOf(12345); !slices.Equal(digits, digitsByDivision(12345)) {
		t.Errorf("DigitsOf(12345) = %v", digits)
	}
}
