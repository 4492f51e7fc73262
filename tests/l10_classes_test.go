package tests

import (
	"fmt"
	"math"
	"math/bits"
	"slices"
	"testing"

	"loop.example/g01154/impl"
)

// dicksonByTrial multiplies out X + v for all forms v in k variables, and returns what stands at the
// powers of X.
func dicksonByTrial(k int64) []polySum {
	product := []polySum{{{}: true}}
	for form := range int64(1) << k {
		next := make([]polySum, len(product)+1)
		for power := range next {
			next[power] = polySum{}
			if power > 0 {
				next[power].add(product[power-1])
			}
			if power < len(product) {
				next[power].add(product[power].times(formByTrial(form)))
			}
		}
		product = next
	}
	return product
}

// determinant returns the sum, for all orders of the variables, of the products of their powers.
func determinant(powers []int64) polySum {
	sum := polySum{}
	var place func(m polyTerm, before int, taken [4]bool)
	place = func(m polyTerm, before int, taken [4]bool) {
		if before == len(powers) {
			sum.toggle(m)
			return
		}
		for variable := range powers {
			if !taken[variable] {
				other, also := m, taken
				other[variable], also[variable] = powers[before], true
				place(other, before+1, also)
			}
		}
	}
	place(polyTerm{}, 0, [4]bool{})
	return sum
}

func TestDicksonOf(t *testing.T) {
	for k := int64(1); k <= 4; k++ {
		product := dicksonByTrial(k)
		for i := range k {
			name := fmt.Sprintf("DicksonOf(%d, %d)", k, i)
			got, code := impl.DicksonOf(k, i)
			checkPoly(t, name, got, code, sure(product[1<<i].poly(k)), impl.ErrNone)
			checkFlag(t, name+" is a polynomial", impl.IsPoly(got), code, true, impl.ErrNone)
			checkNumber(t, "the degree of "+name, sure(impl.DegreeOfPoly(got)), 0, 1<<k-1<<i, 0)
			checkSeparate(t, name, got.Terms)
		}
		for power, sum := range product {
			if bits.OnesCount(uint(power)) != 1 && len(sum) > 0 {
				t.Errorf("the product for %d has a part at %d", k, power)
			}
		}
	}
}

func TestDicksonByHand(t *testing.T) {
	for _, c := range []struct {
		k, i int64
		want string
	}{
		{1, 0, "1:1"}, {2, 0, "2:1,2+2,1"}, {2, 1, "2:0,2+1,1+2,0"},
		{3, 2, "3:0,0,4+0,2,2+0,4,0+1,1,2+1,2,1+2,0,2+2,1,1+2,2,0+4,0,0"}, {3, 0, "3:1,2,4+1,4,2+2,1,4+2,4,1+4,1,2+4,2,1"},
		{3, 1, "3:0,2,4+0,4,2+1,1,4+1,4,1+2,0,4+2,2,2+2,4,0+4,0,2+4,1,1+4,2,0"},
	} {
		got, code := impl.DicksonOf(c.k, c.i)
		checkPoly(t, fmt.Sprintf("DicksonOf(%d, %d)", c.k, c.i), got, code, sure(impl.ParsePoly(c.want)), impl.ErrNone)
	}
	for _, c := range []struct {
		i, count       int64
		within, beside []int64
	}{{3, 35, []int64{0, 0, 0, 8}, []int64{0, 0, 1, 7}}, {0, 24, []int64{1, 2, 4, 8}, []int64{0, 3, 4, 8}}} {
		got := sure(impl.DicksonOf(4, c.i))
		sum := sumOfPoly(got)
		if int64(len(sum)) != c.count || !sum[polyTermOf(c.within)] || sum[polyTermOf(c.beside)] {
			t.Errorf("DicksonOf(4, %d) = %v", c.i, got)
		}
	}
}

// TestDicksonAsQuotient has determinants of powers: the invariant is that without the power 2^i, divided
// by that without the greatest one.
func TestDicksonAsQuotient(t *testing.T) {
	for k := int64(1); k <= 4; k++ {
		powers := []int64{1, 2, 4, 8, 16}[:k+1]
		divisor := sure(determinant(powers[:k]).poly(k))
		for i := range k {
			rest := slices.Delete(slices.Clone(powers), int(i), int(i)+1)
			got, code := impl.MultiplyPolys(sure(impl.DicksonOf(k, i)), divisor)
			checkPoly(t, fmt.Sprintf("DicksonOf(%d, %d) times the divisor", k, i), got, code, sure(determinant(rest).poly(k)), impl.ErrNone)
		}
	}
}

func TestSquaresOfDickson(t *testing.T) {
	for k := int64(1); k <= 4; k++ {
		for i := range k {
			f := sure(impl.DicksonOf(k, i))
			for _, j := range []int64{1, 2, 4, 8} {
				want := impl.Poly{Variables: k}
				switch {
				case i > 0 && j == 1<<(i-1):
					want = sure(impl.DicksonOf(k, i-1))
				case j == 1<<(k-1):
					want = sure(impl.MultiplyPolys(f, sure(impl.DicksonOf(k, k-1))))
				}
				got, code := impl.SquareOn(f, j)
				checkPoly(t, fmt.Sprintf("Sq^%d of DicksonOf(%d, %d)", j, k, i), got, code, want, impl.ErrNone)
			}
		}
	}
}

func TestNumbersOfDicksonOutside(t *testing.T) {
	check := func(k, i int64) {
		t.Helper()
		if zero, code := isZeroPoly(impl.DicksonOf(k, i)); !zero || code != impl.ErrRange {
			t.Errorf("DicksonOf(%d, %d): zero value %v, code %d", k, i, zero, code)
		}
	}
	for _, k := range append(outside(4), 0, 62, 63, 64, 65) {
		for i := int64(-1); i <= 5; i++ {
			check(k, i)
		}
		for _, i := range outside(k % 1000) {
			check(k, i)
		}
	}
	for k := int64(1); k <= 4; k++ {
		for _, i := range append(outside(k-1), 62, 63, 64, 65) {
			check(k, i)
		}
	}
}

// changesByTrial has the exchanges of variables next to each other and x(0) + x(1) for x(0).
func changesByTrial(k int64) [][]int64 {
	return [][][]int64{1: nil, 2: {{2, 1}, {3, 2}}, 3: {{2, 1, 4}, {1, 4, 2}, {3, 2, 4}}, 4: {{2, 1, 4, 8}, {1, 4, 2, 8}, {1, 2, 8, 4}, {3, 2, 4, 8}}}[k]
}

func invariantByTrial(f impl.Poly) bool {
	for _, forms := range changesByTrial(f.Variables) {
		sum := formsByTrial(f, forms)
		sum.add(sumOfPoly(f))
		if len(sum) > 0 {
			return false
		}
	}
	return true
}

func checkInvariant(t *testing.T, f impl.Poly, want bool) {
	t.Helper()
	got, code := impl.IsInvariant(f)
	checkFlag(t, fmt.Sprintf("IsInvariant(%s)", shownPoly(f)), got, code, want, impl.ErrNone)
}

// orbitSum returns the sum of all monomials with the same exponents in another order.
func orbitSum(exponents ...int64) polySum {
	sum := polySum{}
	k := int64(len(exponents))
	want := slices.Sorted(slices.Values(exponents))
	for _, term := range monomialsByTrial(k, polyTermOf(exponents).degree()) {
		if slices.Equal(slices.Sorted(slices.Values(term)), want) {
			sum.toggle(polyTermOf(term))
		}
	}
	return sum
}

// dicksonProducts returns all products of Dickson's invariants of a degree: each invariant polynomial
// is a sum of some of them.
func dicksonProducts(k, d int64) []polySum {
	all := dicksonByTrial(k)
	var found []polySum
	var raise func(product polySum, i, left int64)
	raise = func(product polySum, i, left int64) {
		if i == k {
			if left == 0 {
				found = append(found, product)
			}
			return
		}
		for {
			raise(product, i+1, left)
			left -= 1<<k - 1<<i
			if left < 0 {
				return
			}
			product = product.times(all[1<<i])
		}
	}
	raise(polySum{{}: true}, 0, d)
	return found
}

// TestIsInvariantOfAllSmallPolys compares all polynomials of a degree with what the changes make of
// them, and their number with the number of sums of products of Dickson's invariants.
func TestIsInvariantOfAllSmallPolys(t *testing.T) {
	for k := int64(1); k <= 4; k++ {
		for d := range []int64{1: 41, 2: 13, 3: 4, 4: 3}[k] {
			terms := monomialsByTrial(k, d)
			changed, count := differencesByTrial(k, terms), 0
			for number := range 1 << len(terms) {
				f, want := impl.Poly{Variables: k}, true
				for place, term := range terms {
					if number>>place&1 == 1 {
						f.Terms = append(f.Terms, term)
					}
				}
				for _, masks := range changed {
					difference := 0
					for place, mask := range masks {
						difference ^= number >> place & 1 * mask
					}
					want = want && difference == 0
				}
				checkInvariant(t, f, want)
				if want {
					count++
				}
			}
			checkNumber(t, fmt.Sprintf("invariants of the degree %d in %d variables", d, k), int64(count), 0, 1<<len(dicksonProducts(k, d)), 0)
		}
	}
}

// differencesByTrial returns, for each change, masks of what it adds to each of all monomials of a degree.
func differencesByTrial(k int64, terms [][]int64) [][]int {
	var all [][]int
	for _, forms := range changesByTrial(k) {
		var masks []int
		for _, term := range terms {
			sum, mask := formsByTrial(polyOf(k, term), forms), 0
			sum.toggle(polyTermOf(term))
			for place, other := range terms {
				if sum[polyTermOf(other)] {
					mask |= 1 << place
				}
			}
			masks = append(masks, mask)
		}
		all = append(all, masks)
	}
	return all
}

// TestIsInvariantOfDickson has all sums of products of Dickson's invariants in great degrees, and the
// same with other monomials.
func TestIsInvariantOfDickson(t *testing.T) {
	n := numbers(241)
	for k := int64(1); k <= 4; k++ {
		for d := range int64(41) {
			products := dicksonProducts(k, d)
			for range min(2*len(products), 4) {
				sum := polySum{}
				for _, product := range products {
					if n.below(2) == 1 {
						sum.add(product)
					}
				}
				f, code := sum.poly(k)
				if code != impl.ErrNone {
					continue
				}
				checkInvariant(t, f, true)
				other := n.poly(k, d, 3)
				sum.add(sumOfPoly(other))
				if f, code := sum.poly(k); code == impl.ErrNone {
					checkInvariant(t, f, invariantByTrial(other))
				}
				checkUnderLinearChanges(t, f, &n)
			}
		}
	}
}

// checkUnderLinearChanges puts invertible lists of forms into an invariant polynomial.
func checkUnderLinearChanges(t *testing.T, f impl.Poly, n *numbers) {
	t.Helper()
	for range 2 {
		forms := n.forms(f.Variables)
		if sure(impl.RankOf(matrixOf(f.Variables, forms...))) == f.Variables {
			got, code := impl.SubstituteForms(f, forms)
			checkPoly(t, fmt.Sprintf("%v in the invariant %s", forms, shownPoly(f)), got, code, f, impl.ErrNone)
		}
	}
}

// TestSymmetricPolys has polynomials that are invariant under exchanges of variables alone, and those
// that are, too, under the last change.
func TestSymmetricPolys(t *testing.T) {
	n, both := numbers(251), map[bool]int{}
	for k := int64(2); k <= 4; k++ {
		for d := range int64(17) {
			for range 3 {
				sum := polySum{}
				for range 1 + n.below(3) {
					term := n.poly(k, d, 1).Terms[0]
					sum.add(orbitSum(term...))
				}
				f := sure(sum.poly(k))
				for _, forms := range changesByTrial(k)[:k-1] {
					got, code := impl.SubstituteForms(f, forms)
					checkPoly(t, fmt.Sprintf("%v in %s", forms, shownPoly(f)), got, code, f, impl.ErrNone)
				}
				want := invariantByTrial(f)
				both[want]++
				checkInvariant(t, f, want)
			}
		}
	}
	if both[false] < 100 || both[true] < 3 {
		t.Errorf("%v is no sample", both)
	}
}

// TestInvariantUnderAllChangesButOne has, for each change, polynomials that it alone does not leave as
// they are.
func TestInvariantUnderAllChangesButOne(t *testing.T) {
	for _, c := range []struct {
		f      string
		change int
	}{
		{"2:0,1", 0}, {"2:0,2", 0}, {"2:0,1+1,0", 1}, {"2:1,1", 1}, {"2:0,2+2,0", 1},
		{"3:0,0,1+0,1,0", 0}, {"3:0,1,1", 0}, {"3:0,0,1", 1}, {"3:0,2,0+1,1,0+2,0,0", 1}, {"3:1,2,0+2,1,0", 1}, {"3:0,0,1+0,1,0+1,0,0", 2}, {"3:1,1,1", 2},
		{"4:0,0,0,1+0,0,1,0+0,1,0,0", 0}, {"4:0,1,1,1", 0}, {"4:0,0,0,1+0,0,1,0", 1}, {"4:0,0,1,1", 1}, {"4:0,2,0,0+1,1,0,0+2,0,0,0", 1}, {"4:1,2,3,3+2,1,3,3", 1}, {"4:0,0,0,1", 2}, {"4:0,0,0,40", 2}, {"4:1,2,4,0+1,4,2,0+2,1,4,0+2,4,1,0+4,1,2,0+4,2,1,0", 2}, {"4:0,0,0,1+0,0,1,0+0,1,0,0+1,0,0,0", 3}, {"4:1,1,1,1", 3}, {"4:10,10,10,10", 3},
	} {
		f := sure(impl.ParsePoly(c.f))
		for change, forms := range changesByTrial(f.Variables) {
			same := slices.EqualFunc(sure(impl.SubstituteForms(f, forms)).Terms, f.Terms, slices.Equal[[]int64])
			checkFlag(t, fmt.Sprintf("the change %d leaves %s", change, c.f), same, 0, change != c.change, 0)
		}
		checkInvariant(t, f, false)
	}
}

func TestIsInvariantOfSpecialPolys(t *testing.T) {
	for k := int64(1); k <= 4; k++ {
		checkInvariant(t, impl.Poly{Variables: k}, true)
		checkInvariant(t, polyOf(k), true)
		checkInvariant(t, impl.Poly{Variables: k, Terms: monomialsByTrial(k, 40)[:0]}, true)
		checkInvariant(t, polyOf(k, make([]int64, k)), true)
		for d := int64(1); d <= 40; d++ {
			most := make([]int64, k)
			most[k-1] = d
			checkInvariant(t, polyOf(k, most), k == 1)
		}
	}
	for _, f := range somePolys() {
		checkInvariant(t, f, invariantByTrial(f))
	}
}

// TestIsInvariantHasNoLimit has polynomials with up to MaxTerms Terms, also those of which a change
// makes more than MaxTerms: then it does not leave them as they are.
func TestIsInvariantHasNoLimit(t *testing.T) {
	passed := 0
	for k := int64(3); k <= 4; k++ {
		for _, d := range []int64{30, 34, 38, 39, 40} {
			lists := monomialsByTrial(k, d)
			for _, terms := range [][][]int64{lists[:min(len(lists), 2000)], lists[max(len(lists)-2000, 0):], lists[max(len(lists)-2000, 0)/2:][:min(len(lists), 2000)]} {
				f, same := polyOf(k, terms...), true
				for _, forms := range changesByTrial(k) {
					changed, code := impl.SubstituteForms(f, forms)
					same = same && code == impl.ErrNone && equalLists(changed.Terms, f.Terms)
					if code == impl.ErrLimit {
						passed++
					}
				}
				checkInvariant(t, f, same)
			}
		}
	}
	if passed < 5 {
		t.Errorf("%d polynomials pass the limit", passed)
	}
	// This one stays as it is when variables are exchanged.
	symmetric := polySum{}
	for _, orbit := range [][]int64{{0, 3, 6, 31}, {1, 2, 9, 28}, {3, 3, 3, 31}, {1, 7, 15, 17}, {5, 6, 13, 16}, {2, 4, 7, 27}, {0, 0, 9, 31}, {1, 3, 7, 29}, {3, 5, 7, 25}, {2, 3, 11, 24}, {0, 1, 15, 24}, {1, 5, 11, 23}} {
		symmetric.add(orbitSum(orbit...))
	}
	for _, term := range monomialsByTrial(4, 40) {
		if len(symmetric) < 1900 && slices.IsSorted(term) && !symmetric[polyTermOf(term)] {
			symmetric.add(orbitSum(term...))
		}
	}
	f := sure(symmetric.poly(4))
	for _, forms := range changesByTrial(4)[:3] {
		got, code := impl.SubstituteForms(f, forms)
		checkPoly(t, "an exchange in a symmetric polynomial", got, code, f, impl.ErrNone)
	}
	if _, code := impl.SubstituteForms(f, []int64{3, 2, 4, 8}); code != impl.ErrLimit {
		t.Errorf("a sum of variables in a symmetric polynomial: code %d", code)
	}
	checkInvariant(t, f, false)
}

func TestErrorsOfBadPolysOfInvariants(t *testing.T) {
	for _, f := range badPolys() {
		if zero, code := isZeroFlag(impl.IsInvariant(f)); !zero || code != impl.ErrInvalid {
			t.Errorf("IsInvariant(%s): zero value %v, code %d", shownPoly(f), zero, code)
		}
	}
}

// classesByTrial multiplies the forms of all sublists.
func classesByTrial(forms []int64) []polySum {
	classes := make([]polySum, len(forms)+1)
	products := []polySum{{{}: true}}
	for i := range classes {
		classes[i] = polySum{}
	}
	for chosen := range 1 << len(forms) {
		if chosen > 0 {
			last := bits.Len(uint(chosen)) - 1
			products = append(products, products[chosen-1<<last].times(formByTrial(forms[last])))
		}
		classes[bits.OnesCount(uint(chosen))].add(products[chosen])
	}
	return classes
}

// manyClassesByTrial multiplies the classes of two halves of a list, which has at most 16 forms.
func manyClassesByTrial(forms []int64) []polySum {
	if len(forms) <= 8 {
		return classesByTrial(forms)
	}
	first, second := classesByTrial(forms[:8]), classesByTrial(forms[8:])
	classes := make([]polySum, len(forms)+1)
	for i := range classes {
		classes[i] = polySum{}
	}
	for i, f := range first {
		for j, g := range second {
			classes[i+j].add(f.times(g))
		}
	}
	return classes
}

// formList returns a list of forms in k variables.
func (n *numbers) formList(k, length int64) []int64 {
	list := make([]int64, length)
	for i := range list {
		list[i] = n.below(1 << k)
	}
	return list
}

// formLists are lists of forms in k variables at and within the limits.
func formLists(k int64) [][]int64 {
	n := numbers(257 + k)
	all := make([]int64, 1<<k)
	for form := range all {
		all[form] = int64(form)
	}
	down := slices.Clone(all)
	slices.Reverse(down)
	most := int64(1)<<k - 1
	lists := [][]int64{all, all[1:], down, {0}, {1}, {most}, {0, 0}, {1, 1}, {most, most}, {0, most}, {1, 1, 1}, {1, 0, 1}, make([]int64, 16), slices.Repeat([]int64{1}, 16), slices.Repeat([]int64{most}, 15), slices.Repeat([]int64{most, 1}, 8), slices.Repeat([]int64{most}, 16), append(make([]int64, 15), most)}
	for length := int64(1); length <= 16; length++ {
		lists = append(lists, n.formList(k, length))
	}
	return lists
}

func TestClassOfForms(t *testing.T) {
	for k := int64(1); k <= 4; k++ {
		for _, forms := range formLists(k) {
			for i, want := range manyClassesByTrial(forms) {
				name := fmt.Sprintf("ClassOfForms(%d, %v, %d)", k, forms, i)
				got, code := impl.ClassOfForms(k, spareList(forms), int64(i))
				checkPoly(t, name, got, code, sure(want.poly(k)), impl.ErrNone)
				checkFlag(t, name+" is a polynomial", impl.IsPoly(got), code, true, impl.ErrNone)
				checkSeparate(t, name, got.Terms)
			}
		}
	}
}

func TestClassOfFormsByHand(t *testing.T) {
	for _, c := range []struct {
		k     int64
		forms []int64
		want  []string
	}{
		{1, []int64{0}, []string{"1:0", "1:-"}}, {1, []int64{1}, []string{"1:0", "1:1"}}, {1, []int64{1, 1}, []string{"1:0", "1:-", "1:2"}}, {1, []int64{1, 1, 1}, []string{"1:0", "1:1", "1:2", "1:3"}}, {1, []int64{1, 0}, []string{"1:0", "1:1", "1:-"}}, {1, []int64{0, 0, 0}, []string{"1:0", "1:-", "1:-", "1:-"}}, {1, []int64{1, 0, 1}, []string{"1:0", "1:-", "1:2", "1:-"}},
		{2, []int64{1, 2}, []string{"2:0,0", "2:0,1+1,0", "2:1,1"}}, {2, []int64{3}, []string{"2:0,0", "2:0,1+1,0"}}, {2, []int64{1, 2, 3}, []string{"2:0,0", "2:-", "2:0,2+1,1+2,0", "2:1,2+2,1"}}, {2, []int64{3, 3}, []string{"2:0,0", "2:-", "2:0,2+2,0"}}, {2, []int64{3, 1}, []string{"2:0,0", "2:0,1", "2:1,1+2,0"}}, {2, []int64{2}, []string{"2:0,0", "2:0,1"}}, {2, []int64{0, 1, 2, 3}, []string{"2:0,0", "2:-", "2:0,2+1,1+2,0", "2:1,2+2,1", "2:-"}},
		{3, []int64{1, 2, 4}, []string{"3:0,0,0", "3:0,0,1+0,1,0+1,0,0", "3:0,1,1+1,0,1+1,1,0", "3:1,1,1"}}, {3, []int64{7}, []string{"3:0,0,0", "3:0,0,1+0,1,0+1,0,0"}}, {3, []int64{5, 5, 0}, []string{"3:0,0,0", "3:-", "3:0,0,2+2,0,0", "3:-"}},
		{4, []int64{1, 2, 4, 8}, []string{"4:0,0,0,0", "4:0,0,0,1+0,0,1,0+0,1,0,0+1,0,0,0", "4:0,0,1,1+0,1,0,1+0,1,1,0+1,0,0,1+1,0,1,0+1,1,0,0", "4:0,1,1,1+1,0,1,1+1,1,0,1+1,1,1,0", "4:1,1,1,1"}}, {4, []int64{15}, []string{"4:0,0,0,0", "4:0,0,0,1+0,0,1,0+0,1,0,0+1,0,0,0"}}, {4, []int64{8, 8, 8}, []string{"4:0,0,0,0", "4:0,0,0,1", "4:0,0,0,2", "4:0,0,0,3"}},
	} {
		for i, want := range c.want {
			got, code := impl.ClassOfForms(c.k, spareList(c.forms), int64(i))
			checkPoly(t, fmt.Sprintf("ClassOfForms(%d, %v, %d)", c.k, c.forms, i), got, code, sure(impl.ParsePoly(want)), impl.ErrNone)
		}
	}
	for i := range int64(17) {
		want := impl.Poly{Variables: 4}
		if i%16 == 0 {
			want = polyOf(4, []int64{0, 0, i, 0})
		}
		got, code := impl.ClassOfForms(4, slices.Repeat([]int64{4}, 16), i)
		checkPoly(t, fmt.Sprintf("w(%d) of a form 16 times", i), got, code, want, impl.ErrNone)
		got, code = impl.ClassOfForms(4, append(slices.Repeat([]int64{4}, 15), 0), i)
		want = polyOf(4, []int64{0, 0, i, 0})
		if i == 16 {
			want = polyOf(4)
		}
		checkPoly(t, fmt.Sprintf("w(%d) of a form 15 times and 0", i), got, code, want, impl.ErrNone)
	}
}

// TestFormsOfClassesOutside has lists of no and of too many forms, numbers that are no forms at each
// place, and all of this together.
func TestFormsOfClassesOutside(t *testing.T) {
	check := func(k int64, forms []int64, i int64) {
		t.Helper()
		if zero, code := isZeroPoly(impl.ClassOfForms(k, forms, i)); !zero || code != impl.ErrRange {
			t.Errorf("ClassOfForms(%d, %v, %d): zero value %v, code %d", k, forms, i, zero, code)
		}
	}
	for k := int64(1); k <= 4; k++ {
		for _, forms := range formLists(k) {
			length := int64(len(forms))
			for _, i := range outside(length) {
				check(k, forms, i)
			}
			for _, bad := range outside(1<<k - 1) {
				for place := range forms {
					list := slices.Clone(forms)
					list[place] = bad
					check(k, list, 0)
					check(k, list, length)
					check(k, list, -1)
				}
			}
			for _, other := range append(outside(4), 0, 62, 63, 64, 65) {
				check(other, forms, 0)
				check(other, forms, length)
				check(other, forms, length+1)
			}
		}
		for _, length := range []int{0, 17, 18, 100, 2000} {
			for _, i := range []int64{-1, 0, 1, 16, 17, 18, int64(length)} {
				check(k, make([]int64, length), i)
				check(k, slices.Repeat([]int64{1}, length), i)
				check(k, slices.Repeat([]int64{-1}, length), i)
			}
		}
		check(k, nil, 0)
		check(k, []int64{}, 0)
	}
	check(3, []int64{8}, 1)
	check(2, []int64{1, 2, 4}, 1)
	check(5, []int64{1}, 1)
	check(0, []int64{0}, 1)
	check(0, nil, 0)
}

func wuByTrial(triangle [][]int, i, j int64) [][]int64 {
	var lists [][]int64
	for t := range i + 1 {
		if t == 0 || triangle[j-i+t-1][t] == 1 {
			lists = append(lists, []int64{i - t, j + t})
		}
	}
	return lists
}

func TestWuFormula(t *testing.T) {
	if impl.MaxSpace != 1000 {
		t.Errorf("MaxSpace is %d", impl.MaxSpace)
	}
	triangle := pascalParities(1001)
	for j := range int64(1001) {
		for i := range j + 1 {
			if j > 70 && j < 998 && (i+5*j)%97 != 0 && i != j && i != 0 {
				continue
			}
			lists, code := impl.WuFormula(i, j)
			checkLists(t, fmt.Sprintf("WuFormula(%d, %d)", i, j), lists, code, wuByTrial(triangle, i, j), impl.ErrNone)
			if j%7 == 0 {
				checkSeparate(t, "WuFormula", lists)
			}
		}
	}
}

func TestWuFormulaByHand(t *testing.T) {
	for _, c := range []struct {
		i, j int64
		want [][]int64
	}{
		{0, 0, [][]int64{{0, 0}}}, {0, 1, [][]int64{{0, 1}}}, {0, 7, [][]int64{{0, 7}}}, {0, 999, [][]int64{{0, 999}}}, {0, 1000, [][]int64{{0, 1000}}}, {1, 1, [][]int64{{1, 1}}}, {1, 2, [][]int64{{1, 2}, {0, 3}}}, {1, 3, [][]int64{{1, 3}}}, {1, 4, [][]int64{{1, 4}, {0, 5}}}, {1, 1000, [][]int64{{1, 1000}, {0, 1001}}}, {1, 999, [][]int64{{1, 999}}},
		{2, 2, [][]int64{{2, 2}}}, {2, 3, [][]int64{{2, 3}, {1, 4}, {0, 5}}}, {2, 4, [][]int64{{2, 4}, {0, 6}}}, {2, 5, [][]int64{{2, 5}, {1, 6}}}, {2, 6, [][]int64{{2, 6}}}, {2, 7, [][]int64{{2, 7}, {1, 8}, {0, 9}}}, {3, 3, [][]int64{{3, 3}}}, {3, 4, [][]int64{{3, 4}, {2, 5}, {1, 6}, {0, 7}}}, {3, 5, [][]int64{{3, 5}, {1, 7}}}, {3, 6, [][]int64{{3, 6}, {2, 7}}}, {3, 7, [][]int64{{3, 7}}}, {4, 5, [][]int64{{4, 5}, {3, 6}, {2, 7}, {1, 8}, {0, 9}}}, {4, 6, [][]int64{{4, 6}, {2, 8}, {0, 10}}}, {1000, 1000, [][]int64{{1000, 1000}}}, {999, 999, [][]int64{{999, 999}}},
	} {
		lists, code := impl.WuFormula(c.i, c.j)
		checkLists(t, fmt.Sprintf("WuFormula(%d, %d)", c.i, c.j), lists, code, c.want, impl.ErrNone)
	}
	lists, code := impl.WuFormula(999, 1000)
	if code != impl.ErrNone || len(lists) != 1000 || !slices.Equal(lists[0], []int64{999, 1000}) || !slices.Equal(lists[999], []int64{0, 1999}) {
		t.Errorf("WuFormula(999, 1000) has %d lists, code %d", len(lists), code)
	}
}

func TestNumbersOfWuOutside(t *testing.T) {
	check := func(i, j int64) {
		t.Helper()
		if zero, code := isZeroLists(impl.WuFormula(i, j)); !zero || code != impl.ErrRange {
			t.Errorf("WuFormula(%d, %d): zero value %v, code %d", i, j, zero, code)
		}
	}
	for _, j := range outside(1000) {
		for _, i := range append(outside(1000), 0, 1, 1000, j) {
			check(i, j)
		}
	}
	for _, j := range []int64{0, 1, 2, 3, 7, 64, 999, 1000} {
		for _, i := range append(outside(j), -2, 1000+j+1) {
			check(i, j)
		}
	}
	for _, pair := range [][2]int64{{1, 0}, {2, 1}, {1000, 999}, {1001, 1000}, {1001, 1001}, {0, 1001}, {1, 1001}, {1000, 1001}, {-1, -1}, {-1, 0}, {-1, 1000}, {-2, -1}, {-1, 1001}} {
		check(pair[0], pair[1])
	}
}

// whitneyRows returns the coefficients of (1 + x)^n for so many n.
func whitneyRows(count int) [][]int64 {
	rows := [][]int64{{1}}
	for len(rows) < count {
		rows = append(rows, nextPascalRow(rows[len(rows)-1]))
	}
	return rows
}

func TestWhitneyClasses(t *testing.T) {
	rows := whitneyRows(1002)
	for n := int64(1); n <= 1000; n++ {
		classes, code := impl.WhitneyClasses(n)
		checkList(t, fmt.Sprintf("WhitneyClasses(%d)", n), classes, code, rows[n+1][:n+1], impl.ErrNone)
	}
}

func TestDualClasses(t *testing.T) {
	for n := int64(1); n <= 1000; n++ {
		classes := sure(impl.WhitneyClasses(n))
		var places []int
		for i, class := range classes[1:] {
			if class == 1 {
				places = append(places, i+1)
			}
		}
		want := make([]int64, n+1)
		for i := range want {
			if i == 0 {
				want[i] = 1
			}
			for _, place := range places {
				if place <= i {
					want[i] ^= want[i-place]
				}
			}
		}
		dual, code := impl.DualClasses(n)
		checkList(t, fmt.Sprintf("DualClasses(%d)", n), dual, code, want, impl.ErrNone)
	}
}

func TestWuClasses(t *testing.T) {
	rows := whitneyRows(1001)
	for n := int64(1); n <= 1000; n++ {
		want := make([]int64, n+1)
		for i := range n/2 + 1 {
			want[i] = rows[n-i][i]
		}
		classes, code := impl.WuClasses(n)
		checkList(t, fmt.Sprintf("WuClasses(%d)", n), classes, code, want, impl.ErrNone)
	}
}

func TestClassesOfSpacesByHand(t *testing.T) {
	for _, c := range []struct {
		n                 int64
		whitney, dual, wu []int64
	}{
		{1, []int64{1, 0}, []int64{1, 0}, []int64{1, 0}}, {2, []int64{1, 1, 1}, []int64{1, 1, 0}, []int64{1, 1, 0}}, {3, []int64{1, 0, 0, 0}, []int64{1, 0, 0, 0}, []int64{1, 0, 0, 0}}, {4, []int64{1, 1, 0, 0, 1}, []int64{1, 1, 1, 1, 0}, []int64{1, 1, 1, 0, 0}},
		{5, []int64{1, 0, 1, 0, 1, 0}, []int64{1, 0, 1, 0, 0, 0}, []int64{1, 0, 1, 0, 0, 0}}, {6, []int64{1, 1, 1, 1, 1, 1, 1}, []int64{1, 1, 0, 0, 0, 0, 0}, []int64{1, 1, 0, 1, 0, 0, 0}}, {7, []int64{1, 0, 0, 0, 0, 0, 0, 0}, []int64{1, 0, 0, 0, 0, 0, 0, 0}, []int64{1, 0, 0, 0, 0, 0, 0, 0}}, {8, []int64{1, 1, 0, 0, 0, 0, 0, 0, 1}, []int64{1, 1, 1, 1, 1, 1, 1, 1, 0}, []int64{1, 1, 1, 0, 1, 0, 0, 0, 0}},
		{9, []int64{1, 0, 1, 0, 0, 0, 0, 0, 1, 0}, []int64{1, 0, 1, 0, 1, 0, 1, 0, 0, 0}, []int64{1, 0, 1, 0, 1, 0, 0, 0, 0, 0}}, {10, []int64{1, 1, 1, 1, 0, 0, 0, 0, 1, 1, 1}, []int64{1, 1, 0, 0, 1, 1, 0, 0, 0, 0, 0}, []int64{1, 1, 0, 1, 1, 1, 0, 0, 0, 0, 0}},
	} {
		classes, code := impl.WhitneyClasses(c.n)
		checkList(t, fmt.Sprintf("WhitneyClasses(%d)", c.n), classes, code, c.whitney, impl.ErrNone)
		classes, code = impl.DualClasses(c.n)
		checkList(t, fmt.Sprintf("DualClasses(%d)", c.n), classes, code, c.dual, impl.ErrNone)
		classes, code = impl.WuClasses(c.n)
		checkList(t, fmt.Sprintf("WuClasses(%d)", c.n), classes, code, c.wu, impl.ErrNone)
	}
}

// TestClassesOfGreatSpaces has powers of 2, one less, and MaxSpace.
func TestClassesOfGreatSpaces(t *testing.T) {
	for n := int64(16); n <= 512; n *= 2 {
		one := append([]int64{1}, make([]int64, n-1)...)
		for name, call := range map[string]func(int64) ([]int64, int64){"WhitneyClasses": impl.WhitneyClasses, "DualClasses": impl.DualClasses, "WuClasses": impl.WuClasses} {
			classes, code := call(n - 1)
			checkList(t, fmt.Sprintf("%s(%d)", name, n-1), classes, code, one, impl.ErrNone)
		}
		want := append(slices.Clone(one), 1)
		want[1] = 1
		classes, code := impl.WhitneyClasses(n)
		checkList(t, fmt.Sprintf("WhitneyClasses(%d)", n), classes, code, want, impl.ErrNone)
		classes, code = impl.DualClasses(n)
		checkList(t, fmt.Sprintf("DualClasses(%d)", n), classes, code, append(slices.Repeat([]int64{1}, int(n)), 0), impl.ErrNone)
		want = make([]int64, n+1)
		for i := int64(1); i < n; i *= 2 {
			want[i] = 1
		}
		want[0] = 1
		classes, code = impl.WuClasses(n)
		checkList(t, fmt.Sprintf("WuClasses(%d)", n), classes, code, want, impl.ErrNone)
	}
	// 1001 is 1111101001 in binary, and 1000 is 1111101000.
	want := make([]int64, 1001)
	for i := range want {
		if i&1001 == i {
			want[i] = 1
		}
	}
	classes, code := impl.WhitneyClasses(1000)
	checkList(t, "WhitneyClasses(1000)", classes, code, want, impl.ErrNone)
}

// spaceCall is a call with a dimension, and tells whether its result is the zero value.
type spaceCall func(n int64) (bool, int64)

func callsWithSpaces() map[string]spaceCall {
	return map[string]spaceCall{
		"WhitneyClasses": func(n int64) (bool, int64) { return isZeroList(impl.WhitneyClasses(n)) },
		"DualClasses":    func(n int64) (bool, int64) { return isZeroList(impl.DualClasses(n)) },
		"WuClasses":      func(n int64) (bool, int64) { return isZeroList(impl.WuClasses(n)) },
		"ImmersionGap":   func(n int64) (bool, int64) { return isZeroNumber(impl.ImmersionGap(n)) },
		"IsBoundary":     func(n int64) (bool, int64) { return isZeroFlag(impl.IsBoundary(n)) },
		"WhitneyNumber":  func(n int64) (bool, int64) { return isZeroNumber(impl.WhitneyNumber(n, []int64{n})) },
		"empty lists":    func(n int64) (bool, int64) { return isZeroNumber(impl.WhitneyNumber(n, nil)) },
	}
}

func TestSpacesOutside(t *testing.T) {
	for name, call := range callsWithSpaces() {
		numbers := append(outside(1000), 0)
		if name == "IsBoundary" {
			numbers = append(numbers, 41, 42, 43, 44, 100, 999, 1000)
		}
		for _, n := range numbers {
			if zero, code := call(n); !zero || code != impl.ErrRange {
				t.Errorf("%s(%d): zero value %v, code %d", name, n, zero, code)
			}
		}
		for _, n := range []int64{1, 2, 39, 40} {
			if _, code := call(n); (code == impl.ErrNone) != (name != "empty lists") {
				t.Errorf("%s(%d): code %d", name, n, code)
			}
		}
	}
}

// divisions returns all descending lists of numbers of at least 1 with the sum n.
func divisions(n, most int64) [][]int64 {
	if n == 0 {
		return [][]int64{{}}
	}
	var found [][]int64
	for first := int64(1); first <= min(n, most); first++ {
		for _, rest := range divisions(n-first, first) {
			found = append(found, append([]int64{first}, rest...))
		}
	}
	return found
}

func TestWhitneyNumberAndIsBoundary(t *testing.T) {
	rows := whitneyRows(42)
	for n := int64(1); n <= 40; n++ {
		boundary := true
		for _, list := range divisions(n, n) {
			want := int64(1)
			for _, i := range list {
				want *= rows[n+1][i]
			}
			if n%3 == 0 {
				slices.Reverse(list)
			}
			got, code := impl.WhitneyNumber(n, list)
			checkNumber(t, fmt.Sprintf("WhitneyNumber(%d, %v)", n, list), got, code, want, impl.ErrNone)
			boundary = boundary && want == 0
		}
		got, code := impl.IsBoundary(n)
		checkFlag(t, fmt.Sprintf("IsBoundary(%d)", n), got, code, boundary, impl.ErrNone)
		checkFlag(t, fmt.Sprintf("%d is odd", n), got, 0, n%2 == 1, 0)
	}
}

func TestWhitneyNumberByHand(t *testing.T) {
	for _, c := range []struct {
		n    int64
		list []int64
		want int64
	}{
		{1, []int64{1}, 0}, {2, []int64{2}, 1}, {2, []int64{1, 1}, 1}, {3, []int64{3}, 0}, {3, []int64{2, 1}, 0}, {3, []int64{1, 2}, 0}, {4, []int64{4}, 1}, {4, []int64{1, 1, 1, 1}, 1}, {4, []int64{2, 2}, 0}, {4, []int64{3, 1}, 0}, {4, []int64{1, 3}, 0}, {4, []int64{1, 2, 1}, 0}, {5, []int64{4, 1}, 0}, {5, []int64{2, 2, 1}, 0}, {6, []int64{3, 3}, 1}, {6, []int64{1, 2, 3}, 1}, {6, []int64{2, 3, 1}, 1}, {6, []int64{6}, 1}, {8, []int64{8}, 1}, {8, []int64{4, 4}, 0}, {8, []int64{1, 1, 1, 1, 1, 1, 1, 1}, 1}, {8, []int64{1, 7}, 0}, {10, []int64{8, 2}, 1}, {10, []int64{9, 1}, 1}, {10, []int64{1, 9}, 1}, {10, []int64{6, 4}, 0}, {10, []int64{8, 1, 1}, 1}, {10, []int64{3, 3, 3, 1}, 1},
		{100, []int64{100}, 1}, {100, []int64{96, 4}, 1}, {100, []int64{50, 50}, 0}, {1000, []int64{1000}, 1}, {1000, []int64{999, 1}, 0}, {1000, []int64{1, 999}, 0}, {1000, []int64{992, 8}, 1}, {1000, []int64{512, 256, 128, 64, 32, 8}, 1}, {1000, []int64{512, 256, 128, 64, 32, 4, 4}, 0}, {999, []int64{999}, 0}, {999, []int64{512, 256, 128, 64, 32, 7}, 0}, {512, []int64{512}, 1}, {512, []int64{511, 1}, 0}, {511, []int64{511}, 0},
	} {
		got, code := impl.WhitneyNumber(c.n, spareList(c.list))
		checkNumber(t, fmt.Sprintf("WhitneyNumber(%d, %v)", c.n, c.list), got, code, c.want, impl.ErrNone)
	}
}

// TestLongListsOfWhitneyNumber has lists of 100 and of 101 numbers.
func TestLongListsOfWhitneyNumber(t *testing.T) {
	for n := int64(100); n <= 1000; n += 9 {
		list := append(slices.Repeat([]int64{n / 100}, 99), n-99*(n/100))
		want := int64(1)
		for _, i := range list {
			want *= sure(impl.BinomialParity(n+1, i))
		}
		got, code := impl.WhitneyNumber(n, list)
		checkNumber(t, fmt.Sprintf("100 numbers with the sum %d", n), got, code, want, impl.ErrNone)
		for _, length := range []int64{101, 102, 200} {
			if n >= length {
				ones := append(slices.Repeat([]int64{1}, int(length)-1), n-length+1)
				if zero, code := isZeroNumber(impl.WhitneyNumber(n, ones)); !zero || code != impl.ErrRange {
					t.Errorf("%d numbers with the sum %d: zero value %v, code %d", length, n, zero, code)
				}
			}
		}
	}
	got, code := impl.WhitneyNumber(100, slices.Repeat([]int64{1}, 100))
	checkNumber(t, "1 a hundred times", got, code, 1, impl.ErrNone)
	got, code = impl.WhitneyNumber(1000, slices.Repeat([]int64{10}, 100))
	checkNumber(t, "10 a hundred times", got, code, 0, impl.ErrNone)
	got, code = impl.WhitneyNumber(800, slices.Repeat([]int64{8}, 100))
	checkNumber(t, "8 a hundred times", got, code, 0, impl.ErrNone)
	got, code = impl.WhitneyNumber(192, append(slices.Repeat([]int64{1}, 64), 128))
	checkNumber(t, "1 in 64 places and 128", got, code, 1, impl.ErrNone)
}

// TestListsOfWhitneyNumberOutside has lists with other sums, with 0 and negative numbers, also with the
// sum n, and with sums that come back to n where int64 ends.
func TestListsOfWhitneyNumberOutside(t *testing.T) {
	check := func(n int64, list []int64) {
		t.Helper()
		if zero, code := isZeroNumber(impl.WhitneyNumber(n, list)); !zero || code != impl.ErrRange {
			t.Errorf("WhitneyNumber(%d, %v): zero value %v, code %d", n, list, zero, code)
		}
	}
	for _, n := range []int64{1, 2, 3, 4, 7, 8, 40, 100, 101, 511, 512, 999, 1000} {
		for _, list := range [][]int64{
			nil, {}, {0}, {n, 0}, {0, n}, {n - 1}, {n + 1}, {-n}, {-1}, {n + 1, -1}, {-1, n + 1}, {n, 1}, {n, n}, {n, -n}, {n, n, -n}, {-n, n, n}, {n, 1, -1}, {1, -1, n}, {0, 0, n, 0}, {2 * n, -n}, {n, n - 1},
			{math.MaxInt64}, {math.MinInt64}, {math.MaxInt64, math.MaxInt64, n + 2}, {n + 2, math.MaxInt64, math.MaxInt64}, {math.MinInt64, math.MinInt64, n}, {n, math.MinInt64, math.MinInt64}, {math.MaxInt64, math.MinInt64, n + 1}, {1 << 62, 1 << 62, 1 << 62, 1 << 62, n}, {n, 1 << 62, 1 << 62, 1 << 62, 1 << 62}, {math.MaxInt64, math.MinInt64, 1, n}, {math.MinInt64, math.MaxInt64, 1 + n}, {math.MaxInt64 - n + 1, math.MaxInt64 - n + 1, 3 * n},
			slices.Repeat([]int64{1 << 58}, 64), append(slices.Repeat([]int64{1 << 58}, 64), n), make([]int64, 100), make([]int64, 101), append(make([]int64, 99), n), append(make([]int64, 100), n), slices.Repeat([]int64{1}, 101), slices.Repeat([]int64{n}, 101), make([]int64, 5000),
		} {
			check(n, list)
		}
		for length := range int64(102) {
			if length != n {
				check(n, slices.Repeat([]int64{1}, int(length)))
			}
		}
	}
	for _, n := range append(outside(1000), 0) {
		for _, list := range [][]int64{nil, {0}, {1}, {n}, {n - 1, 1}, {1, n - 1}, {-1, 1}, {500, 501}, {1001}, slices.Repeat([]int64{1}, 100), slices.Repeat([]int64{1}, 101), {-5}} {
			check(n, list)
		}
	}
	// A class that is 0 does not hide what is wrong behind it.
	check(4, []int64{2, 1})
	check(4, []int64{2, 2, 0})
	check(4, []int64{3, 2})
	check(4, []int64{2, -1, 3})
}

// TestImmersionGap has what is missing to the next power of 2 less 1.
func TestImmersionGap(t *testing.T) {
	for n := int64(1); n <= 1000; n++ {
		want := int64(1)<<bits.Len64(uint64(n)) - 1 - n
		gap, code := impl.ImmersionGap(n)
		checkNumber(t, fmt.Sprintf("ImmersionGap(%d)", n), gap, code, want, impl.ErrNone)
		dual := sure(impl.DualClasses(n))
		if dual[gap] != 1 || slices.Contains(dual[gap+1:], 1) {
			t.Errorf("the dual classes of %d do not end at %d", n, gap)
		}
	}
	for n, want := range []int64{1: 0, 2: 1, 3: 0, 4: 3, 5: 2, 6: 1, 7: 0, 8: 7, 9: 6, 10: 5, 15: 0, 16: 15} {
		if n > 0 && (n <= 10 || n >= 15) {
			gap, code := impl.ImmersionGap(int64(n))
			checkNumber(t, fmt.Sprintf("ImmersionGap(%d)", n), gap, code, want, impl.ErrNone)
		}
	}
}

// callsOfChapter10 have a polynomial in three variables, or the first list as forms or as numbers with
// the sum 7, with spare capacity behind it, and return lists.
func callsOfChapter10() map[string]func(lists [][]int64) [][]int64 {
	return map[string]func(lists [][]int64) [][]int64{
		"DicksonOf": func(lists [][]int64) [][]int64 { return sure(impl.DicksonOf(3, 1)).Terms },
		"IsInvariant": func(lists [][]int64) [][]int64 {
			sure(impl.IsInvariant(impl.Poly{Variables: 3, Terms: lists}))
			return nil
		},
		"ClassOfForms":   func(lists [][]int64) [][]int64 { return sure(impl.ClassOfForms(3, lists[0], 2)).Terms },
		"w(0)":           func(lists [][]int64) [][]int64 { return sure(impl.ClassOfForms(3, lists[0], 0)).Terms },
		"WuFormula":      func(lists [][]int64) [][]int64 { return sure(impl.WuFormula(6, 7)) },
		"WhitneyClasses": func(lists [][]int64) [][]int64 { return [][]int64{sure(impl.WhitneyClasses(9))} },
		"DualClasses":    func(lists [][]int64) [][]int64 { return [][]int64{sure(impl.DualClasses(9))} },
		"WuClasses":      func(lists [][]int64) [][]int64 { return [][]int64{sure(impl.WuClasses(9))} },
		"WhitneyNumber":  func(lists [][]int64) [][]int64 { return [][]int64{{sure(impl.WhitneyNumber(7, lists[0]))}} },
		"IsBoundary":     func(lists [][]int64) [][]int64 { sure(impl.IsBoundary(40)); return nil },
		"ImmersionGap":   func(lists [][]int64) [][]int64 { return [][]int64{{sure(impl.ImmersionGap(40))}} },
		"errors": func(lists [][]int64) [][]int64 {
			impl.IsInvariant(impl.Poly{Variables: 2, Terms: lists})
			impl.ClassOfForms(2, lists[0], 1)
			impl.ClassOfForms(3, lists[0], 4)
			impl.ClassOfForms(3, lists[0][:0], 0)
			impl.WhitneyNumber(8, lists[0])
			impl.WhitneyNumber(7, lists[0][:0])
			return nil
		},
	}
}

func TestChapter10KeepsItsArguments(t *testing.T) {
	for name, call := range callsOfChapter10() {
		checkKept(t, name, [][]int64{{1, 1, 5}, {1, 3, 3}, {2, 5, 0}, {4, 2, 1}}, call)
		checkKept(t, name+" of Dickson's invariant", append([][]int64{{1, 2, 4}}, sure(impl.DicksonOf(3, 0)).Terms[1:]...), call)
	}
	checkKept(t, "a form 16 times", [][]int64{slices.Repeat([]int64{7}, 16)}, func(lists [][]int64) [][]int64 {
		return sure(impl.ClassOfForms(3, lists[0], 16)).Terms
	})
	checkKept(t, "100 numbers", [][]int64{slices.Repeat([]int64{2}, 100)}, func(lists [][]int64) [][]int64 {
		return [][]int64{{sure(impl.WhitneyNumber(200, lists[0]))}}
	})
	// The spaces are asked for in another order, and each list is overwritten.
	for _, n := range []int64{1000, 1, 512, 40, 1000, 512, 1, 40} {
		for name, call := range map[string]func(int64) ([]int64, int64){"WhitneyClasses": impl.WhitneyClasses, "DualClasses": impl.DualClasses, "WuClasses": impl.WuClasses} {
			first := sure(call(n))
			want := slices.Clone(first)
			overwrite(77, first)
			got, code := call(n)
			checkList(t, fmt.Sprintf("%s(%d) again", name, n), got, code, want, impl.ErrNone)
		}
	}
}

// classOrZero returns w(i) of a list of forms, also for i beyond their number.
func classOrZero(k int64, forms []int64, i int64) impl.Poly {
	if i > int64(len(forms)) {
		return impl.Poly{Variables: k}
	}
	return sure(impl.ClassOfForms(k, forms, i))
}

// TestClassesFollowWusFormula is promise 10 for lists of forms: a square of a class is the sum of the
// products of the classes that the formula tells.
func TestClassesFollowWusFormula(t *testing.T) {
	for k := int64(1); k <= 4; k++ {
		for _, forms := range formLists(k) {
			var classes []impl.Poly
			for i := range int64(33) {
				classes = append(classes, classOrZero(k, forms, i))
			}
			for j := range int64(len(forms) + 1) {
				for i := range j + 1 {
					if k > 2 && j > 8 && (i+2*j+int64(len(forms)))%7 != 0 {
						continue
					}
					sum := impl.Poly{Variables: k}
					for _, pair := range sure(impl.WuFormula(i, j)) {
						sum = sure(impl.AddPolys(sum, sure(impl.MultiplyPolys(classes[pair[0]], classes[pair[1]]))))
					}
					got, code := impl.SquareOn(classes[j], i)
					checkPoly(t, fmt.Sprintf("Sq^%d of w(%d) of %v", i, j, forms), got, code, sum, impl.ErrNone)
				}
			}
		}
	}
}

// TestClassesOfSpacesFollowWusFormula has n + 1 forms that are one variable, and x^(n + 1) as 0.
func TestClassesOfSpacesFollowWusFormula(t *testing.T) {
	for n := int64(1); n <= 200; n++ {
		w := sure(impl.WhitneyClasses(n))
		for j := range n + 1 {
			for i := range min(j, n-j) + 1 {
				want := int64(0)
				for _, pair := range sure(impl.WuFormula(i, j)) {
					want ^= w[pair[0]] & w[pair[1]]
				}
				// Sq^i of x^j is the number of ways to choose i of j things, times x^(i + j).
				checkNumber(t, fmt.Sprintf("Sq^%d of w(%d) of the space of dimension %d", i, j, n), sure(impl.BinomialParity(j, i))*w[j], 0, want, 0)
			}
		}
	}
	for n := int64(1); n <= 15; n++ {
		for i, class := range sure(impl.WhitneyClasses(n)) {
			want := polyOf(1, [][]int64{{int64(i)}}[:class]...)
			got, code := impl.ClassOfForms(1, slices.Repeat([]int64{1}, int(n)+1), int64(i))
			checkPoly(t, fmt.Sprintf("w(%d) of %d times x", i, n+1), got, code, want, impl.ErrNone)
		}
	}
}

// TestClassesFollowFromWuClasses is promise 10 for projective spaces: w(k) is the sum of all Sq^(k - i)
// of v(i) x^i, and v(i) is what Sq^i makes of the power of x below the greatest one by i.
func TestClassesFollowFromWuClasses(t *testing.T) {
	for n := int64(1); n <= 1000; n++ {
		w, v := sure(impl.WhitneyClasses(n)), sure(impl.WuClasses(n))
		sums := make([]int64, n+1)
		for i, class := range v {
			if class == 0 {
				continue
			}
			for j := range min(int64(i), n-int64(i)) + 1 {
				sums[int64(i)+j] ^= sure(impl.BinomialParity(int64(i), j))
			}
		}
		checkList(t, fmt.Sprintf("the sum of the squares of the Wu classes of %d", n), sums, 0, w, 0)
	}
	for n := int64(1); n <= 40; n++ {
		w, v := sure(impl.WhitneyClasses(n)), sure(impl.WuClasses(n))
		for k := range n + 1 {
			sum := polyOf(1)
			for i := range k + 1 {
				if v[i] == 1 {
					sum = sure(impl.AddPolys(sum, sure(impl.SquareOn(polyOf(1, []int64{i}), k-i))))
				}
			}
			checkNumber(t, fmt.Sprintf("w(%d) of the space of dimension %d", k, n), int64(len(sum.Terms)), 0, w[k], 0)
			square := sure(impl.SquareOn(polyOf(1, []int64{n - k}), k))
			checkNumber(t, fmt.Sprintf("v(%d) of the space of dimension %d", k, n), int64(len(square.Terms)), 0, v[k], 0)
		}
	}
}

// TestDicksonInvariantsAreClasses is promise 27 as far as chapter 10 goes: Dickson's invariants are
// invariant, and the classes of the list of all forms but 0, whose other classes are 0. With the form 0
// the classes are the same.
func TestDicksonInvariantsAreClasses(t *testing.T) {
	for k := int64(1); k <= 4; k++ {
		var forms []int64
		for form := int64(1); form < 1<<k; form++ {
			forms = append(forms, form)
		}
		classes := make([]impl.Poly, 1<<k+1)
		for i := range classes {
			classes[i] = impl.Poly{Variables: k}
		}
		classes[0] = polyOf(k, make([]int64, k))
		for i := range k {
			f := sure(impl.DicksonOf(k, i))
			checkInvariant(t, f, true)
			classes[1<<k-1<<i] = f
		}
		for i, want := range classes[:1<<k] {
			got, code := impl.ClassOfForms(k, forms, int64(i))
			checkPoly(t, fmt.Sprintf("w(%d) of all forms in %d variables but 0", i, k), got, code, want, impl.ErrNone)
		}
		for i, want := range classes {
			got, code := impl.ClassOfForms(k, append(slices.Clone(forms), 0), int64(i))
			checkPoly(t, fmt.Sprintf("w(%d) of all forms in %d variables", i, k), got, code, want, impl.ErrNone)
		}
	}
}

// TestClassesDoNotDependOnTheOrder also tells that the classes of lists in a row are products.
func TestClassesDoNotDependOnTheOrder(t *testing.T) {
	n := numbers(263)
	for range 60 {
		k := 1 + n.below(4)
		forms := n.formList(k, 2+n.below(15))
		turned := slices.Clone(forms)
		slices.Reverse(turned)
		place := 1 + n.below(int64(len(forms))-1)
		for i := range int64(len(forms) + 1) {
			f := sure(impl.ClassOfForms(k, forms, i))
			got, code := impl.ClassOfForms(k, turned, i)
			checkPoly(t, fmt.Sprintf("w(%d) of %v turned around", i, forms), got, code, f, impl.ErrNone)
			sum := impl.Poly{Variables: k}
			for j := range i + 1 {
				product := sure(impl.MultiplyPolys(classOrZero(k, forms[:place], j), classOrZero(k, forms[place:], i-j)))
				sum = sure(impl.AddPolys(sum, product))
			}
			checkPoly(t, fmt.Sprintf("w(%d) of %v and of %v", i, forms[:place], forms[place:]), sum, 0, f, 0)
		}
	}
}
