package tests

import (
	"fmt"
	"math"
	"slices"
	"strings"
	"testing"

	"loop.example/g01154/impl"
)

// elementOf returns an element with spare capacity behind all of its lists.
func elementOf(lists ...[]int64) impl.Milnor {
	return impl.Milnor{Terms: spareLists(lists)}
}

func checkElement(t *testing.T, name string, got impl.Milnor, code int64, want impl.Milnor, wantCode int64) {
	t.Helper()
	if !equalLists(got.Terms, want.Terms) || code != wantCode {
		t.Errorf("%s = %v, %d; want %v, %d", name, got, code, want, wantCode)
	}
}

// elementDegree returns the degree of an element, and 0 for 0.
func elementDegree(a impl.Milnor) int64 {
	degree := int64(0)
	if len(a.Terms) > 0 {
		for i, n := range a.Terms[0] {
			degree += n * (1<<(i+1) - 1)
		}
	}
	return degree
}

// element returns a sum of some basis elements of degree d.
func (n *numbers) element(d int64) impl.Milnor {
	var lists [][]int64
	for _, r := range exponentListsByTrial(d) {
		if n.below(3) == 0 {
			lists = append(lists, r)
		}
	}
	return elementOf(lists...)
}

// goodElements are elements at and within the limits.
func goodElements() []impl.Milnor {
	n := numbers(4)
	good := []impl.Milnor{
		{}, elementOf(), elementOf([]int64{}), {Terms: [][]int64{nil}}, elementOf([]int64{1}), elementOf([]int64{0, 1}, []int64{3}),
		elementOf([]int64{40}), elementOf([]int64{9, 0, 0, 0, 1}), elementOf([]int64{0, 0, 0, 0, 1}), elementOf([]int64{1, 13}), elementOf([]int64{10, 0, 0, 2}), elementOf([]int64{2, 1, 5}),
	}
	for _, d := range []int64{3, 13, 20, 21, 39, 40} {
		good = append(good, elementOf(exponentListsByTrial(d)...), n.element(d), n.element(d))
	}
	return good
}

// badExponents are lists that are no exponent lists of a degree of at most MaxDegree, each for one
// reason.
func badExponents() [][]int64 {
	bad := [][]int64{
		{0}, {0, 0}, {1, 0}, {40, 0}, {0, 1, 0}, make([]int64, 10), make([]int64, 11), {-1}, {-1, 1}, {4, -1}, {6, -1}, {-3, 2}, {1, -1, 1}, {3, 0, 0, 0, -1}, {0, -1, 1},
		{41}, {2, 13}, {40, 0, 0, 0, 1}, {10, 0, 0, 0, 1}, {0, 0, 0, 0, 2}, {0, 0, 0, 0, 0, 1}, {0, 0, 0, 0, 0, 0, 0, 0, 0, 1}, {0, 0, 0, 0, 0, 0, 0, 0, 0, 0, 1}, slices.Repeat([]int64{1}, 21),
		{impl.MaxNumber}, {impl.MaxNumber + 1}, slices.Repeat([]int64{impl.MaxNumber}, 10), slices.Repeat([]int64{impl.MaxNumber + 1}, 11),
	}
	for _, end := range []int64{math.MinInt64, math.MaxInt64, math.MinInt64 + 1, 1 << 32, 1 << 62} {
		bad = append(bad, []int64{end}, []int64{end, end}, []int64{2, end}, []int64{end, 2}, []int64{end, -end}, []int64{end, end, end, end}, []int64{3 - 3*end, end})
	}
	return bad
}

// badElements are no elements, each for one reason.
func badElements() []impl.Milnor {
	bad := []impl.Milnor{
		elementOf([]int64{1}, []int64{2}), elementOf([]int64{}, []int64{1}), elementOf([]int64{0, 1}, []int64{2}), elementOf([]int64{0, 1}, []int64{3}, []int64{4}), elementOf([]int64{0, 0, 1}, []int64{1, 2}, []int64{4}),
		elementOf([]int64{3}, []int64{0, 1}), elementOf([]int64{3}, []int64{3}), elementOf([]int64{}, []int64{}), elementOf([]int64{1, 2}, []int64{7}, []int64{4, 1}), elementOf([]int64{0, 0, 1}, []int64{7}, []int64{7}),
		elementOf([]int64{3}, []int64{3, 0}), elementOf([]int64{0, 1, 0}, []int64{3}), elementOf([]int64{0, 1}, []int64{6, -1}), elementOf([]int64{-3, 2}, []int64{3}), elementOf([]int64{11, 10}, []int64{41}),
		elementOf([]int64{2, 13}, []int64{41}), elementOf([]int64{0, 1}, []int64{3}, []int64{math.MaxInt64}), elementOf([]int64{math.MinInt64}, []int64{3}),
		{Terms: countedTerms(2000, 0, 1)}, {Terms: countedTerms(2001, 0, 1)}, {Terms: countedTerms(2000, -1000, 1)}, {Terms: slices.Repeat([][]int64{{3}}, 2000)}, {Terms: slices.Repeat([][]int64{{3}}, 2001)},
		{Terms: append(exponentListsByTrial(40), []int64{41})}, {Terms: append(exponentListsByTrial(40), []int64{40, 0})}, {Terms: exponentListsByTrial(41)},
	}
	for _, r := range badExponents() {
		bad = append(bad, elementOf(r))
	}
	return bad
}

func TestIsMilnor(t *testing.T) {
	for _, a := range goodElements() {
		if !impl.IsMilnor(a) {
			t.Errorf("IsMilnor(%v) is false", a)
		}
	}
	for _, a := range badElements() {
		if impl.IsMilnor(a) {
			t.Errorf("IsMilnor(%v) is true", a)
		}
	}
}

func TestAddMilnor(t *testing.T) {
	for _, a := range goodElements() {
		for _, b := range goodElements() {
			want, wantCode := impl.Milnor{}, int64(impl.ErrRange)
			if len(a.Terms) == 0 || len(b.Terms) == 0 || elementDegree(a) == elementDegree(b) {
				want, wantCode = impl.Milnor{Terms: sumByTrial(a.Terms, b.Terms)}, impl.ErrNone
			}
			got, code := impl.AddMilnor(a, b)
			checkElement(t, fmt.Sprintf("AddMilnor(%v, %v)", a, b), got, code, want, wantCode)
		}
		zero, code := impl.AddMilnor(a, a)
		checkElement(t, "a + a", zero, code, impl.Milnor{}, impl.ErrNone)
		same, code := impl.AddMilnor(a, impl.Milnor{})
		checkElement(t, "a + 0", same, code, a, impl.ErrNone)
		same, code = impl.AddMilnor(elementOf(), a)
		checkElement(t, "0 + a", same, code, a, impl.ErrNone)
	}
	_, code := impl.AddMilnor(elementOf([]int64{}), elementOf([]int64{1}))
	checkNumber(t, "1 + Sq(1)", 0, code, 0, impl.ErrRange)
}

// dualPair is a product of a left and a right monomial of the dual algebra.
type dualPair struct{ left, right milnorTerm }

func pairOf(r, s []int64) dualPair {
	var pair dualPair
	copy(pair.left[:], r)
	copy(pair.right[:], s)
	return pair
}

// pairSum holds the pairs whose coefficient is 1.
type pairSum map[dualPair]bool

// times multiplies a sum with the coproduct of a power of x(i) whose exponent is a power of 2.
func (sum pairSum) times(i int, power int64) pairSum {
	product := pairSum{}
	for pair := range sum {
		for j := range i + 1 {
			next := pair
			if j < i {
				next.left[i-j-1] += power << j
			}
			if j > 0 {
				next.right[j-1] += power
			}
			if product[next] {
				delete(product, next)
			} else {
				product[next] = true
			}
		}
	}
	return product
}

func coproductOf(exponents []int64) pairSum {
	sum := pairSum{{}: true}
	for i, n := range exponents {
		for power := int64(1); power <= n; power *= 2 {
			if n&power != 0 {
				sum = sum.times(i+1, power)
			}
		}
	}
	return sum
}

// productsByCoproducts returns the Terms of all products of two basis elements whose degrees have
// the sum d: Sq(t) is one of them exactly if the pair is in the coproduct of the monomial with the
// exponents t. It knows nothing of tables.
func productsByCoproducts(d int64) map[dualPair][][]int64 {
	products := map[dualPair][][]int64{}
	for _, exponents := range exponentListsByTrial(d) {
		for pair := range coproductOf(exponents) {
			products[pair] = append(products[pair], exponents)
		}
	}
	return products
}

func TestProductsOfBasisElements(t *testing.T) {
	for d := range int64(41) {
		products := productsByCoproducts(d)
		for c := range d + 1 {
			for _, r := range exponentListsByTrial(c) {
				for _, s := range exponentListsByTrial(d - c) {
					got, code := impl.MultiplyMilnor(impl.Milnor{Terms: [][]int64{r}}, impl.Milnor{Terms: [][]int64{s}})
					if !equalLists(got.Terms, products[pairOf(r, s)]) || code != impl.ErrNone {
						t.Fatalf("Sq%v times Sq%v = %v, %d; want %v", r, s, got, code, products[pairOf(r, s)])
					}
				}
			}
		}
	}
}

// productByTerms adds the products of all Terms of both.
func productByTerms(a, b impl.Milnor) impl.Milnor {
	products := productsByCoproducts(elementDegree(a) + elementDegree(b))
	var sum [][]int64
	for _, r := range a.Terms {
		for _, s := range b.Terms {
			sum = sumByTrial(sum, products[pairOf(r, s)])
		}
	}
	return impl.Milnor{Terms: sum}
}

func TestMultiplyMilnor(t *testing.T) {
	n := numbers(17)
	for range 60 {
		c := n.below(41)
		a, b := n.element(c), n.element(n.below(41-c))
		got, code := impl.MultiplyMilnor(a, b)
		checkElement(t, fmt.Sprintf("MultiplyMilnor(%v, %v)", a, b), got, code, productByTerms(a, b), impl.ErrNone)
		if !impl.IsMilnor(got) {
			t.Errorf("%v is no element", got)
		}
		checkSeparate(t, "MultiplyMilnor", got.Terms)
	}
	one := elementOf([]int64{})
	for _, a := range goodElements() {
		for _, zero := range []impl.Milnor{{}, elementOf()} {
			got, code := impl.MultiplyMilnor(a, zero)
			checkElement(t, "a times 0", got, code, zero, impl.ErrNone)
			got, code = impl.MultiplyMilnor(zero, a)
			checkElement(t, "0 times a", got, code, zero, impl.ErrNone)
		}
		got, code := impl.MultiplyMilnor(a, one)
		checkElement(t, "a times 1", got, code, a, impl.ErrNone)
		got, code = impl.MultiplyMilnor(one, a)
		checkElement(t, "1 times a", got, code, a, impl.ErrNone)
	}
}

// TestProductsByHand has the products of chapter 4, and some whose tables were written down.
func TestProductsByHand(t *testing.T) {
	for _, c := range []struct{ a, b, want string }{
		{"(2)", "(2)", "(1,1)"}, {"(1)", "(1)", "0"}, {"(1)", "(2)", "(3)"}, {"(2)", "(1)", "(0,1)+(3)"}, {"()", "()", "()"}, {"(4)", "(4)", "(2,2)"},
		{"(8)", "(1)", "(6,1)+(9)"}, {"(4)", "(2,1)", "(0,3)+(2,0,1)+(6,1)"}, {"(0,1)", "(0,1)", "0"}, {"(0,2)", "(0,2)", "0"}, {"(0,0,1)", "(0,0,1)", "0"},
		{"(0,0,0,0,1)", "(9)", "(9,0,0,0,1)"}, {"(9)", "(0,0,0,0,1)", "(9,0,0,0,1)"}, {"(0,1)+(3)", "(1)", "0"}, {"(0,1)+(3)", "(0,1)+(3)", "(3,1)"}, {"(3)", "(1)", "(1,1)"},
	} {
		a, b := sure(impl.ParseMilnor(c.a)), sure(impl.ParseMilnor(c.b))
		got, code := impl.MultiplyMilnor(a, b)
		checkElement(t, c.a+" times "+c.b, got, code, sure(impl.ParseMilnor(c.want)), impl.ErrNone)
	}
}

// TestProductsFollowAdem tells that squares have Adem's relations.
func TestProductsFollowAdem(t *testing.T) {
	square := func(n int64) impl.Milnor {
		if n == 0 {
			return elementOf([]int64{})
		}
		return elementOf([]int64{n})
	}
	triangle := pascalParities(42)
	for a := int64(1); a < 40; a++ {
		for b := a/2 + 1; a+b <= 40; b++ {
			want := impl.Milnor{}
			for j := int64(0); j <= a/2; j++ {
				if triangle[b-j-1][a-2*j] == 1 {
					want = sure(impl.AddMilnor(want, sure(impl.MultiplyMilnor(square(a+b-j), square(j)))))
				}
			}
			got, code := impl.MultiplyMilnor(square(a), square(b))
			checkElement(t, fmt.Sprintf("Sq(%d) times Sq(%d)", a, b), got, code, want, impl.ErrNone)
		}
	}
}

// checkAssociative compares both ways to multiply three elements.
func checkAssociative(t *testing.T, a, b, c impl.Milnor) {
	t.Helper()
	left := sure(impl.MultiplyMilnor(sure(impl.MultiplyMilnor(a, b)), c))
	right := sure(impl.MultiplyMilnor(a, sure(impl.MultiplyMilnor(b, c))))
	if !equalLists(left.Terms, right.Terms) {
		t.Errorf("products of %v, %v and %v: %v and %v", a, b, c, left, right)
	}
}

func TestProductsOfMilnorAreAssociative(t *testing.T) {
	var small []impl.Milnor
	for d := range int64(11) {
		small = append(small, sure(impl.MilnorBasis(d))...)
	}
	for _, a := range small {
		for _, b := range small {
			for _, c := range small {
				if elementDegree(a)+elementDegree(b)+elementDegree(c) <= 20 {
					checkAssociative(t, a, b, c)
				}
			}
		}
	}
	n := numbers(19)
	for range 400 {
		first := n.below(41)
		second := n.below(41 - first)
		checkAssociative(t, n.element(first), n.element(second), n.element(40-first-second))
	}
}

func TestProductsOfMilnorAreDistributive(t *testing.T) {
	n := numbers(23)
	for range 300 {
		d := n.below(41)
		a, b, c := n.element(d), n.element(d), n.element(n.below(41-d))
		sum := sure(impl.AddMilnor(a, b))
		want := sure(impl.AddMilnor(sure(impl.MultiplyMilnor(a, c)), sure(impl.MultiplyMilnor(b, c))))
		got, code := impl.MultiplyMilnor(sum, c)
		checkElement(t, "a sum times c", got, code, want, impl.ErrNone)
		want = sure(impl.AddMilnor(sure(impl.MultiplyMilnor(c, a)), sure(impl.MultiplyMilnor(c, b))))
		got, code = impl.MultiplyMilnor(c, sum)
		checkElement(t, "c times a sum", got, code, want, impl.ErrNone)
	}
}

func TestCommutatorOf(t *testing.T) {
	n := numbers(29)
	for range 40 {
		c := n.below(41)
		a, b := n.element(c), n.element(n.below(41-c))
		want := impl.Milnor{Terms: sumByTrial(productByTerms(a, b).Terms, productByTerms(b, a).Terms)}
		got, code := impl.CommutatorOf(a, b)
		checkElement(t, fmt.Sprintf("CommutatorOf(%v, %v)", a, b), got, code, want, impl.ErrNone)
		got, code = impl.CommutatorOf(b, a)
		checkElement(t, fmt.Sprintf("CommutatorOf(%v, %v)", b, a), got, code, want, impl.ErrNone)
	}
	got, code := impl.CommutatorOf(elementOf([]int64{1}), elementOf([]int64{2}))
	checkElement(t, "CommutatorOf Sq(1) and Sq(2)", got, code, elementOf([]int64{0, 1}), impl.ErrNone)
	for _, a := range goodElements() {
		for _, other := range []impl.Milnor{{}, elementOf([]int64{})} {
			got, code := impl.CommutatorOf(a, other)
			checkElement(t, "CommutatorOf a and 0 or 1", got, code, impl.Milnor{}, impl.ErrNone)
			got, code = impl.CommutatorOf(other, a)
			checkElement(t, "CommutatorOf 0 or 1 and a", got, code, impl.Milnor{}, impl.ErrNone)
		}
		if elementDegree(a) <= 20 {
			got, code := impl.CommutatorOf(a, a)
			checkElement(t, "CommutatorOf a and a", got, code, impl.Milnor{}, impl.ErrNone)
		}
	}
}

// TestProductsAtLimit tries all pairs of degrees whose sum is MaxDegree, or greater by one.
func TestProductsAtLimit(t *testing.T) {
	for c := range int64(41) {
		for d := 40 - c; d <= min(41-c, 40); d++ {
			a, b := impl.Milnor{Terms: exponentListsByTrial(c)}, impl.Milnor{Terms: exponentListsByTrial(d)}
			want, wantCode := impl.Milnor{}, int64(impl.ErrLimit)
			commutator := impl.Milnor{}
			if c+d == 40 {
				want, wantCode = productByTerms(a, b), impl.ErrNone
				commutator.Terms = sumByTrial(want.Terms, productByTerms(b, a).Terms)
			}
			got, code := impl.MultiplyMilnor(a, b)
			checkElement(t, fmt.Sprintf("MultiplyMilnor of the degrees %d and %d", c, d), got, code, want, wantCode)
			got, code = impl.CommutatorOf(a, b)
			checkElement(t, fmt.Sprintf("CommutatorOf of the degrees %d and %d", c, d), got, code, commutator, wantCode)
		}
	}
	most := elementOf([]int64{40})
	_, code := impl.MultiplyMilnor(most, most)
	checkNumber(t, "Sq(40) times itself", 0, code, 0, impl.ErrLimit)
	_, code = impl.CommutatorOf(most, most)
	checkNumber(t, "the commutator of Sq(40) and itself", 0, code, 0, impl.ErrLimit)
}

func TestPowerOfMilnor(t *testing.T) {
	n := numbers(31)
	elements := append(goodElements(), elementOf([]int64{2}), elementOf([]int64{4}), elementOf([]int64{3}), elementOf([]int64{6}), elementOf([]int64{2, 1}, []int64{5}))
	for d := range int64(14) {
		elements = append(elements, n.element(d), n.element(d), elementOf(exponentListsByTrial(d)...))
	}
	for _, a := range elements {
		want := elementOf([]int64{})
		for k := range int64(41) {
			if k > 0 && len(want.Terms) > 0 {
				want = productByFactors(want, a)
			}
			got, code := impl.PowerOfMilnor(a, k)
			name := fmt.Sprintf("PowerOfMilnor(%v, %d)", a, k)
			if k*elementDegree(a) > 40 {
				checkElement(t, name, got, code, impl.Milnor{}, impl.ErrLimit)
				continue
			}
			checkElement(t, name, got, code, want, impl.ErrNone)
		}
		for _, k := range outside(40) {
			got, code := impl.PowerOfMilnor(a, k)
			checkElement(t, fmt.Sprintf("PowerOfMilnor(%v, %d)", a, k), got, code, impl.Milnor{}, impl.ErrRange)
		}
	}
}

// productByFactors returns the product, and 0 where its degree is too great to be told.
func productByFactors(a, b impl.Milnor) impl.Milnor {
	if elementDegree(a)+elementDegree(b) > 40 {
		return impl.Milnor{}
	}
	return sure(impl.MultiplyMilnor(a, b))
}

func TestPowersByHand(t *testing.T) {
	for _, c := range []struct {
		a    string
		k    int64
		want string
		code int64
	}{
		{"0", 0, "()", impl.ErrNone}, {"0", 1, "0", impl.ErrNone}, {"0", 40, "0", impl.ErrNone}, {"0", 41, "0", impl.ErrRange}, {"0", -1, "0", impl.ErrRange},
		{"()", 0, "()", impl.ErrNone}, {"()", 1, "()", impl.ErrNone}, {"()", 40, "()", impl.ErrNone}, {"()", 41, "0", impl.ErrRange}, {"()", -1, "0", impl.ErrRange},
		{"(2)", 0, "()", impl.ErrNone}, {"(2)", 1, "(2)", impl.ErrNone}, {"(2)", 2, "(1,1)", impl.ErrNone}, {"(2)", 3, "(3,1)", impl.ErrNone}, {"(2)", 4, "0", impl.ErrNone}, {"(2)", 20, "0", impl.ErrNone}, {"(2)", 21, "0", impl.ErrLimit}, {"(2)", 40, "0", impl.ErrLimit}, {"(2)", 41, "0", impl.ErrRange},
		{"(1)", 2, "0", impl.ErrNone}, {"(1)", 40, "0", impl.ErrNone}, {"(1)", 41, "0", impl.ErrRange}, {"(40)", 0, "()", impl.ErrNone}, {"(40)", 1, "(40)", impl.ErrNone}, {"(40)", 2, "0", impl.ErrLimit}, {"(0,1)+(3)", 13, "0", impl.ErrNone}, {"(0,1)+(3)", 14, "0", impl.ErrLimit},
	} {
		got, code := impl.PowerOfMilnor(sure(impl.ParseMilnor(c.a)), c.k)
		checkElement(t, fmt.Sprintf("%s to the power %d", c.a, c.k), got, code, sure(impl.ParseMilnor(c.want)), c.code)
	}
}

// checkSeparateElements puts a list of its own in all places of each of the Terms in turn, and fails
// if those of another element change.
func checkSeparateElements(t *testing.T, name string, elements []impl.Milnor) {
	t.Helper()
	for i, a := range elements {
		whole := a.Terms[:cap(a.Terms)]
		for j := range whole {
			whole[j] = []int64{int64(i)}
		}
	}
	for i, a := range elements {
		for _, term := range a.Terms[:cap(a.Terms)] {
			if term[0] != int64(i) {
				t.Fatalf("%s: element %d shares memory with another one", name, i)
			}
		}
	}
}

func TestMilnorBasis(t *testing.T) {
	for d := range int64(41) {
		name := fmt.Sprintf("MilnorBasis(%d)", d)
		basis, code := impl.MilnorBasis(d)
		var lists [][]int64
		for _, a := range basis {
			if len(a.Terms) != 1 || !impl.IsMilnor(a) {
				t.Fatalf("%s has the element %v", name, a)
			}
			lists = append(lists, a.Terms[0])
		}
		checkLists(t, name, lists, code, exponentListsByTrial(d), impl.ErrNone)
		checkSeparate(t, name, lists)
		checkSeparateElements(t, name, basis)
	}
	for _, d := range outside(40) {
		basis, code := impl.MilnorBasis(d)
		checkNumber(t, fmt.Sprintf("the length of MilnorBasis(%d)", d), int64(len(basis)), code, 0, impl.ErrRange)
	}
}

func TestDegreeOfMilnor(t *testing.T) {
	for d := range int64(41) {
		for _, a := range append(sure(impl.MilnorBasis(d)), elementOf(exponentListsByTrial(d)...)) {
			degree, code := impl.DegreeOfMilnor(a)
			checkNumber(t, fmt.Sprintf("DegreeOfMilnor(%v)", a), degree, code, d, impl.ErrNone)
		}
	}
	for _, zero := range []impl.Milnor{{}, elementOf()} {
		degree, code := impl.DegreeOfMilnor(zero)
		checkNumber(t, "DegreeOfMilnor of 0", degree, code, 0, impl.ErrState)
	}
}

// coordinatesByTrial looks for each exponent list of degree d among the Terms.
func coordinatesByTrial(a impl.Milnor, d int64) []int64 {
	var list []int64
	for _, r := range exponentListsByTrial(d) {
		bit := int64(0)
		for _, term := range a.Terms {
			if slices.Equal(term, r) {
				bit = 1
			}
		}
		list = append(list, bit)
	}
	return list
}

func TestCoordinates(t *testing.T) {
	n := numbers(37)
	for d := range int64(41) {
		elements := append(sure(impl.MilnorBasis(d)), impl.Milnor{}, n.element(d), n.element(d), elementOf(exponentListsByTrial(d)...))
		for _, a := range elements {
			want := coordinatesByTrial(a, d)
			list, code := impl.CoordinatesOf(a, d)
			if !slices.Equal(list, want) || code != impl.ErrNone {
				t.Errorf("CoordinatesOf(%v, %d) = %v, %d; want %v", a, d, list, code, want)
			}
			back, code := impl.MilnorOfCoordinates(d, spareList(want))
			checkElement(t, fmt.Sprintf("MilnorOfCoordinates(%d, %v)", d, want), back, code, a, impl.ErrNone)
			checkSeparate(t, "MilnorOfCoordinates", back.Terms)
		}
	}
}

func TestCoordinatesOutside(t *testing.T) {
	for _, a := range goodElements() {
		for d := range int64(41) {
			if len(a.Terms) > 0 && d != elementDegree(a) {
				list, code := impl.CoordinatesOf(a, d)
				checkNumber(t, fmt.Sprintf("the length of CoordinatesOf(%v, %d)", a, d), int64(len(list)), code, 0, impl.ErrRange)
			}
		}
		for _, d := range outside(40) {
			list, code := impl.CoordinatesOf(a, d)
			checkNumber(t, fmt.Sprintf("the length of CoordinatesOf(%v, %d)", a, d), int64(len(list)), code, 0, impl.ErrRange)
		}
	}
	for d := range int64(41) {
		size := len(exponentListsByTrial(d))
		bad := [][]int64{make([]int64, size-1), make([]int64, size+1), slices.Repeat([]int64{1}, size+1), make([]int64, 1000), make([]int64, 200000)}
		for _, n := range append(outside(1), 2, 3) {
			for _, place := range []int{0, size / 2, size - 1} {
				list := make([]int64, size)
				list[place] = n
				bad = append(bad, list)
			}
		}
		for _, list := range bad {
			got, code := impl.MilnorOfCoordinates(d, list)
			checkElement(t, fmt.Sprintf("MilnorOfCoordinates(%d, a list of %d)", d, len(list)), got, code, impl.Milnor{}, impl.ErrRange)
		}
	}
	for _, d := range outside(40) {
		for _, list := range [][]int64{nil, {0}, {1}, {0, 0}, make([]int64, 82)} {
			got, code := impl.MilnorOfCoordinates(d, list)
			checkElement(t, fmt.Sprintf("MilnorOfCoordinates(%d, %v)", d, list), got, code, impl.Milnor{}, impl.ErrRange)
		}
	}
}

// textOfElement writes the text of an element.
func textOfElement(a impl.Milnor) string {
	if len(a.Terms) == 0 {
		return "0"
	}
	text := ""
	for i, r := range a.Terms {
		if i > 0 {
			text += "+"
		}
		text += "("
		for j, n := range r {
			if j > 0 {
				text += ","
			}
			text += fmt.Sprint(n)
		}
		text += ")"
	}
	return text
}

func TestTextsOfElements(t *testing.T) {
	elements := goodElements()
	for d := range int64(41) {
		elements = append(elements, sure(impl.MilnorBasis(d))...)
	}
	for _, a := range elements {
		text, code := impl.MilnorText(a)
		if text != textOfElement(a) || code != impl.ErrNone {
			t.Errorf("MilnorText(%v) = %q, %d", a, text, code)
		}
		read, code := impl.ParseMilnor(text)
		checkElement(t, fmt.Sprintf("ParseMilnor(%q)", text), read, code, a, impl.ErrNone)
		checkSeparate(t, "ParseMilnor", read.Terms)
	}
	for text, want := range map[string]impl.Milnor{
		"0": {}, "()": elementOf([]int64{}), "(40)": elementOf([]int64{40}), "(0,1)+(3)": elementOf([]int64{0, 1}, []int64{3}), "(9,0,0,0,1)": elementOf([]int64{9, 0, 0, 0, 1}), "(1,3)+(10)": elementOf([]int64{1, 3}, []int64{10}),
	} {
		read, code := impl.ParseMilnor(text)
		checkElement(t, fmt.Sprintf("ParseMilnor(%q)", text), read, code, want, impl.ErrNone)
		got, code := impl.MilnorText(want)
		if got != text || code != impl.ErrNone {
			t.Errorf("MilnorText(%v) = %q, %d", want, got, code)
		}
	}
}

// noElements are texts that no element has.
func noElements() []string {
	return []string{
		"", " ", "+", "1", "3", "-", "00", "-0", "+0", "0 ", " 0", "0\n", "0+0", "0+", "+0", "(", ")", ")(", "(()", "())", "(())", "((3))", "[3]", "{3}", "3)", "(3", "3,1", "()()", "(3)(3)", "(3);(3)", "(3)-(3)", "Sq(3)", "Sq3", "x1",
		"( )", " ()", "() ", "(\n)", "(3 )", "( 3)", " (3)", "(3) ", "(0, 1)", "(0 ,1)", "(0 1)", "(0;1)", "(0.1)", "(3)\n", "\n(3)", "(3)\x00", "(3\x00)", "(\xff)", "(\t3)", "(0,1) +(3)", "(0,1)+ (3)", "(0,1) + (3)",
		"(03)", "(003)", "(00,1)", "(0,01)", "(+3)", "(-3)", "(-0,1)", "(+0,1)", "(3.0)", "(3e0)", "(0x3)", "(0b1)", "(0o3)", "(1_0)", "(\u0663)", "(\uff13)", "(a)", "(3a)",
		"(,)", "(,1)", "(1,)", "(0,,1)", "(,0,1)", "(0,1,)", "(,,)", "(0)", "(0,0)", "(3,0)", "(0,1,0)", "(0,0,0,0,0)", "(0,0,0,0,0,0,0,0,0,0,0)",
		"(3)+", "+(3)", "(0,1)++(3)", "(0,1)+0", "0+(3)", "(0,1)+", "(3)+(0,1)", "(3)+(3)", "()+()", "(0,1)+(0,1)", "(0,1)+(3)+(3)", "(10)+(1,3)", "(1)+(2)", "()+(1)", "(0,1)+(2)", "(0,1)+(4)", "(0,1)+(3)+(4)", "(0,1)+(3,0)",
		"(41)", "(2,13)", "(10,0,0,0,1)", "(0,0,0,0,0,1)", "(0,0,0,0,0,0,0,0,0,0,1)", "(4,-1)+(3)", "(6,-1)", "(1000000000000)", "(1000000000001)", "(9223372036854775807)", "(9223372036854775808)", "(-9223372036854775808)", "(18446744073709551617)", "(18446744073709551619)", "(9223372036854775807,9223372036854775807)",
		"(" + strings.Repeat("9", 5000) + ")", "(" + strings.Repeat("0", 5000) + "3)", "(" + strings.Repeat("0,", 100000) + "1)", strings.Repeat("(", 100000), strings.Repeat("()", 100000), strings.Repeat("+", 100000), strings.Repeat("(3)+", 100000) + "(3)",
		textOfElement(impl.Milnor{Terms: countedTerms(2001, 1, 1)}), textOfElement(impl.Milnor{Terms: exponentListsByTrial(41)}),
	}
}

func TestTextsOfNoElements(t *testing.T) {
	for _, text := range noElements() {
		got, code := impl.ParseMilnor(text)
		if len(got.Terms) > 0 || code != impl.ErrSyntax {
			t.Errorf("ParseMilnor(%.60q) = %v, %d", text, got, code)
		}
	}
}

// TestTextsWithOneByteChanged takes a byte away from texts, changes it or puts one before it. What
// is read has the text that was given.
func TestTextsWithOneByteChanged(t *testing.T) {
	for _, text := range []string{"0", "()", "(3)", "(0,1)+(3)", "(1,3)+(10)", "(0,0,1)+(1,2)+(4,1)+(7)", "(9,0,0,0,1)"} {
		for i := range text {
			tries := []string{text[:i] + text[i+1:]}
			for _, b := range []byte("0123456789(),+- x\n\x00") {
				tries = append(tries, text[:i]+string(rune(b))+text[i+1:], text[:i]+string(rune(b))+text[i:])
			}
			for _, try := range tries {
				a, code := impl.ParseMilnor(try)
				if code == impl.ErrNone && (!impl.IsMilnor(a) || textOfElement(a) != try) || code != impl.ErrNone && (code != impl.ErrSyntax || len(a.Terms) > 0) {
					t.Errorf("ParseMilnor(%q) = %v, %d", try, a, code)
				}
			}
		}
	}
}

// elementCall is a call with one or two elements: whether its result is the zero value, and its
// code.
type elementCall func(a, b impl.Milnor) (bool, int64)

func isZeroElement(a impl.Milnor, code int64) (bool, int64) { return len(a.Terms) == 0, code }

func isZeroList(list []int64, code int64) (bool, int64) { return len(list) == 0, code }

func callsWithTwoElements() map[string]elementCall {
	return map[string]elementCall{
		"AddMilnor":      func(a, b impl.Milnor) (bool, int64) { return isZeroElement(impl.AddMilnor(a, b)) },
		"MultiplyMilnor": func(a, b impl.Milnor) (bool, int64) { return isZeroElement(impl.MultiplyMilnor(a, b)) },
		"CommutatorOf":   func(a, b impl.Milnor) (bool, int64) { return isZeroElement(impl.CommutatorOf(a, b)) },
	}
}

// callsWithOneElement have numbers in and out of range, and great powers as well.
func callsWithOneElement() map[string]elementCall {
	calls := map[string]elementCall{
		"DegreeOfMilnor": func(a, b impl.Milnor) (bool, int64) { return isZeroNumber(impl.DegreeOfMilnor(a)) },
		"MilnorText": func(a, b impl.Milnor) (bool, int64) {
			text, code := impl.MilnorText(a)
			return text == "", code
		},
	}
	for _, n := range append(outside(40), 0, 1, 2, 3, 40) {
		calls[fmt.Sprintf("PowerOfMilnor %d", n)] = func(a, b impl.Milnor) (bool, int64) { return isZeroElement(impl.PowerOfMilnor(a, n)) }
		calls[fmt.Sprintf("CoordinatesOf %d", n)] = func(a, b impl.Milnor) (bool, int64) { return isZeroList(impl.CoordinatesOf(a, n)) }
	}
	return calls
}

// TestErrorsOfBadElements tells that ErrInvalid comes before the errors of numbers and of degrees.
func TestErrorsOfBadElements(t *testing.T) {
	check := func(name string, call elementCall, a, b impl.Milnor) {
		t.Helper()
		if zero, code := call(a, b); !zero || code != impl.ErrInvalid {
			t.Errorf("%s of %.40v, %.40v: zero value %v, code %d", name, a, b, zero, code)
		}
	}
	for _, bad := range badElements() {
		for name, call := range callsWithOneElement() {
			check(name, call, bad, bad)
		}
		for name, call := range callsWithTwoElements() {
			for _, other := range []impl.Milnor{{}, elementOf([]int64{}), elementOf([]int64{7}), elementOf([]int64{40}), bad} {
				check(name, call, bad, other)
				check(name, call, other, bad)
			}
		}
	}
}

func TestErrorsOfDegrees(t *testing.T) {
	great, other := elementOf([]int64{40}), elementOf([]int64{20})
	for name, want := range map[string]int64{"AddMilnor": impl.ErrRange, "MultiplyMilnor": impl.ErrLimit, "CommutatorOf": impl.ErrLimit} {
		for _, pair := range [][2]impl.Milnor{{great, other}, {other, great}} {
			if zero, code := callsWithTwoElements()[name](pair[0], pair[1]); !zero || code != want {
				t.Errorf("%s of %v: zero value %v, code %d", name, pair, zero, code)
			}
		}
	}
	// A power is refused because of its number before it is because of its degree.
	for _, k := range outside(40) {
		got, code := impl.PowerOfMilnor(great, k)
		checkElement(t, fmt.Sprintf("Sq(40) to the power %d", k), got, code, impl.Milnor{}, impl.ErrRange)
	}
}

// TestMilnorKeepsArguments also tells that no result shares memory with an argument.
func TestMilnorKeepsArguments(t *testing.T) {
	functions := map[string]func(a, b impl.Milnor) [][]int64{
		"IsMilnor":         func(a, b impl.Milnor) [][]int64 { impl.IsMilnor(a); return nil },
		"AddMilnor":        func(a, b impl.Milnor) [][]int64 { return sure(impl.AddMilnor(a, b)).Terms },
		"a + 0":            func(a, b impl.Milnor) [][]int64 { return sure(impl.AddMilnor(a, impl.Milnor{})).Terms },
		"0 + b":            func(a, b impl.Milnor) [][]int64 { return sure(impl.AddMilnor(impl.Milnor{}, b)).Terms },
		"MultiplyMilnor":   func(a, b impl.Milnor) [][]int64 { return sure(impl.MultiplyMilnor(a, b)).Terms },
		"1 times b":        func(a, b impl.Milnor) [][]int64 { return sure(impl.MultiplyMilnor(elementOf([]int64{}), b)).Terms },
		"a times 1":        func(a, b impl.Milnor) [][]int64 { return sure(impl.MultiplyMilnor(a, elementOf([]int64{}))).Terms },
		"CommutatorOf":     func(a, b impl.Milnor) [][]int64 { return sure(impl.CommutatorOf(a, b)).Terms },
		"a to the power 1": func(a, b impl.Milnor) [][]int64 { return sure(impl.PowerOfMilnor(a, 1)).Terms },
		"b to the power 3": func(a, b impl.Milnor) [][]int64 { return sure(impl.PowerOfMilnor(b, 3)).Terms },
		"DegreeOfMilnor":   func(a, b impl.Milnor) [][]int64 { sure(impl.DegreeOfMilnor(a)); return nil },
		"CoordinatesOf":    func(a, b impl.Milnor) [][]int64 { return [][]int64{sure(impl.CoordinatesOf(a, 10))} },
		"MilnorText":       func(a, b impl.Milnor) [][]int64 { sure(impl.MilnorText(a)); return nil },
		"errors": func(a, b impl.Milnor) [][]int64 {
			impl.AddMilnor(a, elementOf([]int64{1}))
			impl.PowerOfMilnor(a, 9)
			return nil
		},
		"there and back":      func(a, b impl.Milnor) [][]int64 { return sure(impl.ParseMilnor(sure(impl.MilnorText(a)))).Terms },
		"a basis of elements": func(a, b impl.Milnor) [][]int64 { return sure(impl.MilnorBasis(10))[2].Terms },
	}
	newPair := func() (impl.Milnor, impl.Milnor) {
		return elementOf([]int64{0, 1, 1}, []int64{1, 3}, []int64{3, 0, 1}, []int64{10}), elementOf([]int64{1, 3}, []int64{4, 2}, []int64{7, 1})
	}
	for name, call := range functions {
		a, b := newPair()
		wholeA, wholeB := wholeLists(a.Terms), wholeLists(b.Terms)
		result := call(a, b)
		before, want := wholeLists(result), copiedLists(result)
		if !equalLists(wholeLists(a.Terms), wholeA) || !equalLists(wholeLists(b.Terms), wholeB) {
			t.Errorf("%s changes an argument", name)
		}
		overwrite(99, a.Terms[:cap(a.Terms)]...)
		overwrite(98, b.Terms[:cap(b.Terms)]...)
		clear(a.Terms[:cap(a.Terms)])
		clear(b.Terms[:cap(b.Terms)])
		if !equalLists(wholeLists(result), before) {
			t.Errorf("%s shares memory with an argument", name)
		}
		checkSeparate(t, name, result)
		if again := call(newPair()); !equalLists(again, want) {
			t.Errorf("%s keeps state", name)
		}
	}
}

func TestCoordinatesKeepTheirList(t *testing.T) {
	list := spareList([]int64{1, 0, 1, 1, 0, 1})
	whole := wholeList(list)
	a := sure(impl.MilnorOfCoordinates(10, list))
	want := copiedLists(a.Terms)
	if !slices.Equal(wholeList(list), whole) {
		t.Errorf("MilnorOfCoordinates changes its list")
	}
	overwrite(guard, list)
	if !equalLists(a.Terms, want) {
		t.Errorf("MilnorOfCoordinates shares memory with its list")
	}
	impl.MilnorOfCoordinates(11, spareList(whole))
	impl.MilnorOfCoordinates(10, list)
	if !slices.Equal(wholeList(list), slices.Repeat([]int64{guard}, cap(list))) {
		t.Errorf("MilnorOfCoordinates changes a list that it refuses")
	}
}
