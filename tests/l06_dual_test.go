package tests

import (
	"cmp"
	"fmt"
	"slices"
	"strings"
	"testing"

	"loop.example/g01154/impl"
)

// dualOf returns a dual element with spare capacity behind all of its lists.
func dualOf(lists ...[]int64) impl.Dual {
	return impl.Dual{Terms: spareLists(lists)}
}

func checkDual(t *testing.T, name string, got impl.Dual, code int64, want impl.Dual, wantCode int64) {
	t.Helper()
	if !equalLists(got.Terms, want.Terms) || code != wantCode {
		t.Errorf("%s = %v, %d; want %v, %d", name, got, code, want, wantCode)
	}
}

// checkPairs fails unless pairs and a code are those that are wanted.
func checkPairs(t *testing.T, name string, got [][][]int64, code int64, want [][][]int64, wantCode int64) {
	t.Helper()
	if !slices.EqualFunc(got, want, equalLists) || code != wantCode {
		t.Errorf("%s = %.200v, %d; want %.200v, %d", name, got, code, want, wantCode)
	}
}

// checkSeparatePairs fails if two lists of pairs, or two pairs, share memory. It overwrites them.
func checkSeparatePairs(t *testing.T, name string, pairs [][][]int64) {
	t.Helper()
	checkSeparate(t, name, slices.Concat(pairs...))
	var all []impl.Milnor
	for _, pair := range pairs {
		all = append(all, impl.Milnor{Terms: pair})
	}
	checkSeparateElements(t, name, all)
}

// dual returns a sum of some monomials of degree d.
func (n *numbers) dual(d int64) impl.Dual {
	return impl.Dual(n.element(d))
}

func dualDegree(a impl.Dual) int64 {
	return elementDegree(impl.Milnor(a))
}

// goodDuals are dual elements at and within the limits. Their Terms are those of elements.
func goodDuals() []impl.Dual {
	var good []impl.Dual
	for _, m := range goodElements() {
		good = append(good, impl.Dual(m))
	}
	return good
}

// badDuals are no dual elements, each for one reason.
func badDuals() []impl.Dual {
	var bad []impl.Dual
	for _, m := range badElements() {
		bad = append(bad, impl.Dual(m))
	}
	return bad
}

// manyDuals are good dual elements, all monomials, the sums of all of a degree, and other sums.
func manyDuals() []impl.Dual {
	n := numbers(71)
	duals := goodDuals()
	for d := range int64(41) {
		for _, r := range exponentListsByTrial(d) {
			duals = append(duals, dualOf(r))
		}
		duals = append(duals, dualOf(exponentListsByTrial(d)...), n.dual(d), n.dual(d))
	}
	return duals
}

// smallLists are the exponent lists of the degrees up to most.
func smallLists(most int64) [][]int64 {
	var lists [][]int64
	for d := range most + 1 {
		lists = append(lists, exponentListsByTrial(d)...)
	}
	return lists
}

// monomialsOf returns the monomials of a dual element.
func monomialsOf(a impl.Dual) milnorSum {
	sum := milnorSum{}
	for _, r := range a.Terms {
		var term milnorTerm
		copy(term[:], r)
		sum.toggle(term)
	}
	return sum
}

// dualByTrial returns the dual element with monomials.
func dualByTrial(sum milnorSum) impl.Dual {
	var lists [][]int64
	for term := range sum {
		lists = append(lists, exponentsByTrial(term))
	}
	slices.SortFunc(lists, slices.Compare)
	return impl.Dual{Terms: lists}
}

func productOfDuals(a, b impl.Dual) impl.Dual {
	return dualByTrial(monomialsOf(a).timesMonomials(monomialsOf(b)))
}

func TestIsDual(t *testing.T) {
	for _, a := range manyDuals() {
		if !impl.IsDual(a) {
			t.Errorf("IsDual(%v) is false", a)
		}
	}
	for _, a := range badDuals() {
		if impl.IsDual(a) {
			t.Errorf("IsDual(%.80v) is true", a)
		}
	}
}

func TestAddDual(t *testing.T) {
	for _, a := range goodDuals() {
		for _, b := range goodDuals() {
			want, wantCode := impl.Dual{}, int64(impl.ErrRange)
			if len(a.Terms) == 0 || len(b.Terms) == 0 || dualDegree(a) == dualDegree(b) {
				want, wantCode = impl.Dual{Terms: sumByTrial(a.Terms, b.Terms)}, impl.ErrNone
			}
			got, code := impl.AddDual(a, b)
			checkDual(t, fmt.Sprintf("AddDual(%v, %v)", a, b), got, code, want, wantCode)
			checkSeparate(t, "AddDual", got.Terms)
		}
		zero, code := impl.AddDual(a, a)
		checkDual(t, "a + a", zero, code, impl.Dual{}, impl.ErrNone)
		same, code := impl.AddDual(a, impl.Dual{})
		checkDual(t, "a + 0", same, code, a, impl.ErrNone)
		same, code = impl.AddDual(dualOf(), a)
		checkDual(t, "0 + a", same, code, a, impl.ErrNone)
	}
	for _, c := range []struct {
		a, b, want string
		code       int64
	}{
		{"x1", "x1", "0", impl.ErrNone}, {"x2", "x1^3", "x2+x1^3", impl.ErrNone}, {"x1^3", "x2", "x2+x1^3", impl.ErrNone}, {"x2+x1^3", "x2", "x1^3", impl.ErrNone}, {"1", "1", "0", impl.ErrNone},
		{"1", "x1", "0", impl.ErrRange}, {"x1^40", "x1^39", "0", impl.ErrRange}, {"x1^40", "x1^40", "0", impl.ErrNone}, {"x1^40", "x1^9 x5", "x1^9 x5+x1^40", impl.ErrNone},
	} {
		got, code := impl.AddDual(sure(impl.ParseDual(c.a)), sure(impl.ParseDual(c.b)))
		checkDual(t, c.a+" and "+c.b, got, code, sure(impl.ParseDual(c.want)), c.code)
	}
}

func TestMultiplyDual(t *testing.T) {
	n := numbers(73)
	for range 300 {
		c := n.below(41)
		a, b := n.dual(c), n.dual(n.below(41-c))
		name := fmt.Sprintf("MultiplyDual(%v, %v)", a, b)
		want := productOfDuals(a, b)
		got, code := impl.MultiplyDual(a, b)
		checkDual(t, name, got, code, want, impl.ErrNone)
		turned, code := impl.MultiplyDual(b, a)
		checkDual(t, name+" turned around", turned, code, want, impl.ErrNone)
		if !impl.IsDual(got) {
			t.Errorf("%s = %v is no dual element", name, got)
		}
		checkSeparate(t, name, got.Terms)
	}
	one := dualOf([]int64{})
	for _, a := range goodDuals() {
		for _, zero := range []impl.Dual{{}, dualOf()} {
			got, code := impl.MultiplyDual(a, zero)
			checkDual(t, "a times 0", got, code, zero, impl.ErrNone)
			got, code = impl.MultiplyDual(zero, a)
			checkDual(t, "0 times a", got, code, zero, impl.ErrNone)
		}
		got, code := impl.MultiplyDual(a, one)
		checkDual(t, "a times 1", got, code, a, impl.ErrNone)
		got, code = impl.MultiplyDual(one, a)
		checkDual(t, "1 times a", got, code, a, impl.ErrNone)
	}
	for _, c := range []struct {
		a, b, want string
		code       int64
	}{
		{"x1", "x2", "x1 x2", impl.ErrNone}, {"0", "x2", "0", impl.ErrNone}, {"x1", "x1", "x1^2", impl.ErrNone}, {"1", "1", "1", impl.ErrNone}, {"0", "0", "0", impl.ErrNone}, {"0", "x1^40", "0", impl.ErrNone},
		{"x2+x1^3", "x2+x1^3", "x2^2+x1^6", impl.ErrNone}, {"x2+x1^3", "x2", "x2^2+x1^3 x2", impl.ErrNone}, {"x3 x4", "x1^3 x4", "x1^3 x3 x4^2", impl.ErrNone},
		{"x5", "x1^9", "x1^9 x5", impl.ErrNone}, {"x5", "x1^10", "0", impl.ErrLimit}, {"x5", "x5", "0", impl.ErrLimit}, {"x1^40", "1", "x1^40", impl.ErrNone}, {"x1^40", "x1", "0", impl.ErrLimit}, {"x1^40", "x1^40", "0", impl.ErrLimit},
	} {
		got, code := impl.MultiplyDual(sure(impl.ParseDual(c.a)), sure(impl.ParseDual(c.b)))
		checkDual(t, c.a+" times "+c.b, got, code, sure(impl.ParseDual(c.want)), c.code)
	}
}

// TestProductsOfDualsAtLimit tries all pairs of degrees whose sum is MaxDegree, or greater by one.
func TestProductsOfDualsAtLimit(t *testing.T) {
	for c := range int64(41) {
		for d := 40 - c; d <= min(41-c, 40); d++ {
			a, b := dualOf(exponentListsByTrial(c)...), dualOf(exponentListsByTrial(d)...)
			want, wantCode := impl.Dual{}, int64(impl.ErrLimit)
			if c+d == 40 {
				want, wantCode = productOfDuals(a, b), impl.ErrNone
			}
			got, code := impl.MultiplyDual(a, b)
			checkDual(t, fmt.Sprintf("MultiplyDual of the degrees %d and %d", c, d), got, code, want, wantCode)
		}
	}
}

func TestDualBasis(t *testing.T) {
	for d := range int64(41) {
		name := fmt.Sprintf("DualBasis(%d)", d)
		basis, code := impl.DualBasis(d)
		var lists [][]int64
		var all []impl.Milnor
		for _, a := range basis {
			if len(a.Terms) != 1 || !impl.IsDual(a) {
				t.Fatalf("%s has %v", name, a)
			}
			lists = append(lists, a.Terms[0])
			all = append(all, impl.Milnor(a))
		}
		checkLists(t, name, lists, code, exponentListsByTrial(d), impl.ErrNone)
		checkSeparate(t, name, lists)
		checkSeparateElements(t, name, all)
		again, code := impl.DualBasis(d)
		checkDual(t, "the first of "+name+" again", again[0], code, impl.Dual{Terms: exponentListsByTrial(d)[:1]}, impl.ErrNone)
	}
	for _, d := range outside(40) {
		basis, code := impl.DualBasis(d)
		checkNumber(t, fmt.Sprintf("the length of DualBasis(%d)", d), int64(len(basis)), code, 0, impl.ErrRange)
	}
}

// pairsByTrial returns the pairs of a sum in the order of the chapter.
func pairsByTrial(sum pairSum) [][][]int64 {
	var pairs [][][]int64
	for pair := range sum {
		pairs = append(pairs, [][]int64{exponentsByTrial(pair.left), exponentsByTrial(pair.right)})
	}
	slices.SortFunc(pairs, func(p, q [][]int64) int {
		return cmp.Or(slices.Compare(p[0], q[0]), slices.Compare(p[1], q[1]))
	})
	return pairs
}

func (sum pairSum) toggle(pair dualPair) {
	if sum[pair] {
		delete(sum, pair)
	} else {
		sum[pair] = true
	}
}

// coproductByTrial adds the coproducts of all Terms.
func coproductByTrial(a impl.Dual) pairSum {
	sum := pairSum{}
	for _, r := range a.Terms {
		for pair := range coproductOf(r) {
			sum.toggle(pair)
		}
	}
	return sum
}

func TestDualCoproduct(t *testing.T) {
	for _, a := range manyDuals() {
		got, code := impl.DualCoproduct(a)
		name := fmt.Sprintf("DualCoproduct(%.200v)", a)
		checkPairs(t, name, got, code, pairsByTrial(coproductByTrial(a)), impl.ErrNone)
		checkSeparatePairs(t, name, got)
	}
	for text, want := range map[string][][][]int64{
		"0": nil, "1": {{{}, {}}}, "x1": {{{}, {1}}, {{1}, {}}}, "x1^2": {{{}, {2}}, {{2}, {}}}, "x1^3": {{{}, {3}}, {{1}, {2}}, {{2}, {1}}, {{3}, {}}},
		"x2": {{{}, {0, 1}}, {{0, 1}, {}}, {{2}, {1}}}, "x2^2": {{{}, {0, 2}}, {{0, 2}, {}}, {{4}, {2}}}, "x3": {{{}, {0, 0, 1}}, {{0, 0, 1}, {}}, {{0, 2}, {1}}, {{4}, {0, 1}}},
		"x1 x2": {{{}, {1, 1}}, {{0, 1}, {1}}, {{1}, {0, 1}}, {{1, 1}, {}}, {{2}, {2}}, {{3}, {1}}}, "x2+x1^3": {{{}, {0, 1}}, {{}, {3}}, {{0, 1}, {}}, {{1}, {2}}, {{3}, {}}},
		"x1^32": {{{}, {32}}, {{32}, {}}}, "x5": {{{}, {0, 0, 0, 0, 1}}, {{0, 0, 0, 0, 1}, {}}, {{0, 0, 0, 2}, {1}}, {{0, 0, 4}, {0, 1}}, {{0, 8}, {0, 0, 1}}, {{16}, {0, 0, 0, 1}}},
	} {
		got, code := impl.DualCoproduct(sure(impl.ParseDual(text)))
		checkPairs(t, "DualCoproduct of "+text, got, code, want, impl.ErrNone)
	}
	// MaxTerms is a limit of Terms, of which pairs are none.
	all, code := impl.DualCoproduct(dualOf(exponentListsByTrial(40)...))
	checkNumber(t, "the number of pairs of all monomials of degree 40", int64(len(all)), code, 3308, impl.ErrNone)
}

// powerList returns the exponent list of a power of x(n), where x(0) is 1.
func powerList(n, exponent int64) []int64 {
	if n == 0 {
		return nil
	}
	return append(make([]int64, n-1), exponent)
}

// TestCoproductsOfPowers has what the chapter says of x(n), raised to all powers whose exponents are
// powers of 2: squares of sums have no other terms than the squares.
func TestCoproductsOfPowers(t *testing.T) {
	for n := int64(1); n <= 5; n++ {
		for power := int64(1); power*(1<<n-1) <= 40; power *= 2 {
			want := pairSum{}
			for i := range n + 1 {
				want.toggle(pairOf(powerList(n-i, power<<i), powerList(i, power)))
			}
			got, code := impl.DualCoproduct(dualOf(powerList(n, power)))
			checkPairs(t, fmt.Sprintf("DualCoproduct of x%d^%d", n, power), got, code, pairsByTrial(want), impl.ErrNone)
		}
	}
}

// TestCoproductsTellProducts compares with the products of chapter 4: a pair is in the coproduct of a
// monomial exactly if its basis element is in the product of those of the pair.
func TestCoproductsTellProducts(t *testing.T) {
	for _, d := range []int64{0, 1, 2, 3, 7, 12, 19, 26, 33} {
		want := map[string]pairSum{}
		for c := range d + 1 {
			for _, r := range exponentListsByTrial(c) {
				for _, s := range exponentListsByTrial(d - c) {
					for _, term := range sure(impl.MultiplyMilnor(elementOf(r), elementOf(s))).Terms {
						name := fmt.Sprint(term)
						if want[name] == nil {
							want[name] = pairSum{}
						}
						want[name].toggle(pairOf(r, s))
					}
				}
			}
		}
		for _, r := range exponentListsByTrial(d) {
			got, code := impl.DualCoproduct(dualOf(r))
			checkPairs(t, fmt.Sprintf("DualCoproduct of the exponents %v", r), got, code, pairsByTrial(want[fmt.Sprint(r)]), impl.ErrNone)
		}
	}
}

// TestCoproductsOfProducts multiplies pairs on both sides.
func TestCoproductsOfProducts(t *testing.T) {
	n := numbers(79)
	for range 60 {
		c := n.below(21)
		a, b := n.dual(c), n.dual(n.below(30-c))
		want := pairSum{}
		for _, p := range sure(impl.DualCoproduct(a)) {
			for _, q := range sure(impl.DualCoproduct(b)) {
				left, right := productOfDuals(dualOf(p[0]), dualOf(q[0])), productOfDuals(dualOf(p[1]), dualOf(q[1]))
				want.toggle(pairOf(left.Terms[0], right.Terms[0]))
			}
		}
		got, code := impl.DualCoproduct(sure(impl.MultiplyDual(a, b)))
		checkPairs(t, fmt.Sprintf("DualCoproduct of the product of %v and %v", a, b), got, code, pairsByTrial(want), impl.ErrNone)
	}
}

func TestPairingOf(t *testing.T) {
	for d := range int64(22) {
		for _, r := range exponentListsByTrial(d) {
			for e := max(0, d-2); e <= d+2; e++ {
				for _, s := range exponentListsByTrial(e) {
					want := int64(0)
					if slices.Equal(r, s) {
						want = 1
					}
					got, code := impl.PairingOf(elementOf(r), dualOf(s))
					checkNumber(t, fmt.Sprintf("PairingOf(%v, %v)", r, s), got, code, want, impl.ErrNone)
				}
			}
		}
	}
	n := numbers(83)
	for range 500 {
		d := n.below(41)
		m, a := n.element(d), n.dual(d)
		want := int64(0)
		for _, r := range m.Terms {
			for _, s := range a.Terms {
				if slices.Equal(r, s) {
					want = 1 - want
				}
			}
		}
		got, code := impl.PairingOf(m, a)
		checkNumber(t, fmt.Sprintf("PairingOf(%v, %v)", m, a), got, code, want, impl.ErrNone)
	}
	for d := range int64(41) {
		lists := exponentListsByTrial(d)
		got, code := impl.PairingOf(elementOf(lists...), dualOf(lists...))
		checkNumber(t, fmt.Sprintf("PairingOf all of degree %d", d), got, code, int64(len(lists)%2), impl.ErrNone)
	}
	for _, c := range []struct {
		m, a string
		want int64
	}{
		{"(0,1)", "x2", 1}, {"(0,1)", "x1^3", 0}, {"(0,1)+(3)", "x2+x1^3", 0}, {"(0,1)+(3)", "x1^3", 1}, {"()", "1", 1}, {"0", "0", 0}, {"0", "x1", 0}, {"(1)", "0", 0}, {"()", "0", 0}, {"0", "1", 0},
		{"()", "x1", 0}, {"(1)", "1", 0}, {"(40)", "x1^40", 1}, {"(40)", "x1^39", 0}, {"(39)", "x1^40", 0}, {"(40)", "x1", 0}, {"(40)", "1", 0}, {"()", "x1^40", 0}, {"(9,0,0,0,1)", "x1^9 x5", 1},
	} {
		got, code := impl.PairingOf(sure(impl.ParseMilnor(c.m)), sure(impl.ParseDual(c.a)))
		checkNumber(t, "PairingOf "+c.m+" and "+c.a, got, code, c.want, impl.ErrNone)
	}
}

// contractionByTrial adds the right monomials of those pairs of a coproduct whose left one is among
// the Terms of m.
func contractionByTrial(m impl.Milnor, coproduct pairSum) impl.Dual {
	lefts, sum := monomialsOf(impl.Dual(m)), milnorSum{}
	for pair := range coproduct {
		if lefts[pair.left] {
			sum.toggle(pair.right)
		}
	}
	return dualByTrial(sum)
}

func TestContractionOf(t *testing.T) {
	n := numbers(89)
	for range 300 {
		m, a := n.element(n.below(41)), n.dual(n.below(41))
		name := fmt.Sprintf("ContractionOf(%v, %v)", m, a)
		got, code := impl.ContractionOf(m, a)
		checkDual(t, name, got, code, contractionByTrial(m, coproductByTrial(a)), impl.ErrNone)
		if !impl.IsDual(got) {
			t.Errorf("%s = %v is no dual element", name, got)
		}
		checkSeparate(t, name, got.Terms)
	}
	for d := range int64(41) {
		all := dualOf(exponentListsByTrial(d)...)
		coproduct := coproductByTrial(all)
		for c := range int64(41) {
			m := elementOf(exponentListsByTrial(c)...)
			got, code := impl.ContractionOf(m, all)
			checkDual(t, fmt.Sprintf("ContractionOf all of the degrees %d and %d", c, d), got, code, contractionByTrial(m, coproduct), impl.ErrNone)
			if c > d && len(got.Terms) > 0 {
				t.Errorf("a contraction of the degree %d by an element of the degree %d is not 0", d, c)
			}
		}
		got, code := impl.ContractionOf(elementOf([]int64{}), all)
		checkDual(t, fmt.Sprintf("ContractionOf 1 and all of degree %d", d), got, code, all, impl.ErrNone)
		got, code = impl.ContractionOf(impl.Milnor{}, all)
		checkDual(t, fmt.Sprintf("ContractionOf 0 and all of degree %d", d), got, code, impl.Dual{}, impl.ErrNone)
	}
	for _, c := range []struct{ m, a, want string }{
		{"(2)", "x2", "x1"}, {"(1)", "x2", "0"}, {"(0,1)", "x2", "1"}, {"(3)", "x2", "0"}, {"(0,1)+(3)", "x2+x1^3", "0"}, {"(4)", "x3", "x2"}, {"(0,2)", "x3", "x1"}, {"(16)", "x5", "x4"}, {"(0,0,4)", "x5", "x2"},
		{"0", "0", "0"}, {"()", "0", "0"}, {"(1)", "0", "0"}, {"0", "1", "0"}, {"()", "1", "1"}, {"()", "x2", "x2"}, {"(1)", "1", "0"}, {"(4)", "x2", "0"}, {"(40)", "x1^39", "0"}, {"(40)", "x1^40", "1"}, {"(32)", "x1^40", "x1^8"}, {"(2)", "x1 x2", "x1^2"},
	} {
		got, code := impl.ContractionOf(sure(impl.ParseMilnor(c.m)), sure(impl.ParseDual(c.a)))
		checkDual(t, "ContractionOf "+c.m+" and "+c.a, got, code, sure(impl.ParseDual(c.want)), impl.ErrNone)
	}
}

// checkPairingOfProduct compares the pairing of a product with that of the contraction.
func checkPairingOfProduct(t *testing.T, a, b impl.Milnor, x impl.Dual) {
	t.Helper()
	want := sure(impl.PairingOf(sure(impl.MultiplyMilnor(a, b)), x))
	part, code := impl.ContractionOf(a, x)
	if code != impl.ErrNone {
		t.Fatalf("ContractionOf(%v, %v): code %d", a, x, code)
	}
	got, code := impl.PairingOf(b, part)
	checkNumber(t, fmt.Sprintf("the pairing of %v times %v with %v", a, b, x), got, code, want, impl.ErrNone)
}

func TestPairingsOfProductsAreThoseOfContractions(t *testing.T) {
	for _, r := range smallLists(14) {
		for _, s := range smallLists(14) {
			a, b := elementOf(r), elementOf(s)
			d := elementDegree(a) + elementDegree(b)
			if d <= 14 {
				for _, x := range exponentListsByTrial(d) {
					checkPairingOfProduct(t, a, b, dualOf(x))
				}
			}
		}
	}
	n := numbers(97)
	for range 300 {
		c := n.below(41)
		checkPairingOfProduct(t, n.element(c), n.element(40-c), n.dual(40))
		d := n.below(41 - c)
		checkPairingOfProduct(t, n.element(c), n.element(d), n.dual(c+d))
		checkPairingOfProduct(t, n.element(c), n.element(d), n.dual(n.below(41)))
	}
}

// conjugatesOfMonomials returns the conjugates of all monomials of degree d, by their exponents.
func conjugatesOfMonomials(d int64) map[milnorTerm]milnorSum {
	conjugates := map[milnorTerm]milnorSum{}
	for term, lists := range conjugatesByDual(d, conjugateVariables()) {
		for _, r := range lists {
			var exponents milnorTerm
			copy(exponents[:], r)
			if conjugates[exponents] == nil {
				conjugates[exponents] = milnorSum{}
			}
			conjugates[exponents].toggle(term)
		}
	}
	return conjugates
}

func TestDualConjugate(t *testing.T) {
	n := numbers(101)
	for d := range int64(41) {
		conjugates := conjugatesOfMonomials(d)
		duals := []impl.Dual{{}, dualOf(exponentListsByTrial(d)...), n.dual(d), n.dual(d)}
		for _, r := range exponentListsByTrial(d) {
			duals = append(duals, dualOf(r))
		}
		for _, a := range duals {
			sum := milnorSum{}
			for term := range monomialsOf(a) {
				for other := range conjugates[term] {
					sum.toggle(other)
				}
			}
			name := fmt.Sprintf("DualConjugate(%.200v)", a)
			got, code := impl.DualConjugate(a)
			checkDual(t, name, got, code, dualByTrial(sum), impl.ErrNone)
			back, code := impl.DualConjugate(got)
			checkDual(t, name+" and back", back, code, a, impl.ErrNone)
			checkSeparate(t, name, got.Terms)
		}
	}
	for text, want := range map[string]string{
		"0": "0", "1": "1", "x1": "x1", "x2": "x2+x1^3", "x2+x1^3": "x2", "x3": "x3+x1 x2^2+x1^4 x2+x1^7", "x1^3": "x1^3", "x1^40": "x1^40", "x2^2": "x2^2+x1^6", "x2^8": "x2^8+x1^24", "x3^2": "x3^2+x1^2 x2^4+x1^8 x2^2+x1^14", "x1 x2": "x1 x2+x1^4",
	} {
		got, code := impl.DualConjugate(sure(impl.ParseDual(text)))
		checkDual(t, "DualConjugate of "+text, got, code, sure(impl.ParseDual(want)), impl.ErrNone)
	}
}

// TestDualConjugatesAsTold has what the chapter says of conjugates of x(n), of their powers, of sums
// and of products.
func TestDualConjugatesAsTold(t *testing.T) {
	for n := int64(1); n <= 5; n++ {
		for power := int64(1); power*(1<<n-1) <= 40; power++ {
			want := dualOf([]int64{})
			for range power {
				var sum impl.Dual
				for i := range n {
					conjugate := sure(impl.DualConjugate(dualOf(powerList(i, 1))))
					if i == 0 {
						conjugate = dualOf([]int64{})
					}
					sum.Terms = sumByTrial(sum.Terms, productOfDuals(dualOf(powerList(n-i, 1<<i)), conjugate).Terms)
				}
				want = productOfDuals(want, sum)
			}
			got, code := impl.DualConjugate(dualOf(powerList(n, power)))
			checkDual(t, fmt.Sprintf("DualConjugate of x%d^%d", n, power), got, code, want, impl.ErrNone)
		}
	}
	n := numbers(103)
	for range 200 {
		c := n.below(41)
		a, b, other := n.dual(c), n.dual(n.below(41-c)), n.dual(c)
		want := productOfDuals(sure(impl.DualConjugate(a)), sure(impl.DualConjugate(b)))
		got, code := impl.DualConjugate(sure(impl.MultiplyDual(a, b)))
		checkDual(t, fmt.Sprintf("the conjugate of the product of %v and %v", a, b), got, code, want, impl.ErrNone)
		want = impl.Dual{Terms: sumByTrial(sure(impl.DualConjugate(a)).Terms, sure(impl.DualConjugate(other)).Terms)}
		got, code = impl.DualConjugate(sure(impl.AddDual(a, other)))
		checkDual(t, fmt.Sprintf("the conjugate of the sum of %v and %v", a, other), got, code, want, impl.ErrNone)
	}
}

// TestConjugatesArePaired compares with the conjugates of elements.
func TestConjugatesArePaired(t *testing.T) {
	n := numbers(107)
	for range 300 {
		d := n.below(41)
		m, a := n.element(d), n.dual(d)
		want := sure(impl.PairingOf(sure(impl.ConjugateOf(m)), a))
		got, code := impl.PairingOf(m, sure(impl.DualConjugate(a)))
		checkNumber(t, fmt.Sprintf("the pairing of %v and the conjugate of %v", m, a), got, code, want, impl.ErrNone)
	}
}

// cartanByTrial tries all pairs of exponent lists whose degrees have the sum d.
func cartanByTrial(m impl.Milnor, d int64) [][][]int64 {
	terms, sum := monomialsOf(impl.Dual(m)), pairSum{}
	for c := range d + 1 {
		for _, r := range exponentListsByTrial(c) {
			for _, s := range exponentListsByTrial(d - c) {
				var total milnorTerm
				copy(total[:], r)
				for i, n := range s {
					total[i] += n
				}
				if terms[total] {
					sum.toggle(pairOf(r, s))
				}
			}
		}
	}
	return pairsByTrial(sum)
}

func TestCartanPairs(t *testing.T) {
	n := numbers(109)
	for d := range int64(25) {
		elements := append(sure(impl.MilnorBasis(d)), impl.Milnor{}, elementOf(exponentListsByTrial(d)...), n.element(d), n.element(d))
		for _, m := range elements {
			name := fmt.Sprintf("CartanPairs(%.200v)", m)
			got, code := impl.CartanPairs(m)
			checkPairs(t, name, got, code, cartanByTrial(m, d), impl.ErrNone)
			checkSeparatePairs(t, name, got)
		}
	}
	for text, want := range map[string][][][]int64{
		"0": nil, "()": {{{}, {}}}, "(1)": {{{}, {1}}, {{1}, {}}}, "(2)": {{{}, {2}}, {{1}, {1}}, {{2}, {}}}, "(0,1)": {{{}, {0, 1}}, {{0, 1}, {}}},
		"(1,1)": {{{}, {1, 1}}, {{0, 1}, {1}}, {{1}, {0, 1}}, {{1, 1}, {}}}, "(0,1)+(3)": {{{}, {0, 1}}, {{}, {3}}, {{0, 1}, {}}, {{1}, {2}}, {{2}, {1}}, {{3}, {}}},
		"(1,0,1)": {{{}, {1, 0, 1}}, {{0, 0, 1}, {1}}, {{1}, {0, 0, 1}}, {{1, 0, 1}, {}}},
	} {
		got, code := impl.CartanPairs(sure(impl.ParseMilnor(text)))
		checkPairs(t, "CartanPairs of "+text, got, code, want, impl.ErrNone)
	}
}

func TestCartanPairsAtLimit(t *testing.T) {
	for d := int64(25); d <= 40; d++ {
		for _, m := range append(sure(impl.MilnorBasis(d)), elementOf(exponentListsByTrial(d)...)) {
			got, code := impl.CartanPairs(m)
			checkPairs(t, fmt.Sprintf("CartanPairs(%v)", m), got, code, nil, impl.ErrRange)
		}
	}
	for text, wantCode := range map[string]int64{"(24)": impl.ErrNone, "(25)": impl.ErrRange, "(0,8)": impl.ErrNone, "(1,8)": impl.ErrRange, "(3,0,3)": impl.ErrNone, "(4,0,3)": impl.ErrRange, "(9,0,0,1)": impl.ErrNone, "(10,0,0,1)": impl.ErrRange, "(0,0,0,0,1)": impl.ErrRange} {
		_, code := impl.CartanPairs(sure(impl.ParseMilnor(text)))
		checkNumber(t, "the code of CartanPairs of "+text, 0, code, 0, wantCode)
	}
}

// checkPairingByCartan compares the pairing with a product with the sum over the Cartan pairs.
func checkPairingByCartan(t *testing.T, m impl.Milnor, x, y impl.Dual) {
	t.Helper()
	pairs, code := impl.CartanPairs(m)
	if code != impl.ErrNone {
		t.Fatalf("CartanPairs(%v): code %d", m, code)
	}
	want := int64(0)
	for _, pair := range pairs {
		want += sure(impl.PairingOf(elementOf(pair[0]), x)) * sure(impl.PairingOf(elementOf(pair[1]), y))
	}
	got, code := impl.PairingOf(m, sure(impl.MultiplyDual(x, y)))
	checkNumber(t, fmt.Sprintf("the pairing of %v and %v times %v", m, x, y), got, code, want%2, impl.ErrNone)
}

func TestPairingsWithProductsGoByCartanPairs(t *testing.T) {
	for _, r := range smallLists(10) {
		for _, s := range smallLists(10) {
			d := dualDegree(dualOf(r)) + dualDegree(dualOf(s))
			if d <= 10 {
				for _, m := range exponentListsByTrial(d) {
					checkPairingByCartan(t, elementOf(m), dualOf(r), dualOf(s))
				}
			}
		}
	}
	n := numbers(113)
	for range 150 {
		c := n.below(25)
		checkPairingByCartan(t, n.element(24), n.dual(c), n.dual(24-c))
		d := n.below(25 - c)
		checkPairingByCartan(t, n.element(c+d), n.dual(c), n.dual(d))
		checkPairingByCartan(t, n.element(n.below(25)), n.dual(c), n.dual(d))
	}
}

// textOfDual writes the text of a dual element.
func textOfDual(a impl.Dual) string {
	if len(a.Terms) == 0 {
		return "0"
	}
	text := ""
	for i, r := range a.Terms {
		if i > 0 {
			text += "+"
		}
		if len(r) == 0 {
			text += "1"
		}
		first := true
		for j, n := range r {
			if n != 0 && !first {
				text += " "
			}
			if n == 1 {
				text += fmt.Sprintf("x%d", j+1)
			} else if n != 0 {
				text += fmt.Sprintf("x%d^%d", j+1, n)
			}
			first = first && n == 0
		}
	}
	return text
}

func TestTextsOfDuals(t *testing.T) {
	for _, a := range manyDuals() {
		text, code := impl.DualText(a)
		if text != textOfDual(a) || code != impl.ErrNone {
			t.Errorf("DualText(%v) = %q, %d", a, text, code)
		}
		read, code := impl.ParseDual(text)
		checkDual(t, fmt.Sprintf("ParseDual(%q)", text), read, code, a, impl.ErrNone)
		checkSeparate(t, "ParseDual", read.Terms)
	}
	for text, want := range map[string]impl.Dual{
		"0": {}, "1": dualOf([]int64{}), "x1": dualOf([]int64{1}), "x1^2": dualOf([]int64{2}), "x1^40": dualOf([]int64{40}), "x2": dualOf([]int64{0, 1}), "x2+x1^3": dualOf([]int64{0, 1}, []int64{3}), "x1 x2": dualOf([]int64{1, 1}), "x1^9 x5": dualOf([]int64{9, 0, 0, 0, 1}),
		"x1 x3^2": dualOf([]int64{1, 0, 2}), "x1 x2^3+x1^10": dualOf([]int64{1, 3}, []int64{10}), "x2 x3+x1^3 x3": dualOf([]int64{0, 1, 1}, []int64{3, 0, 1}), "x5": dualOf([]int64{0, 0, 0, 0, 1}),
	} {
		read, code := impl.ParseDual(text)
		checkDual(t, fmt.Sprintf("ParseDual(%q)", text), read, code, want, impl.ErrNone)
		got, code := impl.DualText(want)
		if got != text || code != impl.ErrNone {
			t.Errorf("DualText(%v) = %q, %d", want, got, code)
		}
	}
}

// noDuals are texts that no dual element has.
func noDuals() []string {
	return []string{
		"", " ", "+", "x", "x ", " x", "^", "x^", "2", "-1", "00", "01", "10", "11", "-0", "+0", "+1", "0 ", " 0", "0\n", "1 ", " 1", "1\n", "1^2", "0^2", "()", "(1)", "Sq1", "xi1", "y1", "X1", "1x", "1x1", "2x1", "x1*x2", "x1x2", "x1,x2", "x1.x2", "x(1)", "x_1", "{1}",
		"x0", "x00", "x01", "x001", "x-1", "x+1", "x 1", "x1.0", "x1e0", "x0x1", "x1_0", "x\u0661", "x\uff11", "x1\u00b2", "\u00d71", "x1\n", "\nx1", "x1\x00", "x\xff", "x1\t", "\tx1", "xx1", "x1x", "x1x1",
		"x1^", "x1^0", "x1^1", "x1^00", "x1^02", "x1^002", "x1^-1", "x1^-2", "x1^+2", "x1^ 2", "x1 ^2", "x1 ^ 2", "x1^2.0", "x1^2e0", "x1^0x2", "x1^1_0", "x1^\u0662", "x1^x2", "x1^^2", "x1^2^", "x1^2^2", "^2", "x^2", "x1**2", "x0^2", "x01^2", "x1^2x", "x1^(2)",
		" x1", "x1 ", "x1  x2", "x1\tx2", "x1\nx2", "x1 1", "1 x1", "1 1", "x1 0", "0 x1", "x1 x2 ", " x1 x2", "x2 x1", "x2 x1^2", "x3 x1", "x1 x1", "x1^2 x1", "x1 x1^2", "x1^2 x1^2", "x2 x2", "x1 x3 x2", "x0 x1", "x1 x0", "x1^0 x2", "x1 x2^0", "x1^1 x2", "x1 x2^1",
		"x2+", "+x2", "x2++x1^3", "x2 +x1^3", "x2+ x1^3", "x2 + x1^3", "x2-x1^3", "-x1", "x1^3+x2", "x2+x2", "x1+x1", "1+1", "0+0", "x2+x1^3+x1^3", "x2+x2+x1^3", "x1^10+x1 x2^3", "x2+x1^3+", "x1^3 x3+x2 x3",
		"1+0", "0+1", "0+x1", "x1+0", "1+x1", "x1+1", "x1+x2", "x1+x1^2", "x2+x1^2", "x2+x1^4", "x2+x1^3+x1^4", "x3+x2 x1^4", "x2+x1^3 ", "x2;x1^3", "x2,x1^3",
		"x1^41", "x1^2 x2^13", "x1^10 x5", "x5^2", "x6", "x7", "x10", "x11", "x64", "x1 x6", "x1 x2 x3 x4 x5", "x1^1000000000000", "x1^1000000000001", "x1000000000000", "x1^40 x2",
		"x9223372036854775807", "x9223372036854775808", "x-9223372036854775808", "x-9223372036854775809", "x4294967297", "x18446744073709551617", "x1 x18446744073709551618", "x1^9223372036854775807", "x1^9223372036854775808", "x1^-9223372036854775808", "x1^18446744073709551618", "x1^4294967298", "x2^9223372036854775807+x1^3", "x1^9223372036854775807 x2^9223372036854775807",
		"x" + strings.Repeat("9", 5000), "x1^" + strings.Repeat("9", 5000), "x" + strings.Repeat("0", 5000) + "1", "x1^" + strings.Repeat("0", 5000) + "2", strings.Repeat("x", 100000), strings.Repeat("^", 100000), strings.Repeat("+", 100000), strings.Repeat(" ", 100000), strings.Repeat("x1 ", 100000) + "x1", strings.Repeat("x1+", 100000) + "x1", strings.Repeat("x1^2 x2+", 3000) + "x1^2 x2",
		textOfDual(impl.Dual{Terms: countedTerms(2000, 1, 1)}), textOfDual(impl.Dual{Terms: countedTerms(2001, 1, 1)}), textOfDual(impl.Dual{Terms: exponentListsByTrial(41)}),
	}
}

func TestTextsOfNoDuals(t *testing.T) {
	for _, text := range noDuals() {
		got, code := impl.ParseDual(text)
		if len(got.Terms) > 0 || code != impl.ErrSyntax {
			t.Errorf("ParseDual(%.60q) = %v, %d", text, got, code)
		}
	}
}

// TestDualTextsWithOneByteChanged takes a byte away from texts, changes it or puts one before it. What
// is read has the text that was given.
func TestDualTextsWithOneByteChanged(t *testing.T) {
	for _, text := range []string{"0", "1", "x1", "x1^3", "x2+x1^3", "x1 x2^3+x1^10", "x3+x1 x2^2+x1^4 x2+x1^7", "x1^9 x5", "x1^2 x3^4"} {
		for i := range len(text) + 1 {
			var tries []string
			if i < len(text) {
				tries = append(tries, text[:i]+text[i+1:])
			}
			for _, b := range []byte("0123456789x^+- ,(\n\x00") {
				tries = append(tries, text[:i]+string(rune(b))+text[i:])
				if i < len(text) {
					tries = append(tries, text[:i]+string(rune(b))+text[i+1:])
				}
			}
			for _, try := range tries {
				a, code := impl.ParseDual(try)
				if code == impl.ErrNone && (!impl.IsDual(a) || textOfDual(a) != try) || code != impl.ErrNone && (code != impl.ErrSyntax || len(a.Terms) > 0) {
					t.Errorf("ParseDual(%q) = %v, %d", try, a, code)
				}
			}
		}
	}
}

func isZeroDual(a impl.Dual, code int64) (bool, int64) { return len(a.Terms) == 0, code }

func isZeroPairs(pairs [][][]int64, code int64) (bool, int64) { return len(pairs) == 0, code }

// TestErrorsOfBadDuals tells that ErrInvalid comes before the errors of degrees, for each argument.
func TestErrorsOfBadDuals(t *testing.T) {
	check := func(name string, zero bool, code int64) {
		t.Helper()
		if !zero || code != impl.ErrInvalid {
			t.Errorf("%s: zero value %v, code %d", name, zero, code)
		}
	}
	for _, bad := range badDuals() {
		zero, code := isZeroPairs(impl.DualCoproduct(bad))
		check(fmt.Sprintf("DualCoproduct(%.40v)", bad), zero, code)
		zero, code = isZeroDual(impl.DualConjugate(bad))
		check(fmt.Sprintf("DualConjugate(%.40v)", bad), zero, code)
		text, code := impl.DualText(bad)
		check(fmt.Sprintf("DualText(%.40v)", bad), text == "", code)
		zero, code = isZeroPairs(impl.CartanPairs(impl.Milnor(bad)))
		check(fmt.Sprintf("CartanPairs(%.40v)", bad), zero, code)
		for _, other := range []impl.Dual{{}, dualOf([]int64{}), dualOf([]int64{7}), dualOf([]int64{40}), bad} {
			for _, pair := range [][2]impl.Dual{{bad, other}, {other, bad}} {
				a, b := pair[0], pair[1]
				zero, code = isZeroDual(impl.AddDual(a, b))
				check(fmt.Sprintf("AddDual(%.40v, %.40v)", a, b), zero, code)
				zero, code = isZeroDual(impl.MultiplyDual(a, b))
				check(fmt.Sprintf("MultiplyDual(%.40v, %.40v)", a, b), zero, code)
				zero, code = isZeroNumber(impl.PairingOf(impl.Milnor(a), b))
				check(fmt.Sprintf("PairingOf(%.40v, %.40v)", a, b), zero, code)
				zero, code = isZeroDual(impl.ContractionOf(impl.Milnor(a), b))
				check(fmt.Sprintf("ContractionOf(%.40v, %.40v)", a, b), zero, code)
			}
		}
	}
}

// TestDualsKeepArguments also tells that no result shares memory with an argument, or with another
// result. Where there are two arguments, the second one is the spare capacity behind the first one.
func TestDualsKeepArguments(t *testing.T) {
	one := [][]int64{{0, 1, 1}, {1, 3}, {3, 0, 1}, {10}}
	two := [][]int64{{0, 1, 1}, {1, 3}, {3, 0, 1}, {10}, {1, 3}, {4, 2}, {7, 1}}
	first := func(lists [][]int64) impl.Dual { return impl.Dual{Terms: lists[:4]} }
	second := func(lists [][]int64) impl.Dual { return impl.Dual{Terms: lists[4:]} }
	all := func(lists [][]int64) impl.Dual { return impl.Dual{Terms: lists} }
	element := func(lists [][]int64) impl.Milnor { return impl.Milnor{Terms: lists} }
	calls := map[string]struct {
		lists [][]int64
		call  func(lists [][]int64) [][]int64
	}{
		"IsDual":             {one, func(lists [][]int64) [][]int64 { impl.IsDual(all(lists)); return nil }},
		"AddDual":            {two, func(lists [][]int64) [][]int64 { return sure(impl.AddDual(first(lists), second(lists))).Terms }},
		"a + 0":              {one, func(lists [][]int64) [][]int64 { return sure(impl.AddDual(all(lists), impl.Dual{})).Terms }},
		"0 + b":              {one, func(lists [][]int64) [][]int64 { return sure(impl.AddDual(impl.Dual{}, all(lists))).Terms }},
		"MultiplyDual":       {two, func(lists [][]int64) [][]int64 { return sure(impl.MultiplyDual(first(lists), second(lists))).Terms }},
		"a times 1":          {one, func(lists [][]int64) [][]int64 { return sure(impl.MultiplyDual(all(lists), dualOf([]int64{}))).Terms }},
		"1 times b":          {one, func(lists [][]int64) [][]int64 { return sure(impl.MultiplyDual(dualOf([]int64{}), all(lists))).Terms }},
		"DualBasis":          {nil, func(lists [][]int64) [][]int64 { return sure(impl.DualBasis(10))[2].Terms }},
		"DualCoproduct":      {one, func(lists [][]int64) [][]int64 { return slices.Concat(sure(impl.DualCoproduct(all(lists)))...) }},
		"DualCoproduct of 1": {[][]int64{{}}, func(lists [][]int64) [][]int64 { return slices.Concat(sure(impl.DualCoproduct(all(lists)))...) }},
		"PairingOf":          {one, func(lists [][]int64) [][]int64 { sure(impl.PairingOf(element(lists), all(lists))); return nil }},
		"ContractionOf": {[][]int64{{0, 1, 1}, {1, 3}, {3, 0, 1}, {10}, {1, 1}, {4}}, func(lists [][]int64) [][]int64 {
			return sure(impl.ContractionOf(element(lists[4:]), first(lists))).Terms
		}},
		"ContractionOf 1": {one, func(lists [][]int64) [][]int64 {
			return sure(impl.ContractionOf(elementOf([]int64{}), all(lists))).Terms
		}},
		"DualConjugate":      {one, func(lists [][]int64) [][]int64 { return sure(impl.DualConjugate(all(lists))).Terms }},
		"DualConjugate of 1": {[][]int64{{}}, func(lists [][]int64) [][]int64 { return sure(impl.DualConjugate(all(lists))).Terms }},
		"CartanPairs":        {one, func(lists [][]int64) [][]int64 { return slices.Concat(sure(impl.CartanPairs(element(lists)))...) }},
		"CartanPairs of 1":   {[][]int64{{}}, func(lists [][]int64) [][]int64 { return slices.Concat(sure(impl.CartanPairs(element(lists)))...) }},
		"DualText":           {one, func(lists [][]int64) [][]int64 { sure(impl.DualText(all(lists))); return nil }},
		"there and back":     {one, func(lists [][]int64) [][]int64 { return sure(impl.ParseDual(sure(impl.DualText(all(lists))))).Terms }},
		"errors of degrees": {[][]int64{{1, 8}, {25}, {40}}, func(lists [][]int64) [][]int64 {
			impl.AddDual(all(lists[:2]), all(lists[2:]))
			impl.MultiplyDual(all(lists[:2]), all(lists[2:]))
			impl.CartanPairs(element(lists[:2]))
			return nil
		}},
		"errors": {[][]int64{{4, 1}, {2, 1}, {0}}, func(lists [][]int64) [][]int64 {
			impl.IsDual(all(lists))
			impl.AddDual(all(lists), all(lists))
			impl.MultiplyDual(all(lists), all(lists))
			impl.DualCoproduct(all(lists))
			impl.PairingOf(element(lists), all(lists))
			impl.ContractionOf(element(lists), all(lists))
			impl.DualConjugate(all(lists))
			impl.CartanPairs(element(lists))
			impl.DualText(all(lists))
			return nil
		}},
	}
	for name, c := range calls {
		checkKept(t, name, c.lists, c.call)
	}
}
