package tests

import (
	"fmt"
	"math"
	"math/big"
	"slices"
	"testing"

	"loop.example/g01154/impl"
)

// exponentsByTrial returns the exponent list of a term without the zeros at its end.
func exponentsByTrial(term milnorTerm) []int64 {
	list := slices.Clone(term[:])
	for len(list) > 0 && list[len(list)-1] == 0 {
		list = list[:len(list)-1]
	}
	return list
}

// elementByTrial returns the element for which words stand, square by square.
func elementByTrial(words [][]int64) impl.Milnor {
	var lists [][]int64
	for term := range milnorOf(words) {
		lists = append(lists, exponentsByTrial(term))
	}
	slices.SortFunc(lists, slices.Compare)
	return impl.Milnor{Terms: lists}
}

// manyElements are good elements, all basis elements, the sums of all of a degree, and other sums.
func manyElements() []impl.Milnor {
	n := numbers(41)
	elements := goodElements()
	for d := range int64(41) {
		elements = append(elements, sure(impl.MilnorBasis(d))...)
		elements = append(elements, elementOf(exponentListsByTrial(d)...), n.element(d), n.element(d))
	}
	return elements
}

// goodWords are words at and within the limits.
func goodWords() [][]int64 {
	words := [][]int64{
		nil, {}, {1}, {40}, {1, 39}, {39, 1}, {20, 20}, {27, 13}, {13, 27}, {26, 13, 1}, {1, 13, 26}, {21, 12, 5, 2}, {20, 10, 5, 2, 1}, {22, 10, 5, 2, 1}, {1, 2, 4, 8, 16}, {16, 8, 4, 2, 1},
		{1, 2, 4, 8, 4, 2, 4, 1, 2, 4, 2, 1, 2, 1}, {3, 2, 4, 8, 4, 2, 4, 1, 2, 4, 2, 1, 2, 1}, slices.Repeat([]int64{2, 1, 3, 1}, 5),
		slices.Repeat([]int64{1}, 20), slices.Repeat([]int64{2}, 20), append(slices.Repeat([]int64{1}, 19), 21), append([]int64{21}, slices.Repeat([]int64{1}, 19)...),
	}
	for d := range int64(11) {
		words = append(words, wordsOfDegree(d, 20)...)
	}
	n := numbers(43)
	for _, most := range []int64{8, 12, 20, 40} {
		for range 50 {
			words = append(words, n.word(n.below(41), most))
		}
	}
	return words
}

func TestMilnorOfWord(t *testing.T) {
	for _, word := range goodWords() {
		got, code := impl.MilnorOfWord(spareList(word))
		name := fmt.Sprintf("MilnorOfWord(%v)", word)
		checkElement(t, name, got, code, elementByTrial([][]int64{word}), impl.ErrNone)
		checkSeparate(t, name, got.Terms)
	}
	for _, c := range []struct {
		word []int64
		want string
		code int64
	}{
		{[]int64{1, 2}, "(3)", impl.ErrNone}, {nil, "()", impl.ErrNone}, {[]int64{}, "()", impl.ErrNone}, {[]int64{1}, "(1)", impl.ErrNone}, {[]int64{40}, "(40)", impl.ErrNone}, {[]int64{2, 1}, "(0,1)+(3)", impl.ErrNone}, {[]int64{1, 1}, "0", impl.ErrNone},
		{[]int64{1, 2, 4, 8, 4, 2, 4, 1, 2, 4, 2, 1, 2, 1}, "(7,3,1,1)", impl.ErrNone}, {slices.Repeat([]int64{1}, 20), "0", impl.ErrNone}, {slices.Repeat([]int64{1}, 21), "0", impl.ErrInvalid}, {[]int64{0}, "0", impl.ErrInvalid}, {[]int64{41}, "0", impl.ErrInvalid}, {[]int64{40, 1}, "0", impl.ErrInvalid},
	} {
		got, code := impl.MilnorOfWord(c.word)
		checkElement(t, fmt.Sprintf("MilnorOfWord(%v)", c.word), got, code, sure(impl.ParseMilnor(c.want)), c.code)
	}
	for _, word := range badWords() {
		got, code := impl.MilnorOfWord(word)
		checkElement(t, fmt.Sprintf("MilnorOfWord(%v)", word), got, code, impl.Milnor{}, impl.ErrInvalid)
	}
}

func TestMilnorOfSquares(t *testing.T) {
	sums := append(goodSums(), impl.Squares{Terms: wordsOfDegree(40, 4)[:2000]}, squaresOf([]int64{2, 2}, []int64{3, 1}), squaresOf([]int64{1, 2}, []int64{3}))
	for d := range int64(41) {
		sums = append(sums, impl.Squares{Terms: sure(impl.AdmissibleBasis(d))})
	}
	for d := range int64(11) {
		sums = append(sums, impl.Squares{Terms: wordsOfDegree(d, 20)})
	}
	for _, a := range sums {
		got, code := impl.MilnorOfSquares(a)
		name := fmt.Sprintf("MilnorOfSquares(%.80v)", a)
		checkElement(t, name, got, code, elementByTrial(a.Terms), impl.ErrNone)
		if !impl.IsMilnor(got) {
			t.Errorf("%s = %v is no element", name, got)
		}
		checkSeparate(t, name, got.Terms)
	}
	for text, want := range map[string]string{"0": "0", "1": "()", "Sq40": "(40)", "Sq2 Sq1+Sq3": "(0,1)", "Sq1 Sq2+Sq3": "0", "Sq2 Sq2": "(1,1)"} {
		got, code := impl.MilnorOfSquares(sure(impl.ParseSquares(text)))
		checkElement(t, "MilnorOfSquares of "+text, got, code, sure(impl.ParseMilnor(want)), impl.ErrNone)
	}
	for _, bad := range badSums() {
		got, code := impl.MilnorOfSquares(bad)
		checkElement(t, fmt.Sprintf("MilnorOfSquares(%.80v)", bad), got, code, impl.Milnor{}, impl.ErrInvalid)
	}
}

func TestSquaresOfMilnor(t *testing.T) {
	for _, m := range manyElements() {
		got, code := impl.SquaresOfMilnor(m)
		name := fmt.Sprintf("SquaresOfMilnor(%v)", m)
		checkForm(t, name, got, elementDegree(m))
		checkElement(t, name+" as an element", elementByTrial(got.Terms), code, m, impl.ErrNone)
		checkSeparate(t, name, got.Terms)
	}
	for text, want := range map[string]string{"0": "0", "()": "1", "(1)": "Sq1", "(40)": "Sq40", "(0,1)": "Sq2 Sq1+Sq3", "(0,1)+(3)": "Sq2 Sq1", "(1,1)": "Sq3 Sq1"} {
		got, code := impl.SquaresOfMilnor(sure(impl.ParseMilnor(text)))
		checkSquares(t, "SquaresOfMilnor of "+text, got, code, sure(impl.ParseSquares(want)), impl.ErrNone)
	}
}

// TestElementsComeBack goes to the other basis and back, from both sides, and multiplies in both.
func TestElementsComeBack(t *testing.T) {
	for _, m := range manyElements() {
		back, code := impl.MilnorOfSquares(sure(impl.SquaresOfMilnor(m)))
		checkElement(t, fmt.Sprintf("%v and back", m), back, code, m, impl.ErrNone)
	}
	sums := goodSums()
	for d := range int64(41) {
		for _, word := range sure(impl.AdmissibleBasis(d)) {
			sums = append(sums, squaresOf(word))
		}
	}
	for _, a := range sums {
		form := sure(impl.AdmissibleForm(a))
		back, code := impl.SquaresOfMilnor(sure(impl.MilnorOfSquares(a)))
		checkSquares(t, fmt.Sprintf("%.80v and back", a), back, code, form, impl.ErrNone)
	}
	n := numbers(53)
	for range 200 {
		c := n.below(41)
		a, b := n.sum(c, 10, 5), n.sum(n.below(41-c), 10, 5)
		want := sure(impl.MultiplyMilnor(sure(impl.MilnorOfSquares(a)), sure(impl.MilnorOfSquares(b))))
		got, code := impl.MilnorOfSquares(sure(impl.MultiplySquares(a, b)))
		checkElement(t, fmt.Sprintf("the product of %v and %v", a, b), got, code, want, impl.ErrNone)
	}
}

func TestBasisChange(t *testing.T) {
	for d := range int64(41) {
		name := fmt.Sprintf("BasisChange(%d)", d)
		var want [][]int64
		for _, word := range sure(impl.AdmissibleBasis(d)) {
			want = append(want, coordinatesByTrial(elementByTrial([][]int64{word}), d))
		}
		rows, code := impl.BasisChange(d)
		checkLists(t, name, rows, code, want, impl.ErrNone)
		checkSeparate(t, name, rows)
		again, code := impl.BasisChange(d)
		checkLists(t, name+" again", again, code, want, impl.ErrNone)
	}
	for d, want := range map[int64][][]int64{0: {{1}}, 1: {{1}}, 2: {{1}}, 3: {{1, 1}, {0, 1}}} {
		rows, code := impl.BasisChange(d)
		checkLists(t, fmt.Sprintf("BasisChange(%d)", d), rows, code, want, impl.ErrNone)
	}
	for _, d := range outside(40) {
		rows, code := impl.BasisChange(d)
		checkLists(t, fmt.Sprintf("BasisChange(%d)", d), rows, code, nil, impl.ErrRange)
	}
}

// timesMonomials multiplies sums of monomials of the dual algebra, which are told by their exponents.
func (sum milnorSum) timesMonomials(other milnorSum) milnorSum {
	product := milnorSum{}
	for a := range sum {
		for b := range other {
			next := a
			for i, n := range b {
				next[i] += n
			}
			product.toggle(next)
		}
	}
	return product
}

// raised returns the power of a sum of monomials whose exponent is a power of 2.
func (sum milnorSum) raised(power int64) milnorSum {
	raised := milnorSum{}
	for term := range sum {
		for i := range term {
			term[i] *= power
		}
		raised.toggle(term)
	}
	return raised
}

// conjugateVariables returns the conjugates of x(0) = 1, x(1), .., x(5) of the dual algebra: for n of
// at least 1, the sum of all powers of x(n - i) with the exponent 2^i, times the conjugate of x(i),
// is 0.
func conjugateVariables() []milnorSum {
	conjugates := []milnorSum{{milnorTerm{}: true}}
	for n := 1; n <= 5; n++ {
		next := milnorSum{}
		for i := range n {
			var power milnorTerm
			power[n-i-1] = 1 << i
			for term := range conjugates[i].timesMonomials(milnorSum{power: true}) {
				next.toggle(term)
			}
		}
		conjugates = append(conjugates, next)
	}
	return conjugates
}

// conjugatesByDual returns the conjugates of all basis elements of degree d, by their exponents: t is
// among the Terms of that of r exactly if r is in the conjugate of the monomial with the exponents t.
func conjugatesByDual(d int64, variables []milnorSum) map[milnorTerm][][]int64 {
	conjugates := map[milnorTerm][][]int64{}
	for _, exponents := range exponentListsByTrial(d) {
		monomial := milnorSum{milnorTerm{}: true}
		for i, n := range exponents {
			for power := int64(1); power <= n; power *= 2 {
				if n&power != 0 {
					monomial = monomial.timesMonomials(variables[i+1].raised(power))
				}
			}
		}
		for term := range monomial {
			conjugates[term] = append(conjugates[term], exponents)
		}
	}
	return conjugates
}

func TestConjugateOf(t *testing.T) {
	n, variables := numbers(59), conjugateVariables()
	for d := range int64(41) {
		conjugates := conjugatesByDual(d, variables)
		elements := append(sure(impl.MilnorBasis(d)), impl.Milnor{}, elementOf(exponentListsByTrial(d)...), n.element(d), n.element(d), n.element(d))
		for _, m := range elements {
			var want [][]int64
			for _, r := range m.Terms {
				var term milnorTerm
				copy(term[:], r)
				want = sumByTrial(want, conjugates[term])
			}
			got, code := impl.ConjugateOf(m)
			name := fmt.Sprintf("ConjugateOf(%v)", m)
			checkElement(t, name, got, code, impl.Milnor{Terms: want}, impl.ErrNone)
			checkSeparate(t, name, got.Terms)
		}
	}
	for text, want := range map[string]string{"0": "0", "()": "()", "(1)": "(1)", "(2)": "(2)", "(3)": "(0,1)+(3)", "(0,1)": "(0,1)", "(4)": "(1,1)+(4)"} {
		got, code := impl.ConjugateOf(sure(impl.ParseMilnor(text)))
		checkElement(t, "ConjugateOf "+text, got, code, sure(impl.ParseMilnor(want)), impl.ErrNone)
	}
}

// TestConjugatesAsTold has what the chapter says of conjugates: of squares, of products and of sums.
func TestConjugatesAsTold(t *testing.T) {
	for d := int64(1); d <= 40; d++ {
		got, code := impl.ConjugateOf(elementOf([]int64{d}))
		checkElement(t, fmt.Sprintf("ConjugateOf Sq(%d)", d), got, code, impl.Milnor{Terms: exponentListsByTrial(d)}, impl.ErrNone)
	}
	turned := func(a, b impl.Milnor) {
		t.Helper()
		want := sure(impl.MultiplyMilnor(sure(impl.ConjugateOf(b)), sure(impl.ConjugateOf(a))))
		got, code := impl.ConjugateOf(sure(impl.MultiplyMilnor(a, b)))
		checkElement(t, fmt.Sprintf("the conjugate of the product of %v and %v", a, b), got, code, want, impl.ErrNone)
	}
	var small []impl.Milnor
	for d := range int64(12) {
		small = append(small, sure(impl.MilnorBasis(d))...)
	}
	for _, a := range small {
		for _, b := range small {
			turned(a, b)
		}
	}
	n := numbers(61)
	for range 300 {
		d := n.below(41)
		a, b, c := n.element(d), n.element(40-d), n.element(d)
		turned(a, b)
		want := sure(impl.AddMilnor(sure(impl.ConjugateOf(a)), sure(impl.ConjugateOf(c))))
		got, code := impl.ConjugateOf(sure(impl.AddMilnor(a, c)))
		checkElement(t, fmt.Sprintf("the conjugate of the sum of %v and %v", a, c), got, code, want, impl.ErrNone)
	}
	for _, m := range manyElements() {
		got, code := impl.ConjugateOf(sure(impl.ConjugateOf(m)))
		checkElement(t, fmt.Sprintf("the conjugate of the conjugate of %v", m), got, code, m, impl.ErrNone)
	}
}

// TestElementP tries all s and t in their ranges. No P(s, t) has the degree MaxDegree itself: those
// of the degrees 31 and 32 are the last ones within the limit.
func TestElementP(t *testing.T) {
	found := 0
	for s := range int64(11) {
		for place := int64(1); place <= 10; place++ {
			name := fmt.Sprintf("ElementP(%d, %d)", s, place)
			got, code := impl.ElementP(s, place)
			if int64(math.Pow(2, float64(s)))*(int64(math.Pow(2, float64(place)))-1) > impl.MaxDegree {
				checkElement(t, name, got, code, impl.Milnor{}, impl.ErrLimit)
				continue
			}
			want := append(make([]int64, place-1), int64(math.Pow(2, float64(s))))
			checkElement(t, name, got, code, elementOf(want), impl.ErrNone)
			checkSeparate(t, name, got.Terms)
			found++
		}
	}
	checkNumber(t, "the number of elements P(s, t)", int64(found), 0, 16, 0)
	for _, c := range []struct {
		s, t int64
		want string
		code int64
	}{
		{0, 1, "(1)", impl.ErrNone}, {5, 1, "(32)", impl.ErrNone}, {6, 1, "0", impl.ErrLimit}, {0, 5, "(0,0,0,0,1)", impl.ErrNone}, {0, 6, "0", impl.ErrLimit}, {1, 5, "0", impl.ErrLimit}, {3, 2, "(0,8)", impl.ErrNone}, {4, 2, "0", impl.ErrLimit}, {2, 3, "(0,0,4)", impl.ErrNone}, {3, 3, "0", impl.ErrLimit},
		{1, 4, "(0,0,0,2)", impl.ErrNone}, {2, 4, "0", impl.ErrLimit}, {10, 1, "0", impl.ErrLimit}, {0, 10, "0", impl.ErrLimit}, {10, 10, "0", impl.ErrLimit}, {11, 1, "0", impl.ErrRange}, {0, 11, "0", impl.ErrRange}, {-1, 1, "0", impl.ErrRange}, {0, 0, "0", impl.ErrRange}, {10, 11, "0", impl.ErrRange}, {11, 10, "0", impl.ErrRange},
	} {
		got, code := impl.ElementP(c.s, c.t)
		checkElement(t, fmt.Sprintf("ElementP(%d, %d)", c.s, c.t), got, code, sure(impl.ParseMilnor(c.want)), c.code)
	}
	for _, bad := range append(outside(10), 64, 63, 32) {
		for _, other := range append(outside(10), 0, 1, 5, 10) {
			got, code := impl.ElementP(bad, other)
			checkElement(t, fmt.Sprintf("ElementP(%d, %d)", bad, other), got, code, impl.Milnor{}, impl.ErrRange)
			got, code = impl.ElementP(other, bad)
			checkElement(t, fmt.Sprintf("ElementP(%d, %d)", other, bad), got, code, impl.Milnor{}, impl.ErrRange)
		}
	}
}

func TestElementQ(t *testing.T) {
	for i := range int64(10) {
		want, wantCode := impl.Milnor{}, int64(impl.ErrLimit)
		if i <= 4 {
			want, wantCode = elementOf(append(make([]int64, i), 1)), impl.ErrNone
		}
		got, code := impl.ElementQ(i)
		checkElement(t, fmt.Sprintf("ElementQ(%d)", i), got, code, want, wantCode)
		checkSeparate(t, "ElementQ", got.Terms)
		for j := range i {
			a, first := impl.ElementQ(i)
			b, second := impl.ElementQ(j)
			if first == impl.ErrNone && second == impl.ErrNone && elementDegree(a)+elementDegree(b) <= impl.MaxDegree {
				commutator, code := impl.CommutatorOf(a, b)
				checkElement(t, fmt.Sprintf("the commutator of Q(%d) and Q(%d)", i, j), commutator, code, impl.Milnor{}, impl.ErrNone)
			}
		}
	}
	for i := range int64(4) {
		q := sure(impl.ElementQ(i))
		square, code := impl.MultiplyMilnor(q, q)
		checkElement(t, fmt.Sprintf("the square of Q(%d)", i), square, code, impl.Milnor{}, impl.ErrNone)
	}
	for _, i := range append(outside(9), 62, 63, 64) {
		got, code := impl.ElementQ(i)
		checkElement(t, fmt.Sprintf("ElementQ(%d)", i), got, code, impl.Milnor{}, impl.ErrRange)
	}
}

// TestExcessOfMilnor compares with the Terms, and with the excess of the admissible words.
func TestExcessOfMilnor(t *testing.T) {
	for _, m := range manyElements() {
		if len(m.Terms) == 0 {
			continue
		}
		least, leastOfWords := int64(math.MaxInt64), int64(math.MaxInt64)
		for _, r := range m.Terms {
			least = min(least, degreeByTrial(r))
		}
		for _, word := range sure(impl.SquaresOfMilnor(m)).Terms {
			leastOfWords = min(leastOfWords, excessByTrial(word))
		}
		excess, code := impl.ExcessOfMilnor(m)
		name := fmt.Sprintf("ExcessOfMilnor(%v)", m)
		checkNumber(t, name, excess, code, least, impl.ErrNone)
		checkNumber(t, name+" by words", excess, code, leastOfWords, impl.ErrNone)
	}
	for text, want := range map[string]int64{"()": 0, "(1)": 1, "(40)": 40, "(0,1)": 1, "(0,1)+(3)": 1, "(9,0,0,0,1)": 10, "(0,0,0,0,1)": 1, "(0,2,0,1)+(21)": 3} {
		excess, code := impl.ExcessOfMilnor(sure(impl.ParseMilnor(text)))
		checkNumber(t, "ExcessOfMilnor of "+text, excess, code, want, impl.ErrNone)
	}
	for _, zero := range []impl.Milnor{{}, elementOf()} {
		excess, code := impl.ExcessOfMilnor(zero)
		checkNumber(t, "ExcessOfMilnor of 0", excess, code, 0, impl.ErrState)
	}
}

// maskOf returns the number whose binary digits are the coordinates of an element of degree d.
func maskOf(m impl.Milnor, d int64) *big.Int {
	mask := new(big.Int)
	for i, bit := range coordinatesByTrial(m, d) {
		mask.SetBit(mask, i, uint(bit))
	}
	return mask
}

// maskSpace is a space of masks, by the places of their last digits that are 1.
type maskSpace map[int]*big.Int

// left returns what is left of a mask without the rows of the space.
func (space maskSpace) left(mask *big.Int) *big.Int {
	left := new(big.Int).Set(mask)
	for place := left.BitLen(); place > 0; place-- {
		if row := space[place]; row != nil && left.Bit(place-1) == 1 {
			left.Xor(left, row)
		}
	}
	return left
}

// productsOfDegree returns the space of the sums of products of elements of lesser degrees of at
// least 1.
func productsOfDegree(d int64) maskSpace {
	space := maskSpace{}
	for c := int64(1); c < d; c++ {
		for _, a := range sure(impl.MilnorBasis(c)) {
			for _, b := range sure(impl.MilnorBasis(d - c)) {
				if left := space.left(maskOf(sure(impl.MultiplyMilnor(a, b)), d)); left.Sign() != 0 {
					space[left.BitLen()] = left
				}
			}
		}
	}
	return space
}

func TestIsDecomposable(t *testing.T) {
	n := numbers(67)
	for d := int64(1); d <= 17; d++ {
		space := productsOfDegree(d)
		elements := append(sure(impl.MilnorBasis(d)), elementOf(exponentListsByTrial(d)...), impl.Milnor{})
		for range 20 {
			elements = append(elements, n.element(d))
		}
		for _, m := range elements {
			got, code := impl.IsDecomposable(m)
			if want := space.left(maskOf(m, d)).Sign() == 0; got != want || code != impl.ErrNone {
				t.Errorf("IsDecomposable(%v) = %v, %d; want %v", m, got, code, want)
			}
		}
	}
	for _, m := range manyElements() {
		d, want := elementDegree(m), true
		for _, power := range []int64{1, 2, 4, 8, 16, 32} {
			want = want && !(d == power && slices.Equal(m.Terms[len(m.Terms)-1], []int64{d}))
		}
		want = want && !(d == 0 && len(m.Terms) == 1)
		got, code := impl.IsDecomposable(m)
		if got != want || code != impl.ErrNone {
			t.Errorf("IsDecomposable(%v) = %v, %d; want %v", m, got, code, want)
		}
	}
	for text, want := range map[string]bool{"0": true, "()": false, "(1)": false, "(2)": false, "(3)": true, "(0,1)": true, "(4)": false, "(1,1)": true, "(1,1)+(4)": false, "(32)": false, "(33)": true, "(40)": true, "(1,0,0,0,1)": true, "(1,0,0,0,1)+(32)": false} {
		got, code := impl.IsDecomposable(sure(impl.ParseMilnor(text)))
		if got != want || code != impl.ErrNone {
			t.Errorf("IsDecomposable of %s = %v, %d", text, got, code)
		}
	}
}

// nilpotenceByTrial multiplies until the product is 0, or its degree would be too great.
func nilpotenceByTrial(m impl.Milnor) (int64, int64) {
	power := m
	for k := int64(1); ; k++ {
		if len(power.Terms) == 0 {
			return k, impl.ErrNone
		}
		if elementDegree(m) == 0 {
			return 0, impl.ErrState
		}
		if (k+1)*elementDegree(m) > impl.MaxDegree {
			return 0, impl.ErrLimit
		}
		power = sure(impl.MultiplyMilnor(power, m))
	}
}

func TestNilpotenceOf(t *testing.T) {
	for _, m := range manyElements() {
		want, wantCode := nilpotenceByTrial(m)
		k, code := impl.NilpotenceOf(m)
		checkNumber(t, fmt.Sprintf("NilpotenceOf(%v)", m), k, code, want, wantCode)
	}
	for _, c := range []struct {
		text       string
		want, code int64
	}{
		{"0", 1, impl.ErrNone}, {"()", 0, impl.ErrState}, {"(1)", 2, impl.ErrNone}, {"(2)", 4, impl.ErrNone}, {"(4)", 6, impl.ErrNone}, {"(8)", 0, impl.ErrLimit}, {"(3)", 3, impl.ErrNone}, {"(20)", 0, impl.ErrLimit}, {"(21)", 0, impl.ErrLimit}, {"(40)", 0, impl.ErrLimit},
		{"(0,1)", 2, impl.ErrNone}, {"(0,0,1)", 2, impl.ErrNone}, {"(0,0,0,1)", 2, impl.ErrNone}, {"(0,0,0,0,1)", 0, impl.ErrLimit}, {"(0,2)", 2, impl.ErrNone}, {"(0,4)", 0, impl.ErrLimit},
	} {
		k, code := impl.NilpotenceOf(sure(impl.ParseMilnor(c.text)))
		checkNumber(t, "NilpotenceOf "+c.text, k, code, c.want, c.code)
	}
}

// TestNilpotenceOfP has a theorem of Monks: for P(s, t) it is 2 more than twice the integer part of
// s / t.
func TestNilpotenceOfP(t *testing.T) {
	for s := range int64(11) {
		for place := int64(1); place <= 10; place++ {
			p, code := impl.ElementP(s, place)
			if code != impl.ErrNone {
				continue
			}
			want, wantCode := 2*(s/place)+2, int64(impl.ErrNone)
			if want*elementDegree(p) > impl.MaxDegree {
				want, wantCode = 0, impl.ErrLimit
			}
			k, code := impl.NilpotenceOf(p)
			checkNumber(t, fmt.Sprintf("NilpotenceOf P(%d, %d)", s, place), k, code, want, wantCode)
		}
	}
}

// TestConversionsOfBadElements tells that ErrInvalid comes before all other errors: the elements are
// of too great degrees, of the degree 0 and of others, too.
func TestConversionsOfBadElements(t *testing.T) {
	calls := map[string]func(m impl.Milnor) (bool, int64){
		"SquaresOfMilnor": func(m impl.Milnor) (bool, int64) {
			a, code := impl.SquaresOfMilnor(m)
			return len(a.Terms) == 0, code
		},
		"ConjugateOf":    func(m impl.Milnor) (bool, int64) { return isZeroElement(impl.ConjugateOf(m)) },
		"ExcessOfMilnor": func(m impl.Milnor) (bool, int64) { return isZeroNumber(impl.ExcessOfMilnor(m)) },
		"IsDecomposable": func(m impl.Milnor) (bool, int64) {
			yes, code := impl.IsDecomposable(m)
			return !yes, code
		},
		"NilpotenceOf": func(m impl.Milnor) (bool, int64) { return isZeroNumber(impl.NilpotenceOf(m)) },
	}
	for _, bad := range badElements() {
		for name, call := range calls {
			if zero, code := call(bad); !zero || code != impl.ErrInvalid {
				t.Errorf("%s(%.40v): zero value %v, code %d", name, bad, zero, code)
			}
		}
	}
}

// TestConversionsKeepArguments also tells that no result shares memory with an argument, or with
// another result.
func TestConversionsKeepArguments(t *testing.T) {
	element := [][]int64{{0, 1, 1}, {1, 3}, {3, 0, 1}, {10}}
	words := [][]int64{{2, 1, 4}, {4, 2, 1}, {5, 2}, {6, 1}, {7}}
	calls := map[string]struct {
		lists [][]int64
		call  func(lists [][]int64) [][]int64
	}{
		"MilnorOfWord":             {[][]int64{{5, 2, 1}}, func(lists [][]int64) [][]int64 { return sure(impl.MilnorOfWord(lists[0])).Terms }},
		"MilnorOfWord of a letter": {[][]int64{{5}}, func(lists [][]int64) [][]int64 { return sure(impl.MilnorOfWord(lists[0])).Terms }},
		"MilnorOfWord of none":     {[][]int64{{}}, func(lists [][]int64) [][]int64 { return sure(impl.MilnorOfWord(lists[0])).Terms }},
		"MilnorOfSquares":          {words, func(lists [][]int64) [][]int64 { return sure(impl.MilnorOfSquares(impl.Squares{Terms: lists})).Terms }},
		"MilnorOfSquares of 1":     {[][]int64{{}}, func(lists [][]int64) [][]int64 { return sure(impl.MilnorOfSquares(impl.Squares{Terms: lists})).Terms }},
		"SquaresOfMilnor":          {element, func(lists [][]int64) [][]int64 { return sure(impl.SquaresOfMilnor(impl.Milnor{Terms: lists})).Terms }},
		"SquaresOfMilnor of 1":     {[][]int64{{}}, func(lists [][]int64) [][]int64 { return sure(impl.SquaresOfMilnor(impl.Milnor{Terms: lists})).Terms }},
		"BasisChange":              {nil, func(lists [][]int64) [][]int64 { return sure(impl.BasisChange(10)) }},
		"ConjugateOf":              {element, func(lists [][]int64) [][]int64 { return sure(impl.ConjugateOf(impl.Milnor{Terms: lists})).Terms }},
		"ConjugateOf 1":            {[][]int64{{}}, func(lists [][]int64) [][]int64 { return sure(impl.ConjugateOf(impl.Milnor{Terms: lists})).Terms }},
		"ElementP":                 {nil, func(lists [][]int64) [][]int64 { return sure(impl.ElementP(1, 3)).Terms }},
		"ElementQ":                 {nil, func(lists [][]int64) [][]int64 { return sure(impl.ElementQ(3)).Terms }},
		"ExcessOfMilnor":           {element, func(lists [][]int64) [][]int64 { sure(impl.ExcessOfMilnor(impl.Milnor{Terms: lists})); return nil }},
		"IsDecomposable":           {element, func(lists [][]int64) [][]int64 { sure(impl.IsDecomposable(impl.Milnor{Terms: lists})); return nil }},
		"NilpotenceOf":             {[][]int64{{0, 1}, {3}}, func(lists [][]int64) [][]int64 { sure(impl.NilpotenceOf(impl.Milnor{Terms: lists})); return nil }},
		"errors": {[][]int64{{4, 1}, {2, 1}, {0}}, func(lists [][]int64) [][]int64 {
			impl.MilnorOfWord(lists[2])
			impl.MilnorOfSquares(impl.Squares{Terms: lists})
			impl.SquaresOfMilnor(impl.Milnor{Terms: lists})
			impl.ConjugateOf(impl.Milnor{Terms: lists})
			impl.ExcessOfMilnor(impl.Milnor{Terms: lists})
			impl.IsDecomposable(impl.Milnor{Terms: lists})
			impl.NilpotenceOf(impl.Milnor{Terms: lists})
			return nil
		}},
	}
	for name, c := range calls {
		checkKept(t, name, c.lists, c.call)
	}
}
