package tests

import (
	"fmt"
	"math"
	"slices"
	"strings"
	"testing"

	"loop.example/g01154/impl"
)

func TestConstantsOfChapter3(t *testing.T) {
	if impl.MaxTerms != 2000 || impl.MaxLetter != 20 {
		t.Errorf("limits %d, %d", impl.MaxTerms, impl.MaxLetter)
	}
}

// squaresOf returns a sum of squares with spare capacity behind all of its lists.
func squaresOf(words ...[]int64) impl.Squares {
	return impl.Squares{Terms: spareLists(words)}
}

func checkSquares(t *testing.T, name string, got impl.Squares, code int64, want impl.Squares, wantCode int64) {
	t.Helper()
	if !equalLists(got.Terms, want.Terms) || code != wantCode {
		t.Errorf("%s = %v, %d; want %v, %d", name, got, code, want, wantCode)
	}
}

func degreeByTrial(word []int64) int64 {
	sum := int64(0)
	for _, n := range word {
		sum += n
	}
	return sum
}

// wordsOfDegree returns, in ascending order, all words of a degree with at most so many integers.
func wordsOfDegree(d int64, length int) [][]int64 {
	if d == 0 {
		return [][]int64{{}}
	}
	var words [][]int64
	for n := int64(1); n <= d && length > 0; n++ {
		for _, rest := range wordsOfDegree(d-n, length-1) {
			words = append(words, slices.Concat([]int64{n}, rest))
		}
	}
	return words
}

// word returns a word of degree d: its integers are below 1 + most.
func (n *numbers) word(d, most int64) []int64 {
	for {
		var word []int64
		for left := d; left > 0; left -= word[len(word)-1] {
			word = append(word, 1+n.below(min(left, most)))
		}
		if len(word) <= impl.MaxLetter {
			return word
		}
	}
}

// sum returns a sum of squares of degree d with at most so many Terms.
func (n *numbers) sum(d, most int64, terms int) impl.Squares {
	var words [][]int64
	for range terms {
		words = append(words, n.word(d, most))
	}
	slices.SortFunc(words, slices.Compare)
	return impl.Squares{Terms: slices.CompactFunc(words, slices.Equal[[]int64])}
}

// isAdmissibleByTrial compares each integer with the next one, as the chapter says it.
func isAdmissibleByTrial(word []int64) bool {
	for i := range word {
		if i+1 < len(word) && word[i] < word[i+1]+word[i+1] {
			return false
		}
	}
	return true
}

func excessByTrial(word []int64) int64 {
	excess := int64(0)
	for i, n := range word {
		if i == 0 {
			excess = n
		} else {
			excess -= n
		}
	}
	return excess
}

// milnorTerm is an element of Milnor's basis of degree at most 40, by its exponents.
type milnorTerm [6]int64

// milnorSum holds Milnor's basis elements whose coefficient is 1.
type milnorSum map[milnorTerm]bool

func (sum milnorSum) toggle(term milnorTerm) {
	if sum[term] {
		delete(sum, term)
	} else {
		sum[term] = true
	}
}

// addProduct adds Sq(n) times a basis element, by Milnor's product formula: moved counts what the
// row of n takes away from each exponent.
func (sum milnorSum) addProduct(n int64, s milnorTerm) {
	var choose func(j int, left int64, moved milnorTerm)
	choose = func(j int, left int64, moved milnorTerm) {
		if j == len(s) {
			var t milnorTerm
			for k := range t {
				kept, arrived := s[k]-moved[k], left
				if k > 0 {
					arrived = moved[k-1]
				}
				if kept&arrived != 0 {
					return
				}
				t[k] = kept + arrived
			}
			if moved[len(s)-1] == 0 {
				sum.toggle(t)
			}
			return
		}
		for x := int64(0); x <= s[j] && x<<(j+1) <= left; x++ {
			moved[j] = x
			choose(j+1, left-x<<(j+1), moved)
		}
	}
	choose(0, n, milnorTerm{})
}

// milnorOf returns the sum of words in Milnor's basis. It knows nothing of Adem's relations.
func milnorOf(words [][]int64) milnorSum {
	sum := milnorSum{}
	for _, word := range words {
		product := milnorSum{{}: true}
		for _, n := range slices.Backward(word) {
			next := milnorSum{}
			for term := range product {
				next.addProduct(n, term)
			}
			product = next
		}
		for term := range product {
			sum.toggle(term)
		}
	}
	return sum
}

func equalMilnor(a, b milnorSum) bool {
	for term := range a {
		if !b[term] {
			return false
		}
	}
	return len(a) == len(b)
}

// badWords are lists that are no words, each for one reason.
func badWords() [][]int64 {
	bad := [][]int64{{0}, {2, 0}, {0, 2}, {3, -1, 1}, {-1}, {-1, 2}, {41}, {40, 1}, {1, 40}, {20, 20, 1}, {21, 20}, slices.Repeat([]int64{1}, 21), slices.Repeat([]int64{2}, 21), slices.Repeat([]int64{1}, 41)}
	for _, end := range []int64{math.MinInt64, math.MaxInt64, math.MinInt64 + 1, 1 << 32, 1 << 62} {
		bad = append(bad, []int64{end}, []int64{end, end}, []int64{2, end}, []int64{end, 2}, []int64{end, -end}, []int64{end, end, end, end})
	}
	return bad
}

// badSums are no sums of squares, each for one reason.
func badSums() []impl.Squares {
	bad := []impl.Squares{
		squaresOf([]int64{1}, []int64{2}), squaresOf([]int64{}, []int64{1}), squaresOf([]int64{2, 1}, []int64{2, 2}), squaresOf([]int64{1, 1}, []int64{2, 1}, []int64{3}),
		squaresOf([]int64{3}, []int64{2, 1}), squaresOf([]int64{3}, []int64{3}), squaresOf([]int64{}, []int64{}), squaresOf([]int64{1, 2}, []int64{3}, []int64{2, 1}),
		squaresOf([]int64{-1, 4}, []int64{3}), squaresOf([]int64{1, 2}, []int64{3}, []int64{4, -1}), squaresOf([]int64{0, 3}, []int64{3}), squaresOf([]int64{3}, []int64{3, 0}),
		squaresOf([]int64{1, math.MaxInt64, math.MaxInt64, 3}, []int64{2}), squaresOf([]int64{2}, []int64{math.MaxInt64, math.MaxInt64, 4}),
		{Terms: wordsOfDegree(13, 20)[:2001]}, {Terms: wordsOfDegree(12, 20)[:2001]},
	}
	for _, word := range badWords() {
		bad = append(bad, squaresOf(word))
	}
	return bad
}

// goodSums are sums of squares at and within the limits.
func goodSums() []impl.Squares {
	n := numbers(3)
	good := []impl.Squares{
		{}, squaresOf(), squaresOf([]int64{}), {Terms: [][]int64{nil}}, squaresOf([]int64{1}), squaresOf([]int64{40}), squaresOf([]int64{20, 20}), squaresOf([]int64{1, 39}, []int64{39, 1}, []int64{40}),
		squaresOf(slices.Repeat([]int64{1}, 20)), squaresOf(slices.Repeat([]int64{2}, 20)), squaresOf([]int64{2, 1}, []int64{3}), squaresOf([]int64{1, 2}, []int64{2, 1}),
		{Terms: wordsOfDegree(12, 20)[:2000]}, {Terms: wordsOfDegree(40, 4)[7919:9919]}, {Terms: wordsOfDegree(11, 20)},
	}
	for _, most := range []int64{40, 20, 12, 6} {
		good = append(good, n.sum(40, most, 30), n.sum(20, most, 30), n.sum(13, most, 5))
	}
	return good
}

func TestIsSquares(t *testing.T) {
	for _, a := range goodSums() {
		if !impl.IsSquares(a) {
			t.Errorf("IsSquares(%v) is false", a)
		}
	}
	for _, a := range badSums() {
		if impl.IsSquares(a) {
			t.Errorf("IsSquares(%v) is true", a)
		}
	}
}

func TestWordsOfChapter3(t *testing.T) {
	words := [][]int64{nil, {}, {40}, {1, 39}, {39, 1}, {27, 13}, {26, 13, 1}, {26, 12, 2}, {20, 10, 5, 2, 1}, {21, 10, 5, 2, 1}, {22, 10, 5, 2, 1}, slices.Repeat([]int64{1}, 20), slices.Repeat([]int64{2}, 20)}
	for d := range int64(11) {
		words = append(words, wordsOfDegree(d, 20)...)
	}
	for _, word := range words {
		admissible, code := impl.IsAdmissible(spareList(word))
		if admissible != isAdmissibleByTrial(word) || code != impl.ErrNone {
			t.Errorf("IsAdmissible(%v) = %v, %d", word, admissible, code)
		}
		excess, code := impl.ExcessOf(spareList(word))
		checkNumber(t, fmt.Sprintf("ExcessOf(%v)", word), excess, code, excessByTrial(word), impl.ErrNone)
	}
	for _, word := range badWords() {
		if admissible, code := impl.IsAdmissible(word); admissible || code != impl.ErrInvalid {
			t.Errorf("IsAdmissible(%v) = %v, %d", word, admissible, code)
		}
		excess, code := impl.ExcessOf(word)
		checkNumber(t, fmt.Sprintf("ExcessOf(%v)", word), excess, code, 0, impl.ErrInvalid)
	}
}

// pascalParities returns the parities of so many rows of Pascal's triangle.
func pascalParities(rows int) [][]int {
	triangle := make([][]int, rows)
	for n := range triangle {
		triangle[n] = make([]int, rows+1)
		triangle[n][0] = 1
		for k := 1; k <= n; k++ {
			triangle[n][k] = (triangle[n-1][k-1] + triangle[n-1][k]) % 2
		}
	}
	return triangle
}

// ademByTrial returns the words of Adem's relation, or the word {a, b} where there is none.
func ademByTrial(triangle [][]int, a, b int64) [][]int64 {
	if a >= 2*b {
		return [][]int64{{a, b}}
	}
	var words [][]int64
	for j := a / 2; j >= 0; j-- {
		if triangle[b-j-1][a-2*j] == 1 && j > 0 {
			words = append(words, []int64{a + b - j, j})
		} else if triangle[b-j-1][a-2*j] == 1 {
			words = append(words, []int64{a + b})
		}
	}
	return words
}

func TestAdemRelation(t *testing.T) {
	triangle := pascalParities(42)
	for a := int64(1); a <= 40; a++ {
		for b := int64(1); b <= 40; b++ {
			name := fmt.Sprintf("AdemRelation(%d, %d)", a, b)
			got, code := impl.AdemRelation(a, b)
			if a+b > 40 {
				checkSquares(t, name, got, code, impl.Squares{}, impl.ErrLimit)
				continue
			}
			checkSquares(t, name, got, code, impl.Squares{Terms: ademByTrial(triangle, a, b)}, impl.ErrNone)
			if !equalMilnor(milnorOf([][]int64{{a, b}}), milnorOf(got.Terms)) {
				t.Errorf("%s = %v is another element", name, got)
			}
			checkSeparate(t, name, got.Terms)
		}
	}
}

func TestAdemRelationOutside(t *testing.T) {
	for _, n := range append(outside(40), 0) {
		for _, other := range []int64{1, 2, 40, 0, 41, n} {
			for _, pair := range [][2]int64{{n, other}, {other, n}} {
				got, code := impl.AdemRelation(pair[0], pair[1])
				checkSquares(t, fmt.Sprintf("AdemRelation%v", pair), got, code, impl.Squares{}, impl.ErrRange)
			}
		}
	}
}

// squaresSumByTrial returns the words that are in exactly one of both sums, in ascending order.
func squaresSumByTrial(a, b impl.Squares) impl.Squares {
	var sum impl.Squares
	for _, pair := range [][2]impl.Squares{{a, b}, {b, a}} {
		for _, word := range pair[0].Terms {
			if !slices.ContainsFunc(pair[1].Terms, func(other []int64) bool { return slices.Equal(word, other) }) {
				sum.Terms = append(sum.Terms, word)
			}
		}
	}
	slices.SortFunc(sum.Terms, slices.Compare)
	return sum
}

func sumDegree(a impl.Squares) int64 {
	if len(a.Terms) == 0 {
		return 0
	}
	return degreeByTrial(a.Terms[0])
}

func TestAddSquares(t *testing.T) {
	for _, a := range goodSums() {
		for _, b := range goodSums() {
			got, code := impl.AddSquares(a, b)
			want, wantCode := impl.Squares{}, int64(impl.ErrRange)
			if len(a.Terms) == 0 || len(b.Terms) == 0 || sumDegree(a) == sumDegree(b) {
				want, wantCode = squaresSumByTrial(a, b), impl.ErrNone
			}
			if len(want.Terms) > impl.MaxTerms {
				want, wantCode = impl.Squares{}, impl.ErrLimit
			}
			checkSquares(t, "AddSquares", got, code, want, wantCode)
		}
	}
}

func TestAddSquaresToZero(t *testing.T) {
	for _, a := range goodSums() {
		zero, code := impl.AddSquares(a, a)
		checkSquares(t, "a + a", zero, code, impl.Squares{}, impl.ErrNone)
		same, code := impl.AddSquares(impl.Squares{}, a)
		checkSquares(t, "0 + a", same, code, a, impl.ErrNone)
		same, code = impl.AddSquares(a, impl.Squares{})
		checkSquares(t, "a + 0", same, code, a, impl.ErrNone)
	}
	one := squaresOf([]int64{})
	_, code := impl.AddSquares(one, squaresOf([]int64{1}))
	checkNumber(t, "1 + Sq1", 0, code, 0, impl.ErrRange)
}

func TestAddSquaresAtLimit(t *testing.T) {
	words := wordsOfDegree(13, 20)
	most := impl.Squares{Terms: words[:2000]}
	got, code := impl.AddSquares(impl.Squares{Terms: words[:1000]}, impl.Squares{Terms: words[1000:2000]})
	checkSquares(t, "2000 Terms", got, code, most, impl.ErrNone)
	got, code = impl.AddSquares(impl.Squares{Terms: words[:1001]}, impl.Squares{Terms: words[1001:2002]})
	checkSquares(t, "2002 Terms", got, code, impl.Squares{}, impl.ErrLimit)
	got, code = impl.AddSquares(most, impl.Squares{Terms: words[2000:2001]})
	checkSquares(t, "2001 Terms", got, code, impl.Squares{}, impl.ErrLimit)
	got, code = impl.AddSquares(most, impl.Squares{Terms: words[1998:2002]})
	checkSquares(t, "2000 Terms of 2004", got, code, impl.Squares{Terms: slices.Concat(words[:1998], words[2000:2002])}, impl.ErrNone)
	got, code = impl.AddSquares(most, squaresOf([]int64{12}))
	checkSquares(t, "another degree", got, code, impl.Squares{}, impl.ErrRange)
}

// checkForm fails unless a form is a sum of squares with admissible words of a degree.
func checkForm(t *testing.T, name string, form impl.Squares, degree int64) {
	t.Helper()
	if !impl.IsSquares(form) {
		t.Errorf("%s = %v is no sum of squares", name, form)
	}
	for _, word := range form.Terms {
		if !isAdmissibleByTrial(word) || degreeByTrial(word) != degree {
			t.Errorf("%s has the word %v", name, word)
		}
	}
}

func TestAdmissibleForm(t *testing.T) {
	sums := goodSums()
	for d := range int64(10) {
		for _, word := range wordsOfDegree(d, 20) {
			sums = append(sums, squaresOf(word))
		}
	}
	for _, a := range sums {
		form, code := impl.AdmissibleForm(a)
		checkForm(t, "AdmissibleForm", form, sumDegree(a))
		if code != impl.ErrNone || !equalMilnor(milnorOf(a.Terms), milnorOf(form.Terms)) {
			t.Errorf("AdmissibleForm(%v) = %v, %d is another element", a, form, code)
		}
		again, code := impl.AdmissibleForm(form)
		checkSquares(t, "AdmissibleForm again", again, code, form, impl.ErrNone)
	}
	form, code := impl.AdmissibleForm(squaresOf([]int64{2, 2}, []int64{3, 1}))
	checkSquares(t, "Sq2 Sq2+Sq3 Sq1", form, code, impl.Squares{}, impl.ErrNone)
	form, code = impl.AdmissibleForm(squaresOf([]int64{}))
	checkSquares(t, "1", form, code, squaresOf([]int64{}), impl.ErrNone)
}

// TestAdmissibleFormIsUnique replaces two integers in the midst of words by Adem's relation.
func TestAdmissibleFormIsUnique(t *testing.T) {
	n, triangle := numbers(7), pascalParities(42)
	for range 400 {
		front, a, b, back := n.word(n.below(10), 4), 1+n.below(9), 1+n.below(9), n.word(n.below(12), 5)
		word := slices.Concat(front, []int64{a, b}, back)
		if len(word) > impl.MaxLetter {
			continue
		}
		var words [][]int64
		for _, pair := range ademByTrial(triangle, a, b) {
			words = append(words, slices.Concat(front, pair, back))
		}
		want := sure(impl.AdmissibleForm(squaresOf(word)))
		got, code := impl.AdmissibleForm(impl.Squares{Terms: words})
		checkSquares(t, fmt.Sprintf("AdmissibleForm of the relations of %v", word), got, code, want, impl.ErrNone)
	}
}

// TestAdmissibleWordsAreIndependent tells that no sum of several of them is 0, in degrees in which
// all sums can be tried, and that each of them is its own form in the others.
func TestAdmissibleWordsAreIndependent(t *testing.T) {
	for d := range int64(14) {
		basis := sure(impl.AdmissibleBasis(d))
		for mask := 1; mask < 1<<len(basis); mask++ {
			var words [][]int64
			for i, word := range basis {
				if mask>>i&1 == 1 {
					words = append(words, word)
				}
			}
			if len(milnorOf(words)) == 0 {
				t.Errorf("the sum of %v is 0", words)
			}
		}
	}
	for d := range int64(41) {
		all := impl.Squares{Terms: sure(impl.AdmissibleBasis(d))}
		form, code := impl.AdmissibleForm(all)
		checkSquares(t, "the form of all", form, code, all, impl.ErrNone)
	}
}

// productByJoining returns the admissible form of all words of a followed by words of b.
func productByJoining(a, b impl.Squares) impl.Squares {
	var sum impl.Squares
	for _, first := range a.Terms {
		for _, second := range b.Terms {
			form := sure(impl.AdmissibleForm(squaresOf(slices.Concat(first, second))))
			sum = sure(impl.AddSquares(sum, form))
		}
	}
	return sum
}

func TestMultiplySquares(t *testing.T) {
	n := numbers(11)
	for range 100 {
		c, d := n.below(20), n.below(21)
		a, b := n.sum(c, 9, 6), n.sum(d, 9, 6)
		if len(a.Terms[0])+len(b.Terms[0]) > impl.MaxLetter || tooLong(a, b) {
			continue
		}
		got, code := impl.MultiplySquares(a, b)
		checkForm(t, "MultiplySquares", got, c+d)
		checkSquares(t, fmt.Sprintf("MultiplySquares(%v, %v)", a, b), got, code, productByJoining(a, b), impl.ErrNone)
	}
	for _, a := range goodSums() {
		form := sure(impl.AdmissibleForm(a))
		one := squaresOf([]int64{})
		got, code := impl.MultiplySquares(a, one)
		checkSquares(t, "a times 1", got, code, form, impl.ErrNone)
		got, code = impl.MultiplySquares(one, a)
		checkSquares(t, "1 times a", got, code, form, impl.ErrNone)
		got, code = impl.MultiplySquares(a, impl.Squares{})
		checkSquares(t, "a times 0", got, code, impl.Squares{}, impl.ErrNone)
		got, code = impl.MultiplySquares(squaresOf(), a)
		checkSquares(t, "0 times a", got, code, impl.Squares{}, impl.ErrNone)
	}
}

// tooLong tells whether some word of a followed by one of b has more than MaxLetter integers.
func tooLong(a, b impl.Squares) bool {
	for _, first := range a.Terms {
		for _, second := range b.Terms {
			if len(first)+len(second) > impl.MaxLetter {
				return true
			}
		}
	}
	return false
}

func TestMultiplySquaresIsAssociative(t *testing.T) {
	n := numbers(13)
	for range 150 {
		a, b, c := n.sum(n.below(14), 8, 4), n.sum(n.below(14), 8, 4), n.sum(n.below(13), 8, 4)
		left := sure(impl.MultiplySquares(sure(impl.MultiplySquares(a, b)), c))
		right := sure(impl.MultiplySquares(a, sure(impl.MultiplySquares(b, c))))
		if !equalLists(left.Terms, right.Terms) {
			t.Errorf("products of %v, %v and %v: %v and %v", a, b, c, left, right)
		}
	}
	for range 60 {
		d := n.below(20)
		a, b, c := n.sum(d, 8, 4), n.sum(d, 8, 4), n.sum(n.below(20), 8, 4)
		sum := sure(impl.AddSquares(a, b))
		want := sure(impl.AddSquares(sure(impl.MultiplySquares(a, c)), sure(impl.MultiplySquares(b, c))))
		got, code := impl.MultiplySquares(sum, c)
		checkSquares(t, "a sum times c", got, code, want, impl.ErrNone)
		want = sure(impl.AddSquares(sure(impl.MultiplySquares(c, a)), sure(impl.MultiplySquares(c, b))))
		got, code = impl.MultiplySquares(c, sum)
		checkSquares(t, "c times a sum", got, code, want, impl.ErrNone)
	}
}

func TestMultiplySquaresAtLimit(t *testing.T) {
	for _, c := range []struct{ first, second, code int64 }{{20, 20, impl.ErrNone}, {39, 1, impl.ErrNone}, {1, 39, impl.ErrNone}, {20, 21, impl.ErrLimit}, {40, 1, impl.ErrLimit}, {1, 40, impl.ErrLimit}, {40, 40, impl.ErrLimit}} {
		got, code := impl.MultiplySquares(squaresOf([]int64{c.first}), squaresOf([]int64{c.second}))
		want := impl.Squares{}
		if c.code == impl.ErrNone {
			want = sure(impl.AdemRelation(c.first, c.second))
		}
		checkSquares(t, fmt.Sprintf("Sq%d times Sq%d", c.first, c.second), got, code, want, c.code)
	}
	// The words that follow each other may be longer than MaxLetter.
	long := squaresOf(slices.Repeat([]int64{1}, 20))
	got, code := impl.MultiplySquares(long, long)
	checkSquares(t, "40 times Sq1", got, code, impl.Squares{}, impl.ErrNone)
	many := impl.Squares{Terms: wordsOfDegree(13, 20)[2000:4000]}
	form := sure(impl.AdmissibleForm(many))
	got, code = impl.MultiplySquares(many, many)
	checkSquares(t, "4000000 words", got, code, productByJoining(form, form), impl.ErrNone)
	got, code = impl.MultiplySquares(squaresOf([]int64{40}), impl.Squares{})
	checkSquares(t, "Sq40 times 0", got, code, impl.Squares{}, impl.ErrNone)
}

func TestInvalidSumsOfSquares(t *testing.T) {
	zero := impl.Squares{}
	for _, bad := range badSums() {
		got, code := impl.AdmissibleForm(bad)
		checkSquares(t, "AdmissibleForm", got, code, zero, impl.ErrInvalid)
		text, code := impl.SquaresText(bad)
		if text != "" || code != impl.ErrInvalid {
			t.Errorf("SquaresText(%v) = %q, %d", bad, text, code)
		}
		// ErrInvalid comes before the errors of different and of great degrees.
		for _, other := range []impl.Squares{zero, bad, squaresOf([]int64{40}), squaresOf([]int64{7})} {
			for _, pair := range [][2]impl.Squares{{bad, other}, {other, bad}} {
				got, code = impl.AddSquares(pair[0], pair[1])
				checkSquares(t, "AddSquares", got, code, zero, impl.ErrInvalid)
				got, code = impl.MultiplySquares(pair[0], pair[1])
				checkSquares(t, "MultiplySquares", got, code, zero, impl.ErrInvalid)
			}
		}
	}
}

func TestAdmissibleBasis(t *testing.T) {
	for d := range int64(41) {
		name := fmt.Sprintf("AdmissibleBasis(%d)", d)
		basis, code := impl.AdmissibleBasis(d)
		checkForm(t, name, impl.Squares{Terms: basis}, d)
		checkNumber(t, "the number of "+name, int64(len(basis)), code, sure(impl.CountPartitions(d)), impl.ErrNone)
		if d <= 14 {
			words := slices.DeleteFunc(wordsOfDegree(d, 20), func(word []int64) bool { return !isAdmissibleByTrial(word) })
			checkLists(t, name, basis, code, words, impl.ErrNone)
		}
		checkSeparate(t, name, basis)
	}
	for _, d := range outside(40) {
		basis, code := impl.AdmissibleBasis(d)
		checkLists(t, fmt.Sprintf("AdmissibleBasis(%d)", d), basis, code, nil, impl.ErrRange)
	}
}

func TestAdmissibleWithin(t *testing.T) {
	for d := range int64(41) {
		basis := sure(impl.AdmissibleBasis(d))
		for e := range int64(41) {
			want := slices.DeleteFunc(slices.Clone(basis), func(word []int64) bool { return excessByTrial(word) > e })
			name := fmt.Sprintf("AdmissibleWithin(%d, %d)", d, e)
			words, code := impl.AdmissibleWithin(d, e)
			checkLists(t, name, words, code, want, impl.ErrNone)
			checkSeparate(t, name, words)
		}
	}
	for _, n := range outside(40) {
		for _, other := range []int64{0, 7, 40, n} {
			words, code := impl.AdmissibleWithin(n, other)
			checkLists(t, fmt.Sprintf("AdmissibleWithin(%d, %d)", n, other), words, code, nil, impl.ErrRange)
			words, code = impl.AdmissibleWithin(other, n)
			checkLists(t, fmt.Sprintf("AdmissibleWithin(%d, %d)", other, n), words, code, nil, impl.ErrRange)
		}
	}
}

// generatorByTrial follows the chapter's words, and counts how often each word occurs.
func generatorByTrial(triangle [][]int, n int64) [][]int64 {
	b := int64(1)
	for 2*b <= n {
		b *= 2
	}
	if b == n {
		return [][]int64{{n}}
	}
	a := n - b
	var words [][]int64
	for _, word := range generatorByTrial(triangle, a) {
		words = append(words, slices.Concat(word, []int64{b}))
	}
	for j := int64(1); j <= a/2; j++ {
		if triangle[b-j-1][a-2*j] == 0 {
			continue
		}
		for _, first := range generatorByTrial(triangle, n-j) {
			for _, second := range generatorByTrial(triangle, j) {
				words = append(words, slices.Concat(first, second))
			}
		}
	}
	slices.SortFunc(words, slices.Compare)
	var odd [][]int64
	for _, word := range words {
		if last := len(odd) - 1; last >= 0 && slices.Equal(odd[last], word) {
			odd = odd[:last]
		} else {
			odd = append(odd, word)
		}
	}
	return odd
}

func TestGeneratorForm(t *testing.T) {
	triangle := pascalParities(42)
	for n := int64(1); n <= 20; n++ {
		name := fmt.Sprintf("GeneratorForm(%d)", n)
		form, code := impl.GeneratorForm(n)
		checkSquares(t, name, form, code, impl.Squares{Terms: generatorByTrial(triangle, n)}, impl.ErrNone)
		reduced, code := impl.AdmissibleForm(form)
		checkSquares(t, "the form of "+name, reduced, code, squaresOf([]int64{n}), impl.ErrNone)
		for _, letter := range slices.Concat(form.Terms...) {
			if letter&(letter-1) != 0 {
				t.Errorf("%s has the square of %d", name, letter)
			}
		}
		checkSeparate(t, name, form.Terms)
	}
	for _, n := range append(outside(20), 0) {
		form, code := impl.GeneratorForm(n)
		checkSquares(t, fmt.Sprintf("GeneratorForm(%d)", n), form, code, impl.Squares{}, impl.ErrRange)
	}
}

// textByTrial writes the text of a sum of squares.
func textByTrial(a impl.Squares) string {
	if len(a.Terms) == 0 {
		return "0"
	}
	text := ""
	for i, word := range a.Terms {
		if i > 0 {
			text += "+"
		}
		if len(word) == 0 {
			text += "1"
		}
		for j, n := range word {
			if j > 0 {
				text += " "
			}
			text += fmt.Sprintf("Sq%d", n)
		}
	}
	return text
}

func TestTextsOfSquares(t *testing.T) {
	for _, a := range goodSums() {
		text, code := impl.SquaresText(a)
		if text != textByTrial(a) || code != impl.ErrNone {
			t.Errorf("SquaresText(%v) = %q, %d", a, text, code)
		}
		read, code := impl.ParseSquares(text)
		checkSquares(t, fmt.Sprintf("ParseSquares(%q)", text), read, code, a, impl.ErrNone)
		checkSeparate(t, "ParseSquares", read.Terms)
	}
	for text, want := range map[string]impl.Squares{
		"0": {}, "1": squaresOf([]int64{}), "Sq40": squaresOf([]int64{40}), "Sq2 Sq1+Sq3": squaresOf([]int64{2, 1}, []int64{3}), "Sq10 Sq1+Sq11": squaresOf([]int64{10, 1}, []int64{11}),
	} {
		read, code := impl.ParseSquares(text)
		checkSquares(t, fmt.Sprintf("ParseSquares(%q)", text), read, code, want, impl.ErrNone)
		got, code := impl.SquaresText(want)
		if got != text || code != impl.ErrNone {
			t.Errorf("SquaresText(%v) = %q, %d", want, got, code)
		}
	}
}

func TestTextsOfNoSquares(t *testing.T) {
	bad := []string{
		"", " ", "+", "Sq", "Sq ", "S1", "q1", "1Sq1", "sq1", "SQ1", "sQ1", "Sq0", "Sq00", "Sq-1", "Sq+1", "Sq01", "Sq1.0", "Sq1e0", "Sq0x1", "Sq1_0", "Sq٣", "Sq1\n", "\nSq1", "Sq1\x00", "Sq\xff", "Sq1\t", "Sq 1",
		" Sq1", "Sq1 ", "Sq1  Sq1", "Sq1\tSq1", "Sq1Sq1", "Sq1,Sq1", "Sq1 1", "1 Sq1", "1 1", " 1", "1 ", "01", "11", "2", "-1", "00", " 0", "0 ", "+0", "-0",
		"Sq1+", "+Sq1", "Sq2 Sq1++Sq3", "Sq2 Sq1 +Sq3", "Sq2 Sq1+ Sq3", "Sq2 Sq1 + Sq3", "Sq2 Sq1-Sq3", "Sq1+Sq1", "1+1", "0+0", "Sq3+Sq2 Sq1", "Sq1+Sq2", "Sq2+Sq2 Sq1", "1+Sq1", "1+0", "0+1", "Sq1+0", "0+Sq1", "Sq1+1", "Sq11+Sq10 Sq1",
		"Sq41", "Sq40 Sq1", "Sq100", "Sq9223372036854775807", "Sq9223372036854775808", "Sq18446744073709551617", "Sq-9223372036854775808", "Sq9223372036854775807 Sq9223372036854775807 Sq3", "Sq" + strings.Repeat("9", 5000), "Sq" + strings.Repeat("0", 5000) + "1",
		strings.TrimSuffix(strings.Repeat("Sq1 ", 21), " "), strings.TrimSuffix(strings.Repeat("Sq1 ", 100000), " "), strings.Repeat("+", 100000), strings.Repeat("Sq1+", 100000) + "Sq1",
		textByTrial(impl.Squares{Terms: wordsOfDegree(13, 20)[:2001]}),
	}
	for _, text := range bad {
		got, code := impl.ParseSquares(text)
		if len(got.Terms) > 0 || code != impl.ErrSyntax {
			t.Errorf("ParseSquares(%.60q) = %v, %d", text, got, code)
		}
	}
	most := impl.Squares{Terms: wordsOfDegree(13, 20)[:2000]}
	got, code := impl.ParseSquares(textByTrial(most))
	checkSquares(t, "ParseSquares of 2000 Terms", got, code, most, impl.ErrNone)
}

// TestSquaresKeepArguments also tells that no result shares memory with an argument.
func TestSquaresKeepArguments(t *testing.T) {
	word := spareList([]int64{5, 2, 1})
	wholeWord := wholeList(word)
	impl.IsAdmissible(word)
	impl.ExcessOf(word)
	if !slices.Equal(wholeList(word), wholeWord) {
		t.Errorf("a word is changed")
	}
	functions := map[string]func(a, b impl.Squares) [][]int64{
		"IsSquares":       func(a, b impl.Squares) [][]int64 { impl.IsSquares(a); return nil },
		"AddSquares":      func(a, b impl.Squares) [][]int64 { return sure(impl.AddSquares(a, b)).Terms },
		"AddSquares to 0": func(a, b impl.Squares) [][]int64 { return sure(impl.AddSquares(a, impl.Squares{})).Terms },
		"0 and more":      func(a, b impl.Squares) [][]int64 { return sure(impl.AddSquares(impl.Squares{}, b)).Terms },
		"AdmissibleForm":  func(a, b impl.Squares) [][]int64 { return sure(impl.AdmissibleForm(a)).Terms },
		"MultiplySquares": func(a, b impl.Squares) [][]int64 { return sure(impl.MultiplySquares(a, b)).Terms },
		"SquaresText":     func(a, b impl.Squares) [][]int64 { sure(impl.SquaresText(a)); return nil },
	}
	for name, call := range functions {
		a, b := squaresOf([]int64{2, 1, 4}, []int64{5, 2}, []int64{6, 1}), squaresOf([]int64{3, 4}, []int64{6, 1}, []int64{7})
		wholeA, wholeB := wholeLists(a.Terms), wholeLists(b.Terms)
		result := call(a, b)
		before, want := wholeLists(result), copiedLists(result)
		if !equalLists(wholeLists(a.Terms), wholeA) || !equalLists(wholeLists(b.Terms), wholeB) {
			t.Errorf("%s changes an argument", name)
		}
		overwrite(99, a.Terms[:cap(a.Terms)]...)
		overwrite(98, b.Terms[:cap(b.Terms)]...)
		clear(a.Terms[:cap(a.Terms)])
		clear(b.Terms[:cap(b.Terms)])
		if !equalLists(wholeLists(result), before) {
			t.Errorf("%s shares memory with an argument", name)
		}
		checkSeparate(t, name, result)
		again := call(squaresOf([]int64{2, 1, 4}, []int64{5, 2}, []int64{6, 1}), squaresOf([]int64{3, 4}, []int64{6, 1}, []int64{7}))
		if !equalLists(again, want) {
			t.Errorf("%s keeps state", name)
		}
	}
}
