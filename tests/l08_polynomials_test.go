package tests

import (
	"fmt"
	"math"
	"slices"
	"strings"
	"sync"
	"testing"

	"loop.example/g01154/impl"
)

// polyOf returns a polynomial with spare capacity behind all of its lists.
func polyOf(variables int64, terms ...[]int64) impl.Poly {
	return impl.Poly{Variables: variables, Terms: spareLists(terms)}
}

func checkPoly(t *testing.T, name string, got impl.Poly, code int64, want impl.Poly, wantCode int64) {
	t.Helper()
	if got.Variables != want.Variables || !equalLists(got.Terms, want.Terms) || code != wantCode {
		t.Errorf("%s = %s, %d; want %s, %d", name, shownPoly(got), code, shownPoly(want), wantCode)
	}
}

// shown returns the first ones of many lists, and their number.
func shown(lists [][]int64) string {
	return fmt.Sprintf("%v (%d)", lists[:min(len(lists), 6)], len(lists))
}

func shownPoly(f impl.Poly) string {
	return fmt.Sprintf("%d:%s", f.Variables, shown(f.Terms))
}

// polyTerm is a monomial in at most four variables.
type polyTerm [4]int64

func polyTermOf(exponents []int64) polyTerm {
	var m polyTerm
	copy(m[:], exponents)
	return m
}

func (m polyTerm) degree() int64 { return m[0] + m[1] + m[2] + m[3] }

// polySum holds the monomials whose coefficient is 1.
type polySum map[polyTerm]bool

func (sum polySum) toggle(m polyTerm) {
	if sum[m] {
		delete(sum, m)
	} else {
		sum[m] = true
	}
}

// add adds the monomials of a sum.
func (sum polySum) add(other polySum) {
	for m := range other {
		sum.toggle(m)
	}
}

func (sum polySum) times(other polySum) polySum {
	product := polySum{}
	for m := range sum {
		for n := range other {
			product.toggle(polyTerm{m[0] + n[0], m[1] + n[1], m[2] + n[2], m[3] + n[3]})
		}
	}
	return product
}

// poly returns the polynomial with the monomials of a sum, or ErrLimit if there are too many.
func (sum polySum) poly(variables int64) (impl.Poly, int64) {
	if len(sum) > 2000 {
		return impl.Poly{}, impl.ErrLimit
	}
	f := impl.Poly{Variables: variables}
	for m := range sum {
		f.Terms = append(f.Terms, slices.Clone(m[:variables]))
	}
	slices.SortFunc(f.Terms, slices.Compare)
	return f, impl.ErrNone
}

func sumOfPoly(f impl.Poly) polySum {
	sum := polySum{}
	for _, term := range f.Terms {
		sum.toggle(polyTermOf(term))
	}
	return sum
}

// polyDegree returns the degree of a polynomial, and 0 for 0.
func polyDegree(f impl.Poly) int64 {
	if len(f.Terms) == 0 {
		return 0
	}
	return polyTermOf(f.Terms[0]).degree()
}

// monomialsByTrial tries all exponents for the monomials of degree d in k variables.
func monomialsByTrial(k, d int64) [][]int64 {
	var found [][]int64
	for a := range d + 1 {
		for b := range d - a + 1 {
			for c := range d - a - b + 1 {
				list := []int64{a, b, c, d - a - b - c}
				if slices.Max(append([]int64{0}, list[:4-k]...)) == 0 {
					found = append(found, list[4-k:])
				}
			}
		}
	}
	return found
}

// evenMonomials returns so many monomials of degree d in four variables, whose exponents are even but
// for those of the variables that are odd.
func evenMonomials(count int, d int64, odd ...int) [][]int64 {
	lists := monomialsByTrial(4, (d-int64(len(odd)))/2)
	for _, list := range lists {
		for i := range list {
			list[i] *= 2
		}
		for _, i := range odd {
			list[i]++
		}
	}
	return lists[:count]
}

// poly returns a sum of at most so many monomials of degree d in k variables.
func (n *numbers) poly(k, d int64, terms int) impl.Poly {
	sum := polySum{}
	for range terms {
		var m polyTerm
		left := d
		for i := range k - 1 {
			m[i] = n.below(left + 1)
			left -= m[i]
		}
		m[k-1] = left
		place := n.below(k)
		m[place], m[k-1] = m[k-1], m[place]
		sum[m] = true
	}
	return sure(sum.poly(k))
}

// words returns a sum of squares of degree c with at most so many Terms.
func (n *numbers) words(c int64, terms int) impl.Squares {
	return n.sum(c, 3+n.below(c+1), terms)
}

// somePolys are polynomials at and within the limits, with few Terms.
func somePolys() []impl.Poly {
	n := numbers(137)
	var some []impl.Poly
	for k := int64(1); k <= 4; k++ {
		most, one := make([]int64, k), make([]int64, k)
		most[n.below(k)], one[n.below(k)] = 40, 1
		some = append(some, polyOf(k), impl.Poly{Variables: k}, polyOf(k, make([]int64, k)), polyOf(k, one), polyOf(k, most), polyOf(k, monomialsByTrial(k, 1)...), polyOf(k, monomialsByTrial(k, 3)...))
		for _, d := range []int64{1, 2, 5, 7, 12, 20, 21, 31, 39, 40} {
			some = append(some, n.poly(k, d, 1), n.poly(k, d, 3), n.poly(k, d, 8))
		}
	}
	return some
}

// goodPolys are polynomials at and within the limits, also with MaxTerms Terms.
func goodPolys() []impl.Poly {
	good := append(somePolys(), polyOf(3, monomialsByTrial(3, 40)...), polyOf(2, monomialsByTrial(2, 40)...), polyOf(2, monomialsByTrial(2, 20)...), polyOf(3, monomialsByTrial(3, 20)...))
	for _, d := range []int64{20, 21, 30, 40} {
		lists := monomialsByTrial(4, d)
		good = append(good, polyOf(4, lists[:min(len(lists), 2000)]...), polyOf(4, lists[max(len(lists)-2000, 0):]...))
	}
	return good
}

// badPolys are no polynomials, each for one reason.
func badPolys() []impl.Poly {
	bad := []impl.Poly{
		{}, polyOf(0, []int64{}), polyOf(5, []int64{1, 1, 1, 1, 1}), polyOf(5, make([]int64, 5)), polyOf(-1, []int64{}), polyOf(0, []int64{1}), polyOf(1<<32+2, []int64{1, 1}), polyOf(20, make([]int64, 20)), polyOf(21, make([]int64, 21)),
		polyOf(1, []int64{}), polyOf(1, nil), polyOf(1, []int64{1, 0}), polyOf(1, []int64{0, 1}), polyOf(1, []int64{0, 0}), polyOf(2, []int64{2}), polyOf(2, []int64{1, 1, 0}), polyOf(2, []int64{}), polyOf(3, []int64{1, 1}), polyOf(3, []int64{1, 1, 1, 0}), polyOf(4, []int64{1, 1, 1}), polyOf(4, []int64{1, 1, 1, 1, 0}), polyOf(4, make([]int64, 21)),
		polyOf(2, []int64{0, 2}, []int64{2}), polyOf(2, []int64{0, 2}, []int64{1, 1, 0}), polyOf(2, []int64{0}, []int64{0, 0}), polyOf(2, []int64{0, 2}, []int64{1}, []int64{2, 0}), polyOf(2, []int64{}, []int64{0, 0}),
		polyOf(1, []int64{-1}), polyOf(2, []int64{-1, 2}), polyOf(2, []int64{2, -1}), polyOf(2, []int64{-1, 1}), polyOf(3, []int64{1, -1, 1}), polyOf(4, []int64{-1, -1, 1, 1}), polyOf(2, []int64{-1, 3}, []int64{1, 1}), polyOf(2, []int64{1, 1}, []int64{3, -1}),
		polyOf(1, []int64{1}, []int64{2}), polyOf(2, []int64{0, 1}, []int64{2, 0}), polyOf(2, []int64{0, 0}, []int64{0, 1}), polyOf(2, []int64{0, 1}, []int64{1, 0}, []int64{1, 1}), polyOf(2, []int64{0, 2}, []int64{1, 0}, []int64{2, 0}), polyOf(4, []int64{0, 0, 0, 40}, []int64{40, 0, 0, 1}),
		polyOf(1, []int64{41}), polyOf(2, []int64{1, 40}), polyOf(2, []int64{40, 1}), polyOf(3, []int64{14, 14, 13}), polyOf(4, []int64{11, 10, 10, 10}), polyOf(2, []int64{0, 41}, []int64{41, 0}), polyOf(2, []int64{0, 40}, []int64{1, 40}),
		polyOf(2, []int64{1, 0}, []int64{0, 1}), polyOf(2, []int64{0, 1}, []int64{0, 1}), polyOf(1, []int64{3}, []int64{3}), polyOf(2, []int64{0, 2}, []int64{2, 0}, []int64{1, 1}), polyOf(2, []int64{0, 0}, []int64{0, 0}), polyOf(3, []int64{1, 1, 0}, []int64{1, 0, 1}), polyOf(4, []int64{0, 0, 1, 1}, []int64{0, 0, 2, 0}, []int64{0, 0, 2, 0}),
		{Variables: 4, Terms: monomialsByTrial(4, 21)[:2001]}, {Variables: 4, Terms: monomialsByTrial(4, 40)[:2001]}, {Variables: 4, Terms: monomialsByTrial(4, 40)}, {Variables: 2, Terms: slices.Repeat([][]int64{{1, 1}}, 2000)}, {Variables: 3, Terms: monomialsByTrial(4, 20)}, {Variables: 4, Terms: monomialsByTrial(3, 20)},
	}
	for _, k := range append(outside(4), 0) {
		bad = append(bad, impl.Poly{Variables: k}, polyOf(k), polyOf(k, []int64{1, 1}), polyOf(k, []int64{0, 0, 0, 0, 0}))
	}
	for _, end := range []int64{math.MinInt64, math.MaxInt64, math.MinInt64 + 1, 1 << 32, 1 << 62, -1 << 62} {
		bad = append(bad, polyOf(1, []int64{end}), polyOf(2, []int64{end, end}), polyOf(2, []int64{end, -end}), polyOf(2, []int64{-end, end + 2}), polyOf(2, []int64{2, end}), polyOf(3, []int64{end, end, 3 - 2*end}), polyOf(4, []int64{end, end, end, end}), polyOf(2, []int64{0, 2}, []int64{end, 2 - end}))
	}
	return bad
}

func TestIsPoly(t *testing.T) {
	for _, f := range goodPolys() {
		if !impl.IsPoly(f) {
			t.Errorf("IsPoly(%s) is false", shownPoly(f))
		}
	}
	for _, f := range badPolys() {
		if impl.IsPoly(f) {
			t.Errorf("IsPoly(%s) is true", shownPoly(f))
		}
	}
	for k := int64(1); k <= 4; k++ {
		for d := range int64(42) {
			f := polyOf(k, monomialsByTrial(k, d)...)
			if want := d <= 40 && len(f.Terms) <= 2000; impl.IsPoly(f) != want {
				t.Errorf("IsPoly of all monomials of degree %d in %d variables is not %v", d, k, want)
			}
		}
	}
}

func TestAddPolys(t *testing.T) {
	some := somePolys()
	for _, f := range goodPolys() {
		for _, g := range some {
			want, wantCode := impl.Poly{}, int64(impl.ErrRange)
			if f.Variables == g.Variables && (len(f.Terms) == 0 || len(g.Terms) == 0 || polyDegree(f) == polyDegree(g)) {
				sum := sumOfPoly(f)
				sum.add(sumOfPoly(g))
				want, wantCode = sum.poly(f.Variables)
			}
			got, code := impl.AddPolys(f, g)
			checkPoly(t, fmt.Sprintf("AddPolys(%s, %s)", shownPoly(f), shownPoly(g)), got, code, want, wantCode)
		}
		zero := impl.Poly{Variables: f.Variables}
		got, code := impl.AddPolys(f, f)
		checkPoly(t, "f + f", got, code, zero, impl.ErrNone)
		got, code = impl.AddPolys(f, zero)
		checkPoly(t, "f + 0", got, code, f, impl.ErrNone)
		checkSeparate(t, "f + 0", got.Terms)
		got, code = impl.AddPolys(polyOf(f.Variables), f)
		checkPoly(t, "0 + f", got, code, f, impl.ErrNone)
	}
	for _, c := range []struct {
		f, g, want string
		code       int64
	}{
		{"2:0,1+1,0", "2:1,0", "2:0,1", impl.ErrNone}, {"2:0,1", "2:1,0", "2:0,1+1,0", impl.ErrNone}, {"2:1,0", "2:0,1", "2:0,1+1,0", impl.ErrNone}, {"1:0", "1:0", "1:-", impl.ErrNone}, {"1:-", "1:-", "1:-", impl.ErrNone}, {"3:-", "3:0,0,40", "3:0,0,40", impl.ErrNone},
		{"1:1", "1:2", "", impl.ErrRange}, {"1:0", "1:1", "", impl.ErrRange}, {"2:0,1", "1:1", "", impl.ErrRange}, {"2:-", "1:1", "", impl.ErrRange}, {"2:0,1", "1:-", "", impl.ErrRange}, {"2:-", "1:-", "", impl.ErrRange}, {"4:0,0,0,40", "4:0,0,39,0", "", impl.ErrRange},
	} {
		want := impl.Poly{}
		if c.code == impl.ErrNone {
			want = sure(impl.ParsePoly(c.want))
		}
		got, code := impl.AddPolys(sure(impl.ParsePoly(c.f)), sure(impl.ParsePoly(c.g)))
		checkPoly(t, c.f+" and "+c.g, got, code, want, c.code)
	}
}

// TestSumsOfPolysAtLimit has sums of MaxTerms Terms, of one more, and of as many less those in common.
func TestSumsOfPolysAtLimit(t *testing.T) {
	all := monomialsByTrial(4, 25)
	for _, c := range []struct {
		f, g [][]int64
		code int64
	}{
		{all[:1000], all[1000:2000], impl.ErrNone}, {all[:1000], all[1000:2001], impl.ErrLimit}, {all[:2000], all[2000:2001], impl.ErrLimit}, {all[:2000], all[1999:2000], impl.ErrNone}, {all[:2000], all[1999:2001], impl.ErrNone}, {all[:2000], all[1999:2002], impl.ErrLimit},
		{all[:2000], nil, impl.ErrNone}, {all[:2000], all[:2000], impl.ErrNone}, {all[:2000], all[500:2500], impl.ErrNone}, {all[:2000], all[1000:3000], impl.ErrNone}, {all[:2000], all[1001:3001], impl.ErrLimit}, {all[:2000], all[1276:], impl.ErrLimit},
	} {
		sum := sumOfPoly(polyOf(4, c.f...))
		sum.add(sumOfPoly(polyOf(4, c.g...)))
		want, wantCode := sum.poly(4)
		name := fmt.Sprintf("the sum of %d and %d Terms", len(c.f), len(c.g))
		checkNumber(t, "the limit of "+name, 0, wantCode, 0, c.code)
		got, code := impl.AddPolys(polyOf(4, c.f...), polyOf(4, c.g...))
		checkPoly(t, name, got, code, want, wantCode)
		got, code = impl.AddPolys(polyOf(4, c.g...), polyOf(4, c.f...))
		checkPoly(t, name+" turned around", got, code, want, wantCode)
	}
}

func TestMultiplyPolys(t *testing.T) {
	some := somePolys()
	for _, f := range some {
		for _, g := range some {
			want, wantCode := impl.Poly{}, int64(impl.ErrRange)
			if f.Variables == g.Variables {
				want, wantCode = sumOfPoly(f).times(sumOfPoly(g)).poly(f.Variables)
				if polyDegree(f)+polyDegree(g) > 40 && len(f.Terms) > 0 && len(g.Terms) > 0 {
					want, wantCode = impl.Poly{}, impl.ErrLimit
				}
			}
			got, code := impl.MultiplyPolys(f, g)
			checkPoly(t, fmt.Sprintf("MultiplyPolys(%v, %v)", f, g), got, code, want, wantCode)
			checkSeparate(t, "MultiplyPolys", got.Terms)
		}
	}
	for _, f := range goodPolys() {
		zero, one := impl.Poly{Variables: f.Variables}, polyOf(f.Variables, make([]int64, f.Variables))
		for _, factor := range []struct{ g, want impl.Poly }{{zero, zero}, {one, f}} {
			got, code := impl.MultiplyPolys(f, factor.g)
			checkPoly(t, "f times 0 or 1", got, code, factor.want, impl.ErrNone)
			got, code = impl.MultiplyPolys(factor.g, f)
			checkPoly(t, "0 or 1 times f", got, code, factor.want, impl.ErrNone)
		}
	}
	for _, c := range []struct {
		f, g, want string
		code       int64
	}{
		{"2:0,1+1,0", "2:0,1+1,0", "2:0,2+2,0", impl.ErrNone}, {"2:0,2+1,1+2,0", "2:0,1+1,0", "2:0,3+3,0", impl.ErrNone}, {"1:20", "1:20", "1:40", impl.ErrNone}, {"1:20", "1:21", "", impl.ErrLimit}, {"1:40", "1:0", "1:40", impl.ErrNone}, {"1:40", "1:1", "", impl.ErrLimit}, {"1:40", "1:40", "", impl.ErrLimit}, {"1:0", "1:0", "1:0", impl.ErrNone},
		{"2:-", "2:0,40", "2:-", impl.ErrNone}, {"2:40,0", "2:-", "2:-", impl.ErrNone}, {"2:-", "2:-", "2:-", impl.ErrNone}, {"2:-", "1:-", "", impl.ErrRange}, {"2:-", "3:0,0,1", "", impl.ErrRange}, {"1:40", "2:0,40", "", impl.ErrRange}, {"4:0,0,0,1", "3:0,0,1", "", impl.ErrRange},
		{"3:0,0,1+0,1,0+1,0,0", "3:0,0,1+0,1,0+1,0,0", "3:0,0,2+0,2,0+2,0,0", impl.ErrNone}, {"4:1,0,0,0", "4:0,0,0,1+0,0,1,0", "4:1,0,0,1+1,0,1,0", impl.ErrNone},
	} {
		want := impl.Poly{}
		if c.code == impl.ErrNone {
			want = sure(impl.ParsePoly(c.want))
		}
		got, code := impl.MultiplyPolys(sure(impl.ParsePoly(c.f)), sure(impl.ParsePoly(c.g)))
		checkPoly(t, c.f+" times "+c.g, got, code, want, c.code)
	}
}

// TestProductsOfPolysAtLimit multiplies monomials with even exponents by sums of variables, so that no
// two terms of a product are equal, and polynomials of all pairs of degrees at the limit.
func TestProductsOfPolysAtLimit(t *testing.T) {
	for _, c := range []struct {
		count, variables int
		code             int64
	}{{1000, 2, impl.ErrNone}, {1001, 2, impl.ErrLimit}, {666, 3, impl.ErrNone}, {667, 3, impl.ErrLimit}, {500, 4, impl.ErrNone}, {501, 4, impl.ErrLimit}, {1330, 1, impl.ErrNone}, {1330, 4, impl.ErrLimit}} {
		f, g := polyOf(4, evenMonomials(c.count, 36)...), polyOf(4, monomialsByTrial(4, 1)[:c.variables]...)
		want, wantCode := sumOfPoly(f).times(sumOfPoly(g)).poly(4)
		name := fmt.Sprintf("%d monomials times %d variables", c.count, c.variables)
		checkNumber(t, "the limit of "+name, 0, wantCode, 0, c.code)
		got, code := impl.MultiplyPolys(f, g)
		checkPoly(t, name, got, code, want, wantCode)
		got, code = impl.MultiplyPolys(g, f)
		checkPoly(t, name+" turned around", got, code, want, wantCode)
	}
	n := numbers(139)
	for k := int64(1); k <= 4; k++ {
		for c := range int64(41) {
			for d := 40 - c; d <= min(41-c, 40); d++ {
				f, g := n.poly(k, c, 6), n.poly(k, d, 6)
				want, wantCode := impl.Poly{}, int64(impl.ErrLimit)
				if c+d == 40 {
					want, wantCode = sumOfPoly(f).times(sumOfPoly(g)).poly(k)
				}
				got, code := impl.MultiplyPolys(f, g)
				checkPoly(t, fmt.Sprintf("MultiplyPolys of the degrees %d and %d", c, d), got, code, want, wantCode)
			}
		}
	}
	// Most of the terms of a product may go: 2000 times 2000 of them are left with some thousands.
	most := polyOf(4, monomialsByTrial(4, 20)...)
	square := impl.Poly{Variables: 4}
	for _, term := range most.Terms {
		square.Terms = append(square.Terms, []int64{2 * term[0], 2 * term[1], 2 * term[2], 2 * term[3]})
	}
	got, code := impl.MultiplyPolys(most, most)
	checkPoly(t, "the square of all monomials of degree 20", got, code, square, impl.ErrNone)
}

func TestDegreeOfPoly(t *testing.T) {
	for _, f := range goodPolys() {
		want, wantCode := polyDegree(f), int64(impl.ErrNone)
		if len(f.Terms) == 0 {
			wantCode = impl.ErrState
		}
		degree, code := impl.DegreeOfPoly(f)
		checkNumber(t, "DegreeOfPoly of "+shownPoly(f), degree, code, want, wantCode)
	}
	for k := int64(1); k <= 4; k++ {
		for d := range int64(41) {
			degree, code := impl.DegreeOfPoly(polyOf(k, monomialsByTrial(k, d)[:1]...))
			checkNumber(t, "DegreeOfPoly of a power", degree, code, d, impl.ErrNone)
		}
		degree, code := impl.DegreeOfPoly(polyOf(k))
		checkNumber(t, "DegreeOfPoly of 0", degree, code, 0, impl.ErrState)
	}
}

// raisedPowers returns, for each n, the exponents in the product of n factors x + x^2, multiplied out
// one after the other: this is the sum of all squares of x^n.
var raisedPowers = sync.OnceValue(func() [][]int64 {
	rows := [][]int64{{0}}
	for n := range 40 {
		odd := map[int64]bool{}
		for _, e := range rows[n] {
			odd[e+1], odd[e+2] = !odd[e+1], !odd[e+2]
		}
		var row []int64
		for e := range int64(2*n + 3) {
			if odd[e] {
				row = append(row, e)
			}
		}
		rows = append(rows, row)
	}
	return rows
})

// squareByTrial multiplies the sums of all squares of powers, and takes what is raised by i.
func squareByTrial(sum polySum, i int64) polySum {
	rows, square := raisedPowers(), polySum{}
	for m := range sum {
		for _, a := range rows[m[0]] {
			for _, b := range rows[m[1]] {
				for _, c := range rows[m[2]] {
					if d := m.degree() + i - a - b - c; slices.Contains(rows[m[3]], d) {
						square.toggle(polyTerm{a, b, c, d})
					}
				}
			}
		}
	}
	return square
}

// squareAtLimit returns Sq^i of a polynomial by trial, or ErrLimit.
func squareAtLimit(f impl.Poly, i int64) (impl.Poly, int64) {
	if len(f.Terms) > 0 && polyDegree(f)+i > 40 {
		return impl.Poly{}, impl.ErrLimit
	}
	return squareByTrial(sumOfPoly(f), i).poly(f.Variables)
}

func TestSquareOn(t *testing.T) {
	for _, f := range goodPolys() {
		for i := range int64(41) {
			want, wantCode := squareAtLimit(f, i)
			got, code := impl.SquareOn(f, i)
			name := fmt.Sprintf("SquareOn(%s, %d)", shownPoly(f), i)
			checkPoly(t, name, got, code, want, wantCode)
			checkSeparate(t, name, got.Terms)
		}
		for _, i := range outside(40) {
			got, code := impl.SquareOn(f, i)
			checkPoly(t, fmt.Sprintf("SquareOn(%s, %d)", shownPoly(f), i), got, code, impl.Poly{}, impl.ErrRange)
		}
	}
	for k := int64(1); k <= 4; k++ {
		for d := range 12 - 2*k {
			for _, term := range monomialsByTrial(k, d) {
				for i := range d + 3 {
					want, _ := squareAtLimit(polyOf(k, term), i)
					got, code := impl.SquareOn(polyOf(k, term), i)
					checkPoly(t, fmt.Sprintf("SquareOn(%v, %d)", term, i), got, code, want, impl.ErrNone)
				}
			}
		}
	}
}

// TestSquaresOfPowers has what the chapter says of variables, and Pascal's triangle for powers.
func TestSquaresOfPowers(t *testing.T) {
	triangle := pascalParities(42)
	for n := range int64(41) {
		for i := range 41 - n {
			want := polyOf(1)
			if triangle[n][i] == 1 {
				want = polyOf(1, []int64{n + i})
			}
			got, code := impl.SquareOn(polyOf(1, []int64{n}), i)
			checkPoly(t, fmt.Sprintf("Sq^%d of x^%d", i, n), got, code, want, impl.ErrNone)
		}
	}
	for _, c := range []struct {
		f    string
		i    int64
		want string
		code int64
	}{
		{"2:1,1", 1, "2:1,2+2,1", impl.ErrNone}, {"2:1,1", 2, "2:2,2", impl.ErrNone}, {"2:1,1", 3, "2:-", impl.ErrNone}, {"1:1", 0, "1:1", impl.ErrNone}, {"1:1", 1, "1:2", impl.ErrNone}, {"1:1", 2, "1:-", impl.ErrNone}, {"1:1", 39, "1:-", impl.ErrNone}, {"1:1", 40, "", impl.ErrLimit}, {"1:3", 2, "1:5", impl.ErrNone}, {"1:2", 1, "1:-", impl.ErrNone},
		{"3:0,0,0", 0, "3:0,0,0", impl.ErrNone}, {"3:0,0,0", 1, "3:-", impl.ErrNone}, {"3:0,0,0", 40, "3:-", impl.ErrNone}, {"3:-", 0, "3:-", impl.ErrNone}, {"3:-", 40, "3:-", impl.ErrNone}, {"3:-", 41, "", impl.ErrRange}, {"3:-", -1, "", impl.ErrRange},
		{"1:20", 20, "1:40", impl.ErrNone}, {"1:20", 21, "", impl.ErrLimit}, {"1:19", 20, "1:-", impl.ErrNone}, {"1:19", 21, "1:-", impl.ErrNone}, {"1:30", 10, "1:40", impl.ErrNone}, {"1:30", 11, "", impl.ErrLimit}, {"1:40", 0, "1:40", impl.ErrNone}, {"1:40", 1, "", impl.ErrLimit}, {"1:40", 40, "", impl.ErrLimit}, {"1:40", 41, "", impl.ErrRange}, {"1:40", -1, "", impl.ErrRange}, {"1:0", 41, "", impl.ErrRange}, {"1:0", -1, "", impl.ErrRange},
		{"2:0,2+1,1+2,0", 1, "2:1,2+2,1", impl.ErrNone}, {"2:1,2+2,1", 1, "2:-", impl.ErrNone}, {"4:1,1,1,1", 3, "4:1,2,2,2+2,1,2,2+2,2,1,2+2,2,2,1", impl.ErrNone}, {"4:1,1,1,1", 4, "4:2,2,2,2", impl.ErrNone}, {"3:1,2,4", 4, "3:1,2,8", impl.ErrNone}, {"3:1,2,4", 3, "3:2,4,4", impl.ErrNone},
	} {
		want := impl.Poly{}
		if c.code == impl.ErrNone {
			want = sure(impl.ParsePoly(c.want))
		}
		got, code := impl.SquareOn(sure(impl.ParsePoly(c.f)), c.i)
		checkPoly(t, fmt.Sprintf("Sq^%d of %s", c.i, c.f), got, code, want, c.code)
	}
}

// TestSquaresAtLimit has monomials for which Sq^1 makes as many terms as there are odd exponents, all
// of them different.
func TestSquaresAtLimit(t *testing.T) {
	for _, c := range []struct {
		count int
		odd   []int
		code  int64
	}{{1330, []int{0}, impl.ErrNone}, {1000, []int{0, 1}, impl.ErrNone}, {1001, []int{0, 1}, impl.ErrLimit}, {666, []int{1, 2, 3}, impl.ErrNone}, {667, []int{1, 2, 3}, impl.ErrLimit}, {500, []int{0, 1, 2, 3}, impl.ErrNone}, {501, []int{0, 1, 2, 3}, impl.ErrLimit}} {
		f := polyOf(4, evenMonomials(c.count, 36+int64(len(c.odd))-1, c.odd...)...)
		name := fmt.Sprintf("Sq^1 of %d monomials with %d odd exponents", c.count, len(c.odd))
		if len(c.odd) == 1 {
			f = polyOf(4, evenMonomials(c.count, 37, c.odd...)...)
		}
		want, wantCode := squareAtLimit(f, 1)
		checkNumber(t, "the limit of "+name, 0, wantCode, 0, c.code)
		got, code := impl.SquareOn(f, 1)
		checkPoly(t, name, got, code, want, wantCode)
	}
}

func TestTotalSquare(t *testing.T) {
	for _, f := range goodPolys() {
		var want []impl.Poly
		wantCode := int64(impl.ErrNone)
		for i := range polyDegree(f) + 1 {
			square, code := squareAtLimit(f, i)
			want, wantCode = append(want, square), max(wantCode, code)
		}
		if wantCode != impl.ErrNone {
			want = nil
		}
		name := "TotalSquare of " + shownPoly(f)
		total, code := impl.TotalSquare(f)
		checkNumber(t, "the length of "+name, int64(len(total)), code, int64(len(want)), wantCode)
		if len(total) != len(want) {
			continue
		}
		var lists [][]int64
		var all []impl.Milnor
		for i, square := range total {
			checkPoly(t, fmt.Sprintf("%s at %d", name, i), square, code, want[i], wantCode)
			lists, all = append(lists, square.Terms...), append(all, impl.Milnor{Terms: square.Terms})
		}
		checkSeparate(t, name, lists)
		checkSeparateElements(t, name, all)
	}
}

func TestTotalSquaresByHand(t *testing.T) {
	for _, c := range []struct {
		f    string
		want []string
		code int64
	}{
		{"1:2", []string{"1:2", "1:-", "1:4"}, impl.ErrNone}, {"1:0", []string{"1:0"}, impl.ErrNone}, {"1:-", []string{"1:-"}, impl.ErrNone}, {"2:-", []string{"2:-"}, impl.ErrNone}, {"4:-", []string{"4:-"}, impl.ErrNone}, {"3:0,0,0", []string{"3:0,0,0"}, impl.ErrNone}, {"1:1", []string{"1:1", "1:2"}, impl.ErrNone},
		{"2:1,1", []string{"2:1,1", "2:1,2+2,1", "2:2,2"}, impl.ErrNone}, {"2:0,1+1,0", []string{"2:0,1+1,0", "2:0,2+2,0"}, impl.ErrNone}, {"1:3", []string{"1:3", "1:4", "1:5", "1:6"}, impl.ErrNone},
		{"1:21", nil, impl.ErrLimit}, {"1:40", nil, impl.ErrLimit}, {"2:0,21+21,0", nil, impl.ErrLimit},
	} {
		total, code := impl.TotalSquare(sure(impl.ParsePoly(c.f)))
		var texts []string
		for _, square := range total {
			texts = append(texts, sure(impl.PolyText(square)))
		}
		if !slices.Equal(texts, c.want) || code != c.code {
			t.Errorf("TotalSquare of %s = %q, %d; want %q, %d", c.f, texts, code, c.want, c.code)
		}
	}
	total, code := impl.TotalSquare(polyOf(1, []int64{20}))
	checkNumber(t, "the length of TotalSquare of x^20", int64(len(total)), code, 21, impl.ErrNone)
	checkPoly(t, "the last one of TotalSquare of x^20", total[20], code, polyOf(1, []int64{40}), impl.ErrNone)
	// The degree of this one is not too great, but its squares have too many Terms.
	total, code = impl.TotalSquare(polyOf(4, monomialsByTrial(4, 18)...))
	checkNumber(t, "the length of TotalSquare of 1330 monomials", int64(len(total)), code, 0, impl.ErrLimit)
}

// wordsByTrial lets the words of a sum of squares act one after the other, each from its last square.
func wordsByTrial(a impl.Squares, sum polySum) polySum {
	result := polySum{}
	for _, word := range a.Terms {
		made := sum
		for _, i := range slices.Backward(word) {
			made = squareByTrial(made, i)
		}
		result.add(made)
	}
	return result
}

// squaresAtLimit returns what a sum of squares makes of a polynomial by trial, or ErrLimit.
func squaresAtLimit(a impl.Squares, f impl.Poly) (impl.Poly, int64) {
	if len(a.Terms) > 0 && len(f.Terms) > 0 && sumDegree(a)+polyDegree(f) > 40 {
		return impl.Poly{}, impl.ErrLimit
	}
	return wordsByTrial(a, sumOfPoly(f)).poly(f.Variables)
}

func TestActSquares(t *testing.T) {
	n := numbers(149)
	for k := int64(1); k <= 4; k++ {
		for d := range int64(5) {
			for _, word := range slices.Concat(wordsOfDegree(d, 20), wordsOfDegree(d+3, 3)) {
				f := n.poly(k, n.below(7), 3)
				want, wantCode := squaresAtLimit(squaresOf(word), f)
				got, code := impl.ActSquares(squaresOf(word), f)
				checkPoly(t, fmt.Sprintf("ActSquares(%v, %v)", word, f), got, code, want, wantCode)
				checkSeparate(t, "ActSquares", got.Terms)
			}
		}
	}
	for range 150 {
		c := n.below(41)
		a, f := n.words(c, int(1+n.below(5))), n.poly(1+n.below(4), n.below(41-c), int(1+n.below(6)))
		want, wantCode := squaresAtLimit(a, f)
		got, code := impl.ActSquares(a, f)
		checkPoly(t, fmt.Sprintf("ActSquares(%v, %v)", a, f), got, code, want, wantCode)
	}
	for _, f := range goodPolys() {
		zero := impl.Poly{Variables: f.Variables}
		for _, a := range []impl.Squares{{}, squaresOf()} {
			got, code := impl.ActSquares(a, f)
			checkPoly(t, "0 acting", got, code, zero, impl.ErrNone)
		}
		got, code := impl.ActSquares(squaresOf([]int64{}), f)
		checkPoly(t, "the empty word acting", got, code, f, impl.ErrNone)
		checkSeparate(t, "the empty word acting", got.Terms)
		for i := int64(1); i <= 40; i += 5 {
			want, wantCode := squareAtLimit(f, i)
			got, code := impl.ActSquares(squaresOf([]int64{i}), f)
			checkPoly(t, fmt.Sprintf("Sq^%d acting on %s", i, shownPoly(f)), got, code, want, wantCode)
		}
	}
	for _, a := range goodSums() {
		for k := int64(1); k <= 4; k++ {
			got, code := impl.ActSquares(a, impl.Poly{Variables: k})
			checkPoly(t, shown(a.Terms)+" acting on 0", got, code, impl.Poly{Variables: k}, impl.ErrNone)
		}
	}
}

func TestActSquaresByHand(t *testing.T) {
	for _, c := range []struct {
		a, f, want string
		code       int64
	}{
		{"Sq2 Sq1", "1:1", "1:4", impl.ErrNone}, {"Sq1 Sq2", "1:1", "1:-", impl.ErrNone}, {"Sq1 Sq2", "2:1,1", "2:-", impl.ErrNone}, {"Sq2 Sq1", "2:1,1", "2:1,4+4,1", impl.ErrNone}, {"Sq2 Sq1+Sq3", "2:1,1", "2:1,4+4,1", impl.ErrNone}, {"Sq1 Sq2+Sq3", "1:3", "1:-", impl.ErrNone}, {"Sq4 Sq2 Sq1", "1:1", "1:8", impl.ErrNone}, {"Sq1 Sq2", "1:2", "1:-", impl.ErrNone}, {"Sq1 Sq2", "1:3", "1:6", impl.ErrNone},
		{"Sq1 Sq1", "1:3", "1:-", impl.ErrNone}, {"Sq2 Sq2", "1:3", "1:-", impl.ErrNone}, {"Sq3 Sq1", "2:1,1", "2:2,4+4,2", impl.ErrNone}, {"Sq2 Sq2", "2:1,1", "2:2,4+4,2", impl.ErrNone}, {"1", "3:0,1,2", "3:0,1,2", impl.ErrNone}, {"1", "3:-", "3:-", impl.ErrNone}, {"0", "3:0,1,2", "3:-", impl.ErrNone}, {"0", "3:-", "3:-", impl.ErrNone}, {"Sq40", "2:-", "2:-", impl.ErrNone}, {"Sq40", "2:0,0", "2:-", impl.ErrNone}, {"0", "2:0,40", "2:-", impl.ErrNone},
		{"Sq40", "1:1", "", impl.ErrLimit}, {"Sq39", "1:1", "1:-", impl.ErrNone}, {"Sq1 Sq1", "1:39", "", impl.ErrLimit}, {"Sq1 Sq1", "1:38", "1:-", impl.ErrNone}, {"Sq1", "1:40", "", impl.ErrLimit}, {"1", "1:40", "1:40", impl.ErrNone}, {"Sq20", "1:20", "1:40", impl.ErrNone}, {"Sq20 Sq20", "1:1", "", impl.ErrLimit}, {"Sq16 Sq8 Sq4 Sq2 Sq1", "1:1", "1:32", impl.ErrNone}, {"Sq20 Sq10", "1:10", "1:40", impl.ErrNone}, {"Sq20 Sq10", "1:11", "", impl.ErrLimit},
	} {
		want := impl.Poly{}
		if c.code == impl.ErrNone {
			want = sure(impl.ParsePoly(c.want))
		}
		got, code := impl.ActSquares(sure(impl.ParseSquares(c.a)), sure(impl.ParsePoly(c.f)))
		checkPoly(t, c.a+" of "+c.f, got, code, want, c.code)
	}
}

// TestManyWordsAct has sums with MaxTerms words, and polynomials with many Terms.
func TestManyWordsAct(t *testing.T) {
	n := numbers(151)
	for _, a := range []impl.Squares{{Terms: wordsOfDegree(12, 20)[:2000]}, {Terms: wordsOfDegree(40, 4)[7919:9919]}, {Terms: wordsOfDegree(11, 20)}, n.sum(20, 3, 2000), n.sum(24, 24, 2000)} {
		form := sure(impl.AdmissibleForm(a))
		for k := int64(1); k <= 4; k++ {
			for _, f := range []impl.Poly{n.poly(k, 40-sumDegree(a), 1), n.poly(k, 40-sumDegree(a), 10), n.poly(k, n.below(41-sumDegree(a)), 4)} {
				want, wantCode := squaresAtLimit(form, f)
				got, code := impl.ActSquares(a, f)
				checkPoly(t, shown(a.Terms)+" acting on "+shownPoly(f), got, code, want, wantCode)
			}
		}
	}
	for _, d := range []int64{20, 21, 28} {
		f := polyOf(4, monomialsByTrial(4, d)[:1500]...)
		for _, text := range []string{"Sq1", "Sq2 Sq1", "Sq1 Sq2", "Sq4 Sq2 Sq1+Sq7", "Sq8 Sq4", "Sq2 Sq2+Sq3 Sq1"} {
			a := sure(impl.ParseSquares(text))
			want, wantCode := squaresAtLimit(a, f)
			got, code := impl.ActSquares(a, f)
			checkPoly(t, fmt.Sprintf("%s acting on monomials of degree %d", text, d), got, code, want, wantCode)
		}
	}
}

// TestActionsOnTheWayToSmallSums has sums of squares and elements that make 0 of a polynomial, while
// their words and Terms, and what these make on their way, have more than MaxTerms Terms: these are
// no results.
func TestActionsOnTheWayToSmallSums(t *testing.T) {
	limited := func(name string, f impl.Poly, code int64) {
		t.Helper()
		checkPoly(t, name, f, code, impl.Poly{}, impl.ErrLimit)
	}
	// No two of these monomials differ by exchanging x^2 for y^2, so that few terms are equal.
	h := polyOf(4, slices.DeleteFunc(evenMonomials(816, 34, 0, 1, 2, 3), func(term []int64) bool {
		return (term[1]/2+term[2]/2*2+term[3]/2*3)%4 != 0
	})...)
	// Sq(0, 1) is the sum of Sq^2 Sq^1 and Sq^3, and its square is 0.
	both := sure(impl.ParseSquares("Sq2 Sq1+Sq3"))
	f := sure(impl.ActSquares(both, h))
	square, code := impl.SquareOn(f, 1)
	limited("Sq^1 on the way", square, code)
	square, code = impl.SquareOn(f, 3)
	limited("Sq^3 on the way", square, code)
	got, code := impl.ActSquares(both, f)
	checkPoly(t, "the sum of two words", got, code, polyOf(4), impl.ErrNone)
	got, code = impl.ActSquares(sure(impl.ParseSquares("Sq1 Sq1")), f)
	checkPoly(t, "Sq^1 Sq^1", got, code, polyOf(4), impl.ErrNone)
	// The element of Sq^2 Sq^1 has two Terms, and makes 0 of what Sq^1 has made.
	g := sure(impl.SquareOn(h, 1))
	made, code := impl.ActMilnor(elementOf([]int64{3}), g)
	limited("Sq(3) on the way", made, code)
	made, code = impl.ActMilnor(elementOf([]int64{0, 1}), g)
	limited("Sq(0, 1) on the way", made, code)
	got, code = impl.ActMilnor(elementOf([]int64{0, 1}, []int64{3}), g)
	checkPoly(t, "the sum of two Terms", got, code, polyOf(4), impl.ErrNone)
}

// parityOfClasses returns the parity of the number of ways to divide n things into classes with the
// numbers of a list and what is left, and 0 if they are too few.
func parityOfClasses(triangle [][]int, n int64, list []int64) int {
	parity := 1
	for _, r := range list {
		if r > n {
			return 0
		}
		parity *= triangle[n][r]
		n -= r
	}
	return parity
}

// shares returns all ways to take a list from a list, place by place, with what is left.
func shares(list []int64) [][2][]int64 {
	all := [][2][]int64{{}}
	for _, n := range list {
		var longer [][2][]int64
		for _, pair := range all {
			for x := range n + 1 {
				longer = append(longer, [2][]int64{append(slices.Clone(pair[0]), x), append(slices.Clone(pair[1]), n-x)})
			}
		}
		all = longer
	}
	return all
}

// basisByTrial returns what a basis element makes of a monomial, in the chapter's words: it writes the
// exponent list as a sum of one for each variable in all ways.
func basisByTrial(triangle [][]int, r []int64, m polyTerm) polySum {
	sum := polySum{}
	var divide func(variable int, left []int64, made polyTerm)
	give := func(variable int, share, left []int64, made polyTerm) {
		if parityOfClasses(triangle, made[variable], share) == 0 {
			return
		}
		for i, n := range share {
			made[variable] += n * (1<<(i+1) - 1)
		}
		divide(variable+1, left, made)
	}
	divide = func(variable int, left []int64, made polyTerm) {
		if variable == 4 {
			sum.toggle(made)
			return
		}
		if variable == 3 {
			give(3, left, nil, made)
			return
		}
		for _, pair := range shares(left) {
			give(variable, pair[0], pair[1], made)
		}
	}
	divide(0, r, m)
	return sum
}

// elementAtLimit returns what an element makes of a polynomial by trial, or ErrLimit.
func elementAtLimit(triangle [][]int, a impl.Milnor, f impl.Poly) (impl.Poly, int64) {
	if len(a.Terms) > 0 && len(f.Terms) > 0 && elementDegree(a)+polyDegree(f) > 40 {
		return impl.Poly{}, impl.ErrLimit
	}
	sum := polySum{}
	for _, r := range a.Terms {
		for m := range sumOfPoly(f) {
			sum.add(basisByTrial(triangle, r, m))
		}
	}
	return sum.poly(f.Variables)
}

func TestActMilnor(t *testing.T) {
	triangle := pascalParities(42)
	check := func(a impl.Milnor, f impl.Poly) {
		t.Helper()
		want, wantCode := elementAtLimit(triangle, a, f)
		got, code := impl.ActMilnor(a, f)
		checkPoly(t, fmt.Sprintf("ActMilnor(%s, %s)", shown(a.Terms), shownPoly(f)), got, code, want, wantCode)
		checkSeparate(t, "ActMilnor", got.Terms)
	}
	for n := range int64(41) {
		for _, r := range smallLists(min(41-n, 40)) {
			check(elementOf(r), polyOf(1, []int64{n}))
		}
	}
	for k := int64(2); k <= 4; k++ {
		for _, r := range smallLists(15 - 2*k) {
			for d := range 8 - k {
				for _, term := range monomialsByTrial(k, d) {
					check(elementOf(r), polyOf(k, term))
				}
			}
		}
	}
	n := numbers(157)
	for range 150 {
		c := n.below(41)
		check(n.element(c), n.poly(1+n.below(4), n.below(41-c), int(1+n.below(6))))
		check(n.element(20), n.poly(4, 20, 5))
		check(n.element(c), n.poly(1+n.below(4), 40-c, 3))
	}
	for _, f := range goodPolys() {
		zero := impl.Poly{Variables: f.Variables}
		for _, a := range []impl.Milnor{{}, elementOf()} {
			got, code := impl.ActMilnor(a, f)
			checkPoly(t, "0 acting", got, code, zero, impl.ErrNone)
		}
		got, code := impl.ActMilnor(elementOf([]int64{}), f)
		checkPoly(t, "1 acting", got, code, f, impl.ErrNone)
		checkSeparate(t, "1 acting", got.Terms)
		for i := int64(1); i <= 40; i += 3 {
			want, wantCode := squareAtLimit(f, i)
			got, code := impl.ActMilnor(elementOf([]int64{i}), f)
			checkPoly(t, fmt.Sprintf("Sq(%d) acting on %s", i, shownPoly(f)), got, code, want, wantCode)
		}
	}
	for _, a := range goodElements() {
		for k := int64(1); k <= 4; k++ {
			got, code := impl.ActMilnor(a, impl.Poly{Variables: k})
			checkPoly(t, shown(a.Terms)+" acting on 0", got, code, impl.Poly{Variables: k}, impl.ErrNone)
		}
	}
}

func TestActMilnorByHand(t *testing.T) {
	for _, c := range []struct {
		a, f, want string
		code       int64
	}{
		{"(0,1)", "1:1", "1:4", impl.ErrNone}, {"(0,1)", "2:1,1", "2:1,4+4,1", impl.ErrNone}, {"(0,0,1)", "1:1", "1:8", impl.ErrNone}, {"(0,0,0,0,1)", "1:1", "1:32", impl.ErrNone}, {"(0,1)", "1:2", "1:-", impl.ErrNone}, {"(0,2)", "1:2", "1:8", impl.ErrNone}, {"(0,1)", "1:3", "1:6", impl.ErrNone}, {"(1,1)", "1:3", "1:-", impl.ErrNone}, {"(1,1)", "1:2", "1:-", impl.ErrNone}, {"(2,1)", "1:3", "1:8", impl.ErrNone}, {"(1,2)", "1:3", "1:10", impl.ErrNone},
		{"(1,1)", "1:1", "1:-", impl.ErrNone}, {"(2)", "1:1", "1:-", impl.ErrNone}, {"(1,1,1)", "1:3", "1:-", impl.ErrNone}, {"(1)", "1:0", "1:-", impl.ErrNone}, {"(0,1)", "3:0,0,0", "3:-", impl.ErrNone}, {"()", "3:0,0,0", "3:0,0,0", impl.ErrNone}, {"(1,1)", "2:1,1", "2:2,4+4,2", impl.ErrNone}, {"(1,1,1)", "2:1,1", "2:-", impl.ErrNone}, {"(1,1,1)", "3:1,1,1", "3:2,4,8+2,8,4+4,2,8+4,8,2+8,2,4+8,4,2", impl.ErrNone}, {"(3)", "2:1,1", "2:-", impl.ErrNone}, {"(2)", "2:1,1", "2:2,2", impl.ErrNone},
		{"(0,1)+(3)", "1:3", "1:-", impl.ErrNone}, {"(0,1)+(3)", "1:1", "1:4", impl.ErrNone}, {"0", "1:40", "1:-", impl.ErrNone}, {"0", "4:-", "4:-", impl.ErrNone}, {"()", "4:-", "4:-", impl.ErrNone}, {"(40)", "4:-", "4:-", impl.ErrNone}, {"(40)", "4:0,0,0,0", "4:-", impl.ErrNone}, {"()", "1:40", "1:40", impl.ErrNone},
		{"(40)", "1:1", "", impl.ErrLimit}, {"(1)", "1:40", "", impl.ErrLimit}, {"(8)", "1:33", "", impl.ErrLimit}, {"(0,1)", "1:37", "1:40", impl.ErrNone}, {"(0,1)", "1:38", "", impl.ErrLimit}, {"(0,0,0,0,1)", "1:9", "1:40", impl.ErrNone}, {"(0,0,0,0,1)", "1:10", "", impl.ErrLimit}, {"(20)", "1:20", "1:40", impl.ErrNone}, {"(20)", "1:21", "", impl.ErrLimit},
	} {
		want := impl.Poly{}
		if c.code == impl.ErrNone {
			want = sure(impl.ParsePoly(c.want))
		}
		got, code := impl.ActMilnor(sure(impl.ParseMilnor(c.a)), sure(impl.ParsePoly(c.f)))
		checkPoly(t, c.a+" of "+c.f, got, code, want, c.code)
	}
}

// TestPrimitiveElementsAtLimit has Sq(0, 1), which makes as many terms of a monomial as there are odd
// exponents, and Sq(0, 0, 1), which does so, too.
func TestPrimitiveElementsAtLimit(t *testing.T) {
	triangle := pascalParities(42)
	for _, r := range [][]int64{{0, 1}, {0, 0, 1}} {
		for _, c := range []struct {
			count int
			odd   []int
			code  int64
		}{{680, []int{0, 3}, impl.ErrNone}, {666, []int{0, 1, 2}, impl.ErrNone}, {667, []int{0, 1, 2}, impl.ErrLimit}, {500, []int{0, 1, 2, 3}, impl.ErrNone}, {501, []int{0, 1, 2, 3}, impl.ErrLimit}} {
			f := polyOf(4, evenMonomials(c.count, 28+int64(len(c.odd)), c.odd...)...)
			want, wantCode := elementAtLimit(triangle, elementOf(r), f)
			name := fmt.Sprintf("Sq%v of %d monomials with %d odd exponents", r, c.count, len(c.odd))
			checkNumber(t, "the limit of "+name, 0, wantCode, 0, c.code)
			got, code := impl.ActMilnor(elementOf(r), f)
			checkPoly(t, name, got, code, want, wantCode)
		}
	}
}

// formByTrial returns the sum of the variables of a form.
func formByTrial(form int64) polySum {
	sum := polySum{}
	for j := range 4 {
		if form>>j&1 == 1 {
			var m polyTerm
			m[j] = 1
			sum.toggle(m)
		}
	}
	return sum
}

// formsByTrial multiplies out all monomials, one variable after the other.
func formsByTrial(f impl.Poly, forms []int64) polySum {
	sum := polySum{}
	for _, term := range f.Terms {
		product := polySum{{}: true}
		for i, n := range term {
			for range n {
				product = product.times(formByTrial(forms[i]))
			}
		}
		sum.add(product)
	}
	return sum
}

// forms returns a list of k forms in k variables.
func (n *numbers) forms(k int64) []int64 {
	list := make([]int64, k)
	for i := range list {
		list[i] = n.below(1 << k)
	}
	return list
}

// specialForms are lists of forms for k variables with 0, equal forms, the variables themselves and
// in another order, and the greatest form.
func specialForms(k int64) [][]int64 {
	same, turned, down := make([]int64, k), make([]int64, k), make([]int64, k)
	for i := range k {
		same[i], turned[i], down[i] = 1<<i, 1<<((i+1)%k), 1<<k-1-i
	}
	return [][]int64{make([]int64, k), same, turned, down, slices.Repeat([]int64{1}, int(k)), slices.Repeat([]int64{1<<k - 1}, int(k)), append([]int64{1<<k - 1}, make([]int64, k-1)...)}
}

func TestSubstituteForms(t *testing.T) {
	n := numbers(163)
	check := func(f impl.Poly, forms []int64) {
		t.Helper()
		want, wantCode := formsByTrial(f, forms).poly(f.Variables)
		got, code := impl.SubstituteForms(f, spareList(forms))
		checkPoly(t, fmt.Sprintf("SubstituteForms(%s, %v)", shownPoly(f), forms), got, code, want, wantCode)
		checkSeparate(t, "SubstituteForms", got.Terms)
	}
	for k := int64(1); k <= 4; k++ {
		for _, forms := range append(specialForms(k), n.forms(k), n.forms(k), n.forms(k)) {
			for d := range 7 - k {
				for _, term := range monomialsByTrial(k, d) {
					check(polyOf(k, term), forms)
				}
				check(polyOf(k, monomialsByTrial(k, d)...), forms)
			}
			check(polyOf(k), forms)
			check(n.poly(k, n.below(41), 2), forms)
			check(n.poly(k, 40, 1), forms)
			check(n.poly(k, n.below(16), 12), forms)
		}
	}
	for i := range int64(2) {
		for d := range int64(41) {
			check(polyOf(1, []int64{d}), []int64{i})
		}
	}
	for form := range int64(16) {
		check(polyOf(2, []int64{3, 4}, []int64{5, 2}), []int64{form % 4, form / 4})
	}
}

func TestSubstituteFormsByHand(t *testing.T) {
	for _, c := range []struct {
		f     string
		forms []int64
		want  string
		code  int64
	}{
		{"2:2,0", []int64{3, 2}, "2:0,2+2,0", impl.ErrNone}, {"2:1,1", []int64{3, 2}, "2:0,2+1,1", impl.ErrNone}, {"2:1,0", []int64{2, 2}, "2:0,1", impl.ErrNone}, {"2:0,1", []int64{2, 1}, "2:1,0", impl.ErrNone}, {"2:1,1", []int64{3, 3}, "2:0,2+2,0", impl.ErrNone}, {"2:0,1+1,0", []int64{1, 1}, "2:-", impl.ErrNone}, {"2:0,1+1,0", []int64{3, 3}, "2:-", impl.ErrNone}, {"2:1,1", []int64{0, 3}, "2:-", impl.ErrNone}, {"2:0,2+1,1", []int64{0, 2}, "2:0,2", impl.ErrNone},
		{"2:0,0", []int64{0, 0}, "2:0,0", impl.ErrNone}, {"2:0,1", []int64{3, 0}, "2:-", impl.ErrNone}, {"2:0,1", []int64{0, 3}, "2:0,1+1,0", impl.ErrNone}, {"2:-", []int64{3, 3}, "2:-", impl.ErrNone}, {"1:40", []int64{1}, "1:40", impl.ErrNone}, {"1:40", []int64{0}, "1:-", impl.ErrNone}, {"1:0", []int64{0}, "1:0", impl.ErrNone}, {"3:1,0,0", []int64{7, 0, 0}, "3:0,0,1+0,1,0+1,0,0", impl.ErrNone}, {"3:0,1,1", []int64{0, 1, 4}, "3:1,0,1", impl.ErrNone}, {"4:0,0,0,1", []int64{0, 0, 0, 8}, "4:0,0,0,1", impl.ErrNone}, {"4:1,0,0,0", []int64{12, 0, 0, 0}, "4:0,0,0,1+0,0,1,0", impl.ErrNone},
		{"1:1", []int64{2}, "", impl.ErrRange}, {"1:1", []int64{-1}, "", impl.ErrRange}, {"1:1", nil, "", impl.ErrRange}, {"1:1", []int64{1, 1}, "", impl.ErrRange}, {"2:-", []int64{3}, "", impl.ErrRange}, {"2:-", []int64{3, 4}, "", impl.ErrRange}, {"2:-", []int64{3, 3, 3}, "", impl.ErrRange}, {"2:0,0", []int64{4, 0}, "", impl.ErrRange}, {"3:0,0,1", []int64{1, 2, 8}, "", impl.ErrRange}, {"4:0,0,0,1", []int64{1, 2, 4, 16}, "", impl.ErrRange}, {"4:0,0,0,1", []int64{1, 2, 4, 15}, "4:0,0,0,1+0,0,1,0+0,1,0,0+1,0,0,0", impl.ErrNone},
	} {
		want := impl.Poly{}
		if c.code == impl.ErrNone {
			want = sure(impl.ParsePoly(c.want))
		}
		got, code := impl.SubstituteForms(sure(impl.ParsePoly(c.f)), spareList(c.forms))
		checkPoly(t, fmt.Sprintf("%v in %s", c.forms, c.f), got, code, want, c.code)
	}
}

// TestFormsOutside has integers that are no forms at each place, and lists of other lengths, also for
// polynomials in which the variable does not occur, or whose result would be too long.
func TestFormsOutside(t *testing.T) {
	for _, f := range goodPolys() {
		k := f.Variables
		for _, good := range specialForms(k) {
			lists := [][]int64{nil, good[:k-1], append(slices.Clone(good), 0), append(slices.Clone(good), 1), append(slices.Clone(good), good...), make([]int64, 1000)}
			for _, bad := range outside(1<<k - 1) {
				for i := range good {
					list := slices.Clone(good)
					list[i] = bad
					lists = append(lists, list)
				}
			}
			for _, list := range lists {
				got, code := impl.SubstituteForms(f, list)
				checkPoly(t, fmt.Sprintf("SubstituteForms of %s and %d forms", shownPoly(f), len(list)), got, code, impl.Poly{}, impl.ErrRange)
			}
		}
	}
}

// TestGreatSubstitutions has polynomials with many Terms, also of too many after a substitution.
func TestGreatSubstitutions(t *testing.T) {
	most := polyOf(4, monomialsByTrial(4, 40)[7000:9000]...)
	turned := polySum{}
	for m := range sumOfPoly(most) {
		turned.toggle(polyTerm{m[3], m[2], m[1], m[0]})
	}
	got, code := impl.SubstituteForms(most, []int64{8, 4, 2, 1})
	checkPoly(t, "2000 Terms turned around", got, code, sure(turned.poly(4)), impl.ErrNone)
	got, code = impl.SubstituteForms(most, []int64{1, 2, 4, 8})
	checkPoly(t, "2000 Terms as they are", got, code, most, impl.ErrNone)
	got, code = impl.SubstituteForms(most, []int64{0, 0, 0, 0})
	checkPoly(t, "2000 Terms and 0", got, code, polyOf(4), impl.ErrNone)
	for _, c := range []struct {
		text  string
		forms []int64
		count int
	}{
		{"4:31,0,0,0", []int64{15, 0, 0, 0}, 1024}, {"4:31,7,1,1", []int64{15, 15, 15, 15}, 16}, {"4:0,2,0,38+21,2,14,3+22,0,9,9", []int64{11, 4, 14, 5}, 2000}, {"4:2,5,0,30+6,19,4,8+31,5,1,0", []int64{7, 14, 11, 9}, 2001}, {"4:17,19,0,4+31,1,7,1+34,5,0,1", []int64{13, 8, 11, 4}, 2001}, {"4:3,1,7,26+15,21,1,0", []int64{7, 14, 11, 9}, 1999},
	} {
		f := sure(impl.ParsePoly(c.text))
		sum := formsByTrial(f, c.forms)
		name := fmt.Sprintf("%v in %s", c.forms, c.text)
		checkNumber(t, "the number of Terms of "+name, int64(len(sum)), 0, int64(c.count), 0)
		want, wantCode := sum.poly(4)
		got, code := impl.SubstituteForms(f, c.forms)
		checkPoly(t, name, got, code, want, wantCode)
	}
}

// TestSubstitutionsFollowEachOther compares two substitutions with that of the product of matrices.
func TestSubstitutionsFollowEachOther(t *testing.T) {
	n := numbers(167)
	for range 200 {
		k := 1 + n.below(4)
		f, first, second := n.poly(k, n.below(21), 30), n.forms(k), n.forms(k)
		product := sure(impl.MultiplyMatrices(matrixOf(k, first...), matrixOf(k, second...)))
		want := sure(impl.SubstituteForms(sure(impl.SubstituteForms(f, first)), second))
		got, code := impl.SubstituteForms(f, product.Rows)
		checkPoly(t, fmt.Sprintf("%v and then %v in %v", first, second, f), got, code, want, impl.ErrNone)
	}
}

func TestMonomialsOf(t *testing.T) {
	for k := int64(1); k <= 4; k++ {
		for d := range int64(41) {
			want, wantCode := monomialsByTrial(k, d), int64(impl.ErrNone)
			if len(want) > 2000 {
				want, wantCode = nil, impl.ErrLimit
			}
			if (wantCode == impl.ErrLimit) != (k == 4 && d > 20) {
				t.Errorf("%d monomials in %d variables of degree %d", len(want), k, d)
			}
			lists, code := impl.MonomialsOf(k, d)
			name := fmt.Sprintf("MonomialsOf(%d, %d)", k, d)
			checkLists(t, name, lists, code, want, wantCode)
			checkSeparate(t, name, lists)
		}
		for _, d := range outside(40) {
			lists, code := impl.MonomialsOf(k, d)
			checkLists(t, fmt.Sprintf("MonomialsOf(%d, %d)", k, d), lists, code, nil, impl.ErrRange)
		}
	}
	for _, k := range append(outside(4), 0) {
		for _, d := range append(outside(40), 0, 1, 20, 21, 40) {
			lists, code := impl.MonomialsOf(k, d)
			checkLists(t, fmt.Sprintf("MonomialsOf(%d, %d)", k, d), lists, code, nil, impl.ErrRange)
		}
	}
	lists, code := impl.MonomialsOf(2, 2)
	checkLists(t, "MonomialsOf(2, 2)", lists, code, [][]int64{{0, 2}, {1, 1}, {2, 0}}, impl.ErrNone)
	lists, code = impl.MonomialsOf(3, 0)
	checkLists(t, "MonomialsOf(3, 0)", lists, code, [][]int64{{0, 0, 0}}, impl.ErrNone)
	lists, code = impl.MonomialsOf(1, 40)
	checkLists(t, "MonomialsOf(1, 40)", lists, code, [][]int64{{40}}, impl.ErrNone)
}

// TestCartansRule compares squares of products with sums of products of squares.
func TestCartansRule(t *testing.T) {
	n := numbers(173)
	for range 250 {
		k, c := 1+n.below(4), n.below(36)
		f := n.poly(k, c, int(1+n.below(3)))
		g := n.poly(k, n.below(36-c), int(1+n.below(3)))
		product := sure(impl.MultiplyPolys(f, g))
		for i := range 41 - polyDegree(f) - polyDegree(g) {
			want := impl.Poly{Variables: k}
			for j := range i + 1 {
				part := sure(impl.MultiplyPolys(sure(impl.SquareOn(f, j)), sure(impl.SquareOn(g, i-j))))
				want = sure(impl.AddPolys(want, part))
			}
			got, code := impl.SquareOn(product, i)
			checkPoly(t, fmt.Sprintf("Sq^%d of the product of %v and %v", i, f, g), got, code, want, impl.ErrNone)
		}
	}
}

// TestSquaresWithTheDegree tells that Sq^d of a polynomial of degree d is its square, that greater ones
// make 0, that Sq^0 changes nothing, and that squares are additive.
func TestSquaresWithTheDegree(t *testing.T) {
	n := numbers(179)
	polys := append(goodPolys(), polyOf(4, monomialsByTrial(4, 19)...))
	for range 200 {
		polys = append(polys, n.poly(1+n.below(4), n.below(21), int(1+n.below(40))))
	}
	for _, f := range polys {
		d := polyDegree(f)
		name := "of " + shownPoly(f)
		if d <= 20 {
			got, code := impl.SquareOn(f, d)
			checkPoly(t, "the square with the degree "+name, got, code, sure(impl.MultiplyPolys(f, f)), impl.ErrNone)
		}
		for i := d + 1; i <= 40-d; i++ {
			got, code := impl.SquareOn(f, i)
			checkPoly(t, fmt.Sprintf("Sq^%d %s", i, name), got, code, impl.Poly{Variables: f.Variables}, impl.ErrNone)
		}
		got, code := impl.SquareOn(f, 0)
		checkPoly(t, "Sq^0 "+name, got, code, f, impl.ErrNone)
		g := n.poly(f.Variables, d, 5)
		if len(f.Terms) > 50 {
			continue
		}
		for i := range min(d+1, 41-d) {
			want := sure(impl.AddPolys(sure(impl.SquareOn(f, i)), sure(impl.SquareOn(g, i))))
			got, code := impl.SquareOn(sure(impl.AddPolys(f, g)), i)
			checkPoly(t, fmt.Sprintf("Sq^%d of a sum", i), got, code, want, impl.ErrNone)
		}
	}
}

// checkWord compares what a sum of squares makes of a polynomial with what its admissible form does,
// and the element of Milnor's basis for which it stands.
func checkWord(t *testing.T, a impl.Squares, f impl.Poly) {
	t.Helper()
	want, wantCode := impl.ActSquares(a, f)
	got, code := impl.ActSquares(sure(impl.AdmissibleForm(a)), f)
	if len(sure(impl.AdmissibleForm(a)).Terms) > 0 || wantCode == impl.ErrNone {
		checkPoly(t, fmt.Sprintf("the admissible form of %s acting on %v", shown(a.Terms), f), got, code, want, wantCode)
	}
	m := sure(impl.MilnorOfSquares(a))
	got, code = impl.ActMilnor(m, f)
	if len(m.Terms) > 0 || wantCode == impl.ErrNone {
		checkPoly(t, fmt.Sprintf("the element of %s acting on %v", shown(a.Terms), f), got, code, want, wantCode)
	}
	back, backCode := impl.ActSquares(sure(impl.SquaresOfMilnor(m)), f)
	checkPoly(t, fmt.Sprintf("the admissible sum of the element of %s acting on %v", shown(a.Terms), f), back, backCode, got, code)
}

func TestWordsActAsTheirForms(t *testing.T) {
	n := numbers(181)
	for d := range int64(8) {
		for _, word := range wordsOfDegree(d, 20) {
			for k := int64(1); k <= 4; k++ {
				checkWord(t, squaresOf(word), n.poly(k, n.below(9), 3))
				checkWord(t, squaresOf(word), n.poly(k, 40-d, 2))
			}
		}
	}
	for _, a := range goodSums() {
		for k := int64(1); k <= 4; k++ {
			checkWord(t, a, n.poly(k, 40-sumDegree(a), 4))
			checkWord(t, a, n.poly(k, n.below(41-sumDegree(a)), 4))
			checkWord(t, a, n.poly(k, n.below(41), 4))
			checkWord(t, a, polyOf(k))
		}
	}
	for d := range int64(41) {
		for _, r := range exponentListsByTrial(d) {
			checkWord(t, sure(impl.SquaresOfMilnor(elementOf(r))), n.poly(1+n.below(4), n.below(41-d), 3))
		}
	}
}

// TestProductsActOneAfterTheOther tells this of sums of squares and of elements.
func TestProductsActOneAfterTheOther(t *testing.T) {
	n := numbers(191)
	for range 400 {
		c := n.below(30)
		d := n.below(41 - c)
		f := n.poly(1+n.below(4), n.below(41-c-d), int(1+n.below(4)))
		a, b := n.words(c, 4), n.words(d, 4)
		want := sure(impl.ActSquares(a, sure(impl.ActSquares(b, f))))
		got, code := impl.ActSquares(sure(impl.MultiplySquares(a, b)), f)
		checkPoly(t, fmt.Sprintf("the product of %v and %v on %v", a, b, f), got, code, want, impl.ErrNone)
		r, s := n.element(c), n.element(d)
		want = sure(impl.ActMilnor(r, sure(impl.ActMilnor(s, f))))
		got, code = impl.ActMilnor(sure(impl.MultiplyMilnor(r, s)), f)
		checkPoly(t, fmt.Sprintf("the product of %v and %v on %v", r, s, f), got, code, want, impl.ErrNone)
	}
}

// TestElementsActByCartanPairs compares what elements make of products with the sum over the pairs of
// chapter 6.
func TestElementsActByCartanPairs(t *testing.T) {
	n := numbers(193)
	for range 60 {
		d := n.below(13)
		k, c := 1+n.below(4), n.below(41-d)
		a, f, g := n.element(d), n.poly(k, c, 2), n.poly(k, n.below(41-d-c), 2)
		want := impl.Poly{Variables: k}
		for _, pair := range sure(impl.CartanPairs(a)) {
			part := sure(impl.MultiplyPolys(sure(impl.ActMilnor(elementOf(pair[0]), f)), sure(impl.ActMilnor(elementOf(pair[1]), g))))
			want = sure(impl.AddPolys(want, part))
		}
		got, code := impl.ActMilnor(a, sure(impl.MultiplyPolys(f, g)))
		checkPoly(t, fmt.Sprintf("%v on the product of %v and %v", a, f, g), got, code, want, impl.ErrNone)
	}
}

func TestSubstitutionsCommute(t *testing.T) {
	n := numbers(197)
	for range 300 {
		k, i := 1+n.below(4), n.below(11)
		f, forms := n.poly(k, n.below(21-i), int(1+n.below(10))), n.forms(k)
		want := sure(impl.SubstituteForms(sure(impl.SquareOn(f, i)), forms))
		got, code := impl.SquareOn(sure(impl.SubstituteForms(f, forms)), i)
		checkPoly(t, fmt.Sprintf("Sq^%d and %v of %v", i, forms, f), got, code, want, impl.ErrNone)
		a := n.element(n.below(21 - polyDegree(f)))
		want = sure(impl.SubstituteForms(sure(impl.ActMilnor(a, f)), forms))
		got, code = impl.ActMilnor(a, sure(impl.SubstituteForms(f, forms)))
		checkPoly(t, fmt.Sprintf("%v and %v of %v", a, forms, f), got, code, want, impl.ErrNone)
		g := n.poly(k, n.below(21-polyDegree(f)), 5)
		want = sure(impl.SubstituteForms(sure(impl.MultiplyPolys(f, g)), forms))
		got, code = impl.MultiplyPolys(sure(impl.SubstituteForms(f, forms)), sure(impl.SubstituteForms(g, forms)))
		checkPoly(t, fmt.Sprintf("the product of %v and %v, and %v", f, g, forms), got, code, want, impl.ErrNone)
	}
	for range 60 {
		k, i, d := 1+n.below(3), n.below(41), n.below(41)
		f, forms := n.poly(k, min(d, 40-i), 4), n.forms(k)
		want := sure(impl.SubstituteForms(sure(impl.SquareOn(f, i)), forms))
		got, code := impl.SquareOn(sure(impl.SubstituteForms(f, forms)), i)
		checkPoly(t, fmt.Sprintf("Sq^%d and %v of %v", i, forms, f), got, code, want, impl.ErrNone)
	}
}

// textOfPoly writes the text of a polynomial.
func textOfPoly(f impl.Poly) string {
	text := fmt.Sprint(f.Variables) + ":"
	if len(f.Terms) == 0 {
		return text + "-"
	}
	for i, term := range f.Terms {
		if i > 0 {
			text += "+"
		}
		for j, n := range term {
			if j > 0 {
				text += ","
			}
			text += fmt.Sprint(n)
		}
	}
	return text
}

func TestTextsOfPolys(t *testing.T) {
	for _, f := range goodPolys() {
		text, code := impl.PolyText(f)
		if text != textOfPoly(f) || code != impl.ErrNone {
			t.Errorf("PolyText(%s) = %.120q, %d", shownPoly(f), text, code)
		}
		read, code := impl.ParsePoly(text)
		checkPoly(t, fmt.Sprintf("ParsePoly(%.120q)", text), read, code, f, impl.ErrNone)
		checkSeparate(t, "ParsePoly", read.Terms)
	}
	for text, want := range map[string]impl.Poly{
		"1:-": polyOf(1), "2:-": polyOf(2), "3:-": polyOf(3), "4:-": polyOf(4), "1:0": polyOf(1, []int64{0}), "1:40": polyOf(1, []int64{40}), "4:0,0,0,0": polyOf(4, make([]int64, 4)), "2:0,1+1,0": polyOf(2, []int64{0, 1}, []int64{1, 0}), "2:0,40": polyOf(2, []int64{0, 40}), "3:0,1,2+2,0,1": polyOf(3, []int64{0, 1, 2}, []int64{2, 0, 1}), "4:10,10,10,10": polyOf(4, []int64{10, 10, 10, 10}), "2:2,10+10,2": polyOf(2, []int64{2, 10}, []int64{10, 2}), "2:9,1+10,0": polyOf(2, []int64{9, 1}, []int64{10, 0}),
	} {
		read, code := impl.ParsePoly(text)
		checkPoly(t, fmt.Sprintf("ParsePoly(%q)", text), read, code, want, impl.ErrNone)
		got, code := impl.PolyText(want)
		if got != text || code != impl.ErrNone {
			t.Errorf("PolyText(%v) = %q, %d", want, got, code)
		}
	}
}

// noPolys are texts that no polynomial has.
func noPolys() []string {
	return []string{
		"", " ", "-", ":", "+", ",", "0", "1", "2", "1,1", "x", "2:", ":0,1", ":-", "::", "2::0,1", "2:0,1:", "2:0,1:1,0", "2;0,1", "2 0,1", "2,0,1", "(2):0,1", "2:(0,1)", "2:x0", "2:{0,1}", "0,1+1,0", "2:0;1", "2:0.1", "2:0 1",
		"0:", "0:-", "0:0", "5:-", "5:1,1,1,1,1", "-1:-", "-1:1", "-2:0,1", "6:-", "10:-", "21:-", "01:-", "02:0,1", "+2:0,1", "002:-", "2.0:0,1", "2e0:0,1", "a:-", "\u0662:0,1", "\uff12:0,1", "9223372036854775807:-", "9223372036854775808:-", "-9223372036854775808:-", "-9223372036854775809:-", "4294967298:0,1", "18446744073709551618:0,1", "18446744073709551617:-",
		"2:--", "2:-+-", "2:-+0,1", "2:0,1+-", "2:- ", "2: -", "2:+", "2:0", "2:00", "2:-,-", "2:-0", "1:-0", "1:--", "1:+", "1:+0", "1:-1",
		"2:1", "2:1,1,0", "1:1,0", "1:0,0", "3:1,1", "3:1,1,1,0", "4:1,1,1", "4:1,1,1,1,0", "2:0,1+1", "2:0,1+1,0,0", "2:1+1,0", "4:0,0,1",
		"2:01,0", "2:0,01", "2:00,1", "2:0,00", "1:00", "1:03", "2:0,1+01,0", "2:+0,1", "2:0,+1", "2:-0,1", "2:0,-1", "2:-1,2", "2:2,-1", "2:0.0,1", "2:0,1.0", "2:0,1e0", "2:0x0,1", "2:0_0,1", "2:\u0660,1", "2:\uff10,1", "1:\u00b2",
		" 2:0,1", "2 :0,1", "2: 0,1", "2:0 ,1", "2:0, 1", "2:0,1 ", "2:0,1 +1,0", "2:0,1+ 1,0", "2:0,1 + 1,0", "\t2:0,1", "2:0,1\n", "\n2:0,1", "2:\t0,1", "2:0,1\x00", "2\x00:0,1", "2:\xff,1", "2:0,1\r\n",
		"2:,", "2:,1", "2:0,", "2:0,,1", "2:,0,1", "2:0,1,", "1:,", "1:0,", "1:,0", "2:+0,1", "2:0,1+", "2:+0,1+1,0", "2:0,1++1,0", "2:0,1+1,0+", "2:0,1+,+1,0", "2:0,1-1,0", "2:0,1;1,0", "2:0,1,1,0",
		"2:1,0+0,1", "2:0,1+0,1", "2:1,0+1,0", "2:0,0+0,0", "2:0,1+1,0+1,0", "2:0,1+1,0+0,1", "2:0,2+2,0+1,1", "1:3+3", "1:0+0", "2:10,2+2,10", "2:10,0+9,1", "3:0,0,1+1,0,0+0,1,0",
		"2:0,1+0,2", "2:0,1+2,0", "1:1+2", "1:0+1", "2:0,0+0,1", "2:0,1+1,1", "2:0,2+1,0+2,0", "3:0,0,2+0,1,0",
		"1:41", "2:0,41", "2:41,0", "2:1,40", "3:14,14,13", "4:11,10,10,10", "4:10,10,10,11", "2:0,40+1,40", "1:1000000000000", "1:9223372036854775807", "1:9223372036854775808", "1:-9223372036854775808", "1:-9223372036854775809", "1:18446744073709551616", "1:18446744073709551617", "2:9223372036854775807,9223372036854775807", "3:9223372036854775807,9223372036854775807,3", "2:-9223372036854775808,9223372036854775807", "4:4611686018427387904,4611686018427387904,4611686018427387904,4611686018427387904", "2:0,1+9223372036854775808,0", "2:4294967296,1", "2:0,1+1,18446744073709551616",
		"2:" + strings.Repeat("9", 5000) + ",0", strings.Repeat("9", 5000) + ":-", "2:" + strings.Repeat("0", 5000) + ",1", strings.Repeat("0", 5000) + "2:0,1", "1:" + strings.Repeat("0,", 100000) + "0", strings.Repeat(":", 100000), "2:" + strings.Repeat("+", 100000), "2:" + strings.Repeat(",", 100000), "2:" + strings.Repeat("0,1+", 100000) + "0,1", "2:" + strings.Repeat("-", 100000),
		textOfPoly(impl.Poly{Variables: 4, Terms: monomialsByTrial(4, 21)[:2001]}), textOfPoly(impl.Poly{Variables: 4, Terms: monomialsByTrial(4, 22)}), textOfPoly(impl.Poly{Variables: 2, Terms: monomialsByTrial(2, 41)}), textOfPoly(impl.Poly{Variables: 5, Terms: monomialsByTrial(4, 3)}),
	}
}

func TestTextsOfNoPolys(t *testing.T) {
	for _, text := range noPolys() {
		got, code := impl.ParsePoly(text)
		checkPoly(t, fmt.Sprintf("ParsePoly(%.60q)", text), got, code, impl.Poly{}, impl.ErrSyntax)
	}
	for _, f := range badPolys() {
		if len(f.Terms) < 10 && f.Terms != nil {
			got, code := impl.ParsePoly(textOfPoly(f))
			checkPoly(t, "ParsePoly of the text of "+shownPoly(f), got, code, impl.Poly{}, impl.ErrSyntax)
		}
	}
}

// TestPolyTextsWithOneByteChanged takes a byte away from texts, changes it or puts one before it. What
// is read has the text that was given.
func TestPolyTextsWithOneByteChanged(t *testing.T) {
	for _, text := range []string{"1:-", "4:-", "1:0", "1:40", "2:0,1+1,0", "2:2,10+10,2", "3:0,1,2+2,0,1", "4:0,0,0,1+0,0,1,0+1,0,0,0", "4:10,10,10,10"} {
		for i := range len(text) + 1 {
			var tries []string
			if i < len(text) {
				tries = append(tries, text[:i]+text[i+1:])
			}
			for _, b := range []byte("0123456789:,+- x\n\x00") {
				tries = append(tries, text[:i]+string(rune(b))+text[i:])
				if i < len(text) {
					tries = append(tries, text[:i]+string(rune(b))+text[i+1:])
				}
			}
			for _, try := range tries {
				f, code := impl.ParsePoly(try)
				if code == impl.ErrNone && (!impl.IsPoly(f) || textOfPoly(f) != try) || code != impl.ErrNone && (code != impl.ErrSyntax || len(f.Terms) > 0 || f.Variables != 0) {
					t.Errorf("ParsePoly(%q) = %v, %d", try, f, code)
				}
			}
		}
	}
}

func isZeroPoly(f impl.Poly, code int64) (bool, int64) {
	return f.Variables == 0 && len(f.Terms) == 0, code
}

func isZeroPolys(list []impl.Poly, code int64) (bool, int64) { return len(list) == 0, code }

func isZeroText(text string, code int64) (bool, int64) { return text == "", code }

// TestErrorsOfBadPolys tells that ErrInvalid comes before all other errors, for each argument.
func TestErrorsOfBadPolys(t *testing.T) {
	check := func(name string, bad impl.Poly, zero bool, code int64) {
		t.Helper()
		if !zero || code != impl.ErrInvalid {
			t.Errorf("%s of %s: zero value %v, code %d", name, shownPoly(bad), zero, code)
		}
	}
	for _, bad := range badPolys() {
		zero, code := isZeroNumber(impl.DegreeOfPoly(bad))
		check("DegreeOfPoly", bad, zero, code)
		zero, code = isZeroPolys(impl.TotalSquare(bad))
		check("TotalSquare", bad, zero, code)
		zero, code = isZeroText(impl.PolyText(bad))
		check("PolyText", bad, zero, code)
		for _, i := range append(outside(40), 0, 1, 40) {
			zero, code = isZeroPoly(impl.SquareOn(bad, i))
			check("SquareOn", bad, zero, code)
		}
		for _, forms := range [][]int64{nil, {0}, {1}, {3, 2}, {4, 4}, {1, 2, 4}, {1, 2, 4, 8}, {16, 0, 0, 0}, {-1}} {
			zero, code = isZeroPoly(impl.SubstituteForms(bad, forms))
			check("SubstituteForms", bad, zero, code)
		}
		for _, a := range [][]int64{nil, {}, {1}, {40}} {
			zero, code = isZeroPoly(impl.ActSquares(squaresOf(a), bad))
			check("ActSquares", bad, zero, code)
			zero, code = isZeroPoly(impl.ActMilnor(elementOf(a), bad))
			check("ActMilnor", bad, zero, code)
		}
		zero, code = isZeroPoly(impl.ActSquares(squaresOf(), bad))
		check("ActSquares 0", bad, zero, code)
		zero, code = isZeroPoly(impl.ActMilnor(elementOf(), bad))
		check("ActMilnor 0", bad, zero, code)
		for _, other := range []impl.Poly{polyOf(1), polyOf(2), polyOf(2, []int64{0, 0}), polyOf(1, []int64{40}), polyOf(4, monomialsByTrial(4, 20)...), bad} {
			for _, pair := range [][2]impl.Poly{{bad, other}, {other, bad}} {
				zero, code = isZeroPoly(impl.AddPolys(pair[0], pair[1]))
				check("AddPolys", bad, zero, code)
				zero, code = isZeroPoly(impl.MultiplyPolys(pair[0], pair[1]))
				check("MultiplyPolys", bad, zero, code)
			}
		}
	}
}

func TestErrorsOfBadActions(t *testing.T) {
	check := func(name string, zero bool, code int64) {
		t.Helper()
		if !zero || code != impl.ErrInvalid {
			t.Errorf("%s: zero value %v, code %d", name, zero, code)
		}
	}
	for _, f := range []impl.Poly{polyOf(1), polyOf(4), polyOf(2, []int64{0, 0}), polyOf(3, []int64{1, 2, 3}), polyOf(1, []int64{40}), polyOf(4, monomialsByTrial(4, 20)...), {}, polyOf(2, []int64{1})} {
		for _, a := range badSums() {
			zero, code := isZeroPoly(impl.ActSquares(a, f))
			check(fmt.Sprintf("ActSquares(%s, %s)", shown(a.Terms), shownPoly(f)), zero, code)
		}
		for _, a := range badElements() {
			zero, code := isZeroPoly(impl.ActMilnor(a, f))
			check(fmt.Sprintf("ActMilnor(%s, %s)", shown(a.Terms), shownPoly(f)), zero, code)
		}
	}
}

// TestOrderOfErrorsOfPolys has arguments with errors of two kinds, of which none is ErrInvalid.
func TestOrderOfErrorsOfPolys(t *testing.T) {
	many := polyOf(4, monomialsByTrial(4, 40)[:2000]...)
	others := polyOf(4, monomialsByTrial(4, 39)[5000:7000]...)
	for name, call := range map[string]func() (bool, int64){
		"a sum with other Variables and degrees":      func() (bool, int64) { return isZeroPoly(impl.AddPolys(many, polyOf(3, []int64{0, 0, 1}))) },
		"a sum with other degrees and too many Terms": func() (bool, int64) { return isZeroPoly(impl.AddPolys(many, others)) },
		"a product with other Variables": func() (bool, int64) {
			return isZeroPoly(impl.MultiplyPolys(many, polyOf(3, []int64{0, 0, 1})))
		},
		"a square above MaxDegree": func() (bool, int64) { return isZeroPoly(impl.SquareOn(many, 41)) },
		"a square below 0":         func() (bool, int64) { return isZeroPoly(impl.SquareOn(many, -1)) },
		"a form too few":           func() (bool, int64) { return isZeroPoly(impl.SubstituteForms(many, []int64{15, 14, 13})) },
		"a form too many":          func() (bool, int64) { return isZeroPoly(impl.SubstituteForms(many, []int64{15, 14, 13, 11, 7})) },
		"a form that is none":      func() (bool, int64) { return isZeroPoly(impl.SubstituteForms(many, []int64{15, 14, 13, 16})) },
		"too many monomials":       func() (bool, int64) { return isZeroLists(impl.MonomialsOf(4, 41)) },
		"too many variables":       func() (bool, int64) { return isZeroLists(impl.MonomialsOf(5, 40)) },
	} {
		if zero, code := call(); !zero || code != impl.ErrRange {
			t.Errorf("%s: zero value %v, code %d", name, zero, code)
		}
	}
	if zero, code := isZeroPoly(impl.SubstituteForms(many, []int64{15, 14, 13, 11})); !zero || code != impl.ErrLimit {
		t.Errorf("a substitution with too many Terms: zero value %v, code %d", zero, code)
	}
}

// callsOfChapter8 have two polynomials in three variables as arguments, of which the second one is the
// spare capacity behind the first one, and return lists.
func callsOfChapter8() map[string]func(lists [][]int64) [][]int64 {
	first := func(lists [][]int64) impl.Poly { return impl.Poly{Variables: 3, Terms: lists[:3]} }
	second := func(lists [][]int64) impl.Poly { return impl.Poly{Variables: 3, Terms: lists[3:]} }
	one, zero := polyOf(3, make([]int64, 3)), impl.Poly{Variables: 3}
	return map[string]func(lists [][]int64) [][]int64{
		"IsPoly":        func(lists [][]int64) [][]int64 { impl.IsPoly(first(lists)); return nil },
		"AddPolys":      func(lists [][]int64) [][]int64 { return sure(impl.AddPolys(first(lists), second(lists))).Terms },
		"f + 0":         func(lists [][]int64) [][]int64 { return sure(impl.AddPolys(first(lists), zero)).Terms },
		"0 + g":         func(lists [][]int64) [][]int64 { return sure(impl.AddPolys(zero, second(lists))).Terms },
		"MultiplyPolys": func(lists [][]int64) [][]int64 { return sure(impl.MultiplyPolys(first(lists), second(lists))).Terms },
		"f times 1":     func(lists [][]int64) [][]int64 { return sure(impl.MultiplyPolys(first(lists), one)).Terms },
		"1 times g":     func(lists [][]int64) [][]int64 { return sure(impl.MultiplyPolys(one, second(lists))).Terms },
		"DegreeOfPoly":  func(lists [][]int64) [][]int64 { sure(impl.DegreeOfPoly(first(lists))); return nil },
		"SquareOn":      func(lists [][]int64) [][]int64 { return sure(impl.SquareOn(first(lists), 2)).Terms },
		"Sq^0":          func(lists [][]int64) [][]int64 { return sure(impl.SquareOn(first(lists), 0)).Terms },
		"TotalSquare":   func(lists [][]int64) [][]int64 { return listsOfPolys(sure(impl.TotalSquare(first(lists)))) },
		"the empty word": func(lists [][]int64) [][]int64 {
			return sure(impl.ActSquares(squaresOf([]int64{}), first(lists))).Terms
		},
		"ActSquares": func(lists [][]int64) [][]int64 {
			return sure(impl.ActSquares(squaresOf([]int64{2, 1}, []int64{3}), first(lists))).Terms
		},
		"the element 1": func(lists [][]int64) [][]int64 { return sure(impl.ActMilnor(elementOf([]int64{}), first(lists))).Terms },
		"ActMilnor": func(lists [][]int64) [][]int64 {
			return sure(impl.ActMilnor(elementOf([]int64{0, 1}, []int64{3}), first(lists))).Terms
		},
		"SubstituteForms": func(lists [][]int64) [][]int64 {
			return sure(impl.SubstituteForms(first(lists), []int64{7, 6, 5})).Terms
		},
		"the variables": func(lists [][]int64) [][]int64 {
			return sure(impl.SubstituteForms(first(lists), []int64{1, 2, 4})).Terms
		},
		"MonomialsOf":    func(lists [][]int64) [][]int64 { return sure(impl.MonomialsOf(3, 5)) },
		"PolyText":       func(lists [][]int64) [][]int64 { sure(impl.PolyText(first(lists))); return nil },
		"there and back": func(lists [][]int64) [][]int64 { return sure(impl.ParsePoly(sure(impl.PolyText(first(lists))))).Terms },
		"errors": func(lists [][]int64) [][]int64 {
			impl.AddPolys(first(lists), polyOf(2, []int64{0, 7}))
			impl.AddPolys(impl.Poly{Variables: 3, Terms: lists}, impl.Poly{Variables: 3, Terms: lists})
			impl.MultiplyPolys(first(lists), polyOf(3, []int64{0, 0, 34}))
			impl.SquareOn(first(lists), 34)
			impl.SquareOn(first(lists), 41)
			impl.ActSquares(squaresOf([]int64{34}), first(lists))
			impl.ActMilnor(elementOf([]int64{34}), first(lists))
			impl.SubstituteForms(first(lists), []int64{7, 6, 8})
			impl.PolyText(impl.Poly{Variables: 2, Terms: lists})
			impl.TotalSquare(impl.Poly{Variables: 3, Terms: lists})
			return nil
		},
	}
}

func listsOfPolys(list []impl.Poly) [][]int64 {
	var lists [][]int64
	for _, f := range list {
		lists = append(lists, f.Terms...)
	}
	return lists
}

func TestChapter8KeepsItsArguments(t *testing.T) {
	lists := [][]int64{{0, 3, 4}, {1, 1, 5}, {3, 3, 1}, {0, 0, 7}, {1, 1, 5}, {2, 5, 0}, {7, 0, 0}}
	for name, call := range callsOfChapter8() {
		checkKept(t, name, lists, call)
	}
	f := sure(impl.ParsePoly("3:0,3,4+1,1,5+3,3,1"))
	for name, call := range map[string]struct {
		lists [][]int64
		call  func(lists [][]int64) [][]int64
	}{
		"the words of ActSquares": {[][]int64{{1, 2, 2}, {2, 3}, {4, 1}, {5}}, func(lists [][]int64) [][]int64 { return sure(impl.ActSquares(impl.Squares{Terms: lists}, f)).Terms }},
		"the Terms of ActMilnor":  {[][]int64{{0, 2}, {3, 1}, {6}}, func(lists [][]int64) [][]int64 { return sure(impl.ActMilnor(impl.Milnor{Terms: lists}, f)).Terms }},
		"the list of forms":       {[][]int64{{7, 6, 5}}, func(lists [][]int64) [][]int64 { return sure(impl.SubstituteForms(f, lists[0])).Terms }},
	} {
		checkKept(t, name, call.lists, call.call)
	}
}
