package tests

import (
	"fmt"
	"maps"
	"math"
	"math/big"
	"slices"
	"sync"
	"testing"

	"loop.example/g01154/impl"
)

// mostHitDegree has, for each number of variables, the greatest degree with at most MaxHit monomials.
var mostHitDegree = [5]int64{0, 40, 40, 12, 6}

// hitTrial has the monomials of one degree in lexicographic order, and the hit polynomials as masks
// of them.
type hitTrial struct {
	k, d      int64
	monomials [][]int64
	places    map[polyTerm]int
	hits      maskSpace
	rows      []impl.Poly
}

// allHitTrials has all numbers of variables and all degrees that are within the limits.
var allHitTrials = sync.OnceValue(func() []*hitTrial {
	var all []*hitTrial
	for k := int64(1); k <= 4; k++ {
		for d := range mostHitDegree[k] + 1 {
			all = append(all, hitTrialOf(k, d))
		}
	}
	return all
})

// hitTrialOf takes all squares of all monomials, also those whose degree is no power of 2.
func hitTrialOf(k, d int64) *hitTrial {
	h := &hitTrial{k: k, d: d, monomials: monomialsByTrial(k, d), places: map[polyTerm]int{}, hits: maskSpace{}}
	for place, term := range h.monomials {
		h.places[polyTermOf(term)] = place
	}
	for i := int64(1); i <= d; i++ {
		for _, term := range monomialsByTrial(k, d-i) {
			row := sure(squareByTrial(polySum{polyTermOf(term): true}, i).poly(k))
			h.rows = append(h.rows, row)
			h.hits.join(h.mask(row))
		}
	}
	return h
}

// join adds a mask to a space.
func (space maskSpace) join(mask *big.Int) {
	if left := space.left(mask); left.Sign() != 0 {
		space[left.BitLen()] = left
	}
}

func (h *hitTrial) name() string { return fmt.Sprintf("%d variables and the degree %d", h.k, h.d) }

func (h *hitTrial) mask(f impl.Poly) *big.Int {
	mask := new(big.Int)
	for _, term := range f.Terms {
		mask.SetBit(mask, h.places[polyTermOf(term)], 1)
	}
	return mask
}

func (h *hitTrial) isHit(f impl.Poly) bool { return h.hits.left(h.mask(f)).Sign() == 0 }

// chosen returns the sum of the monomials at whose places a number has the binary digit 1.
func (h *hitTrial) chosen(number int) impl.Poly {
	f := impl.Poly{Variables: h.k}
	for place, term := range h.monomials {
		if number>>place&1 == 1 {
			f.Terms = append(f.Terms, slices.Clone(term))
		}
	}
	return f
}

// admissible joins one monomial after the other to the hit polynomials: those that were there before
// are sums of a hit polynomial and of smaller monomials.
func (h *hitTrial) admissible() [][]int64 {
	space := maskSpace{}
	for _, row := range h.hits {
		space.join(row)
	}
	var found [][]int64
	for place, term := range h.monomials {
		unit := new(big.Int).SetBit(new(big.Int), place, 1)
		if space.left(unit).Sign() != 0 {
			found = append(found, term)
		}
		space.join(unit)
	}
	return found
}

// checkNormalForm fails unless the normal form has only admissible Terms, and differs from f by a hit
// polynomial: there is only one such sum.
func (h *hitTrial) checkNormalForm(t *testing.T, f impl.Poly, admissible [][]int64) {
	t.Helper()
	name := fmt.Sprintf("NormalForm(%s)", shownPoly(f))
	form, code := impl.NormalForm(f)
	if code != impl.ErrNone || form.Variables != h.k || !impl.IsPoly(form) {
		t.Errorf("%s = %s, %d", name, shownPoly(form), code)
		return
	}
	for _, term := range form.Terms {
		if !slices.ContainsFunc(admissible, func(own []int64) bool { return slices.Equal(own, term) }) {
			t.Errorf("%s has the term %v, which is not admissible", name, term)
		}
	}
	difference := sumOfPoly(f)
	difference.add(sumOfPoly(form))
	if !h.isHit(sure(difference.poly(h.k))) {
		t.Errorf("%s = %s does not differ by a hit polynomial", name, shownPoly(form))
	}
	hit, code := impl.IsHit(f)
	checkFlag(t, "IsHit of "+shownPoly(f), hit, code, h.isHit(f), impl.ErrNone)
	checkFlag(t, name+" is 0", len(form.Terms) == 0, 0, h.isHit(f), 0)
	checkSeparate(t, name, form.Terms)
}

// hitPolys are 0, all monomials one by one and together, hit polynomials, and sums of admissible and
// of other monomials.
func (h *hitTrial) hitPolys(n *numbers) []impl.Poly {
	some := []impl.Poly{{Variables: h.k}, polyOf(h.k), polyOf(h.k, h.monomials...), polyOf(h.k, h.admissible()...)}
	for _, term := range h.monomials {
		some = append(some, polyOf(h.k, term))
	}
	for range 6 {
		some = append(some, n.poly(h.k, h.d, 3), n.poly(h.k, h.d, 20))
		sum := polySum{}
		for range 5 * min(len(h.rows), 1) {
			sum.add(sumOfPoly(h.rows[n.below(int64(len(h.rows)))]))
		}
		some = append(some, sure(sum.poly(h.k)))
	}
	return some
}

func TestHitAndCohitDimension(t *testing.T) {
	for _, h := range allHitTrials() {
		got, code := impl.HitDimension(h.k, h.d)
		checkNumber(t, "HitDimension of "+h.name(), got, code, int64(len(h.hits)), impl.ErrNone)
		got, code = impl.CohitDimension(h.k, h.d)
		checkNumber(t, "CohitDimension of "+h.name(), got, code, int64(len(h.monomials)-len(h.hits)), impl.ErrNone)
	}
}

// TestCohitDimensionsByTable has the numbers of Peterson and Kameko.
func TestCohitDimensionsByTable(t *testing.T) {
	one, two := make([]int64, 41), make([]int64, 41)
	for _, d := range []int64{0, 1, 3, 7, 15, 31} {
		one[d] = 1
	}
	for s := 0; s < 6; s++ {
		for u := 0; s+u < 7; u++ {
			if d := 1<<(s+u) + 1<<s - 2; d <= 40 {
				two[d] = []int64{1, 2, 3, 3, 3, 3, 3}[u]
			}
		}
	}
	for k, want := range [][]int64{1: one, 2: two, 3: {1, 3, 3, 7, 8, 3, 6, 10, 15, 7, 14, 8, 0}, 4: {1, 4, 6, 14, 21, 15, 24}} {
		for d, dimension := range want {
			got, code := impl.CohitDimension(int64(k), int64(d))
			checkNumber(t, fmt.Sprintf("CohitDimension(%d, %d)", k, d), got, code, dimension, impl.ErrNone)
		}
	}
	for _, c := range []struct{ k, d, want int64 }{{1, 2, 1}, {1, 0, 0}, {1, 1, 0}, {1, 3, 0}, {1, 40, 1}, {2, 0, 0}, {2, 1, 0}, {2, 2, 2}, {2, 3, 1}, {2, 4, 3}, {2, 40, 41}, {3, 0, 0}, {3, 12, 91}, {4, 0, 0}, {4, 1, 0}, {4, 6, 60}} {
		got, code := impl.HitDimension(c.k, c.d)
		checkNumber(t, fmt.Sprintf("HitDimension(%d, %d)", c.k, c.d), got, code, c.want, impl.ErrNone)
	}
}

func TestAdmissibleMonomials(t *testing.T) {
	for _, h := range allHitTrials() {
		name := "AdmissibleMonomials of " + h.name()
		lists, code := impl.AdmissibleMonomials(h.k, h.d)
		checkLists(t, name, lists, code, h.admissible(), impl.ErrNone)
		checkNumber(t, "the length of "+name, int64(len(lists)), 0, sure(impl.CohitDimension(h.k, h.d)), 0)
		checkSeparate(t, name, lists)
	}
	for _, c := range []struct {
		k, d int64
		want [][]int64
	}{
		{1, 0, [][]int64{{0}}}, {1, 1, [][]int64{{1}}}, {1, 2, nil}, {1, 3, [][]int64{{3}}}, {1, 40, nil}, {2, 0, [][]int64{{0, 0}}}, {2, 1, [][]int64{{0, 1}, {1, 0}}}, {2, 2, [][]int64{{1, 1}}}, {2, 3, [][]int64{{0, 3}, {1, 2}, {3, 0}}}, {2, 4, [][]int64{{1, 3}, {3, 1}}}, {2, 5, nil}, {2, 40, nil},
		{3, 0, [][]int64{{0, 0, 0}}}, {3, 1, [][]int64{{0, 0, 1}, {0, 1, 0}, {1, 0, 0}}}, {3, 2, [][]int64{{0, 1, 1}, {1, 0, 1}, {1, 1, 0}}}, {3, 3, [][]int64{{0, 0, 3}, {0, 1, 2}, {0, 3, 0}, {1, 0, 2}, {1, 1, 1}, {1, 2, 0}, {3, 0, 0}}}, {3, 12, nil}, {4, 0, [][]int64{{0, 0, 0, 0}}}, {4, 1, [][]int64{{0, 0, 0, 1}, {0, 0, 1, 0}, {0, 1, 0, 0}, {1, 0, 0, 0}}},
	} {
		lists, code := impl.AdmissibleMonomials(c.k, c.d)
		checkLists(t, fmt.Sprintf("AdmissibleMonomials(%d, %d)", c.k, c.d), lists, code, c.want, impl.ErrNone)
	}
}

func TestIsHitAndNormalForm(t *testing.T) {
	n := numbers(199)
	for _, h := range allHitTrials() {
		admissible := h.admissible()
		for _, f := range h.hitPolys(&n) {
			h.checkNormalForm(t, f, admissible)
		}
		for _, term := range admissible {
			got, code := impl.NormalForm(polyOf(h.k, term))
			checkPoly(t, fmt.Sprintf("NormalForm of the admissible %v", term), got, code, polyOf(h.k, term), impl.ErrNone)
		}
		got, code := impl.NormalForm(polyOf(h.k, admissible...))
		checkPoly(t, "NormalForm of all admissible monomials of "+h.name(), got, code, polyOf(h.k, admissible...), impl.ErrNone)
	}
}

// TestAllSmallPolys compares all polynomials of small degrees with all sums of squares of monomials,
// and tells what the chapter says of admissible monomials and of spikes from all hit polynomials.
func TestAllSmallPolys(t *testing.T) {
	for _, h := range allHitTrials() {
		if len(h.monomials) > 8 {
			continue
		}
		hits := h.allHits()
		admissible := sure(impl.AdmissibleMonomials(h.k, h.d))
		for number := range 1 << len(h.monomials) {
			f := h.chosen(number)
			h.checkNormalForm(t, f, admissible)
			hit, code := impl.IsHit(f)
			checkFlag(t, fmt.Sprintf("IsHit(%v)", f), hit, code, hits[number], impl.ErrNone)
		}
		for place, term := range h.monomials {
			greatest, occurs := false, false
			for number := range hits {
				greatest = greatest || number>>place == 1
				occurs = occurs || number>>place&1 == 1
			}
			found := slices.ContainsFunc(admissible, func(own []int64) bool { return slices.Equal(own, term) })
			checkFlag(t, fmt.Sprintf("%v is admissible", term), found, 0, !greatest, 0)
			checkFlag(t, fmt.Sprintf("the spike %v occurs in a hit polynomial", term), isSpikeByTrial(term) && occurs, 0, false, 0)
		}
		if 1<<sure(impl.HitDimension(h.k, h.d)) != len(hits) {
			t.Errorf("%d hit polynomials for %s", len(hits), h.name())
		}
	}
}

// allHits returns the numbers of all hit polynomials: a square of a monomial that is not there makes
// them twice as many.
func (h *hitTrial) allHits() map[int]bool {
	hits := map[int]bool{0: true}
	for _, row := range h.rows {
		number := int(h.mask(row).Int64())
		if !hits[number] {
			for _, other := range slices.Collect(maps.Keys(hits)) {
				hits[other^number] = true
			}
		}
	}
	return hits
}

func TestIsHitByHand(t *testing.T) {
	for _, c := range []struct {
		f, form string
		hit     bool
	}{
		{"1:-", "1:-", true}, {"2:-", "2:-", true}, {"3:-", "3:-", true}, {"4:-", "4:-", true}, {"1:0", "1:0", false}, {"2:0,0", "2:0,0", false}, {"3:0,0,0", "3:0,0,0", false}, {"4:0,0,0,0", "4:0,0,0,0", false},
		{"1:1", "1:1", false}, {"1:2", "1:-", true}, {"1:3", "1:3", false}, {"1:31", "1:31", false}, {"1:32", "1:-", true}, {"1:39", "1:-", true}, {"1:40", "1:-", true}, {"2:0,1+1,0", "2:0,1+1,0", false},
		{"2:1,1", "2:1,1", false}, {"2:0,2", "2:-", true}, {"2:0,2+1,1+2,0", "2:1,1", false}, {"2:1,2+2,1", "2:-", true}, {"2:1,2", "2:1,2", false}, {"2:2,1", "2:1,2", false}, {"2:0,3+2,1", "2:0,3+1,2", false}, {"2:0,3+1,2+2,1+3,0", "2:0,3+3,0", false}, {"2:1,3+2,2", "2:1,3", false}, {"2:1,4", "2:-", true}, {"2:0,40+40,0", "2:-", true}, {"2:15,22", "2:-", true},
		{"3:0,2,1", "3:0,1,2", false}, {"3:0,1,2+0,2,1", "3:-", true}, {"3:1,1,1", "3:1,1,1", false}, {"3:1,2,3+2,1,3", "3:-", true}, {"3:7,5,0", "3:-", true}, {"3:4,4,4", "3:-", true}, {"4:1,1,1,1", "4:1,1,1,1", false}, {"4:0,0,0,2", "4:-", true}, {"4:0,0,3,3+3,3,0,0", "4:0,0,3,3+3,3,0,0", false},
	} {
		f := sure(impl.ParsePoly(c.f))
		form, code := impl.NormalForm(f)
		checkPoly(t, "NormalForm of "+c.f, form, code, sure(impl.ParsePoly(c.form)), impl.ErrNone)
		hit, code := impl.IsHit(f)
		checkFlag(t, "IsHit of "+c.f, hit, code, c.hit, impl.ErrNone)
	}
}

// TestNormalFormsAreAdditive tells this too, and that they are their own normal forms.
func TestNormalFormsAreAdditive(t *testing.T) {
	n := numbers(211)
	for _, h := range allHitTrials() {
		for range 4 {
			f, g := n.poly(h.k, h.d, 10), n.poly(h.k, h.d, 10)
			forms := [2]impl.Poly{sure(impl.NormalForm(f)), sure(impl.NormalForm(g))}
			got, code := impl.NormalForm(sure(impl.AddPolys(f, g)))
			checkPoly(t, fmt.Sprintf("NormalForm of the sum of %v and %v", f, g), got, code, sure(impl.AddPolys(forms[0], forms[1])), impl.ErrNone)
			got, code = impl.NormalForm(forms[0])
			checkPoly(t, fmt.Sprintf("NormalForm of %v", forms[0]), got, code, forms[0], impl.ErrNone)
		}
	}
}

// TestHitPolysByOtherWays exchanges variables, which keeps hit polynomials, and moves elements from one
// factor to the other by their conjugates, which differs by a hit polynomial.
func TestHitPolysByOtherWays(t *testing.T) {
	n := numbers(223)
	for range 300 {
		k := 1 + n.below(4)
		d := n.below(mostHitDegree[k] + 1)
		f, forms := n.poly(k, d, 6), n.forms(k)
		if sure(impl.IsHit(f)) {
			hit, code := impl.IsHit(sure(impl.SubstituteForms(f, forms)))
			checkFlag(t, fmt.Sprintf("IsHit of %v in %v", forms, f), hit, code, true, impl.ErrNone)
		}
		if d == 0 {
			continue
		}
		a := n.element(1 + n.below(d))
		c := n.below(d - elementDegree(a) + 1)
		g, h := n.poly(k, c, 3), n.poly(k, d-elementDegree(a)-c, 3)
		left := sure(impl.MultiplyPolys(sure(impl.ActMilnor(a, g)), h))
		right := sure(impl.MultiplyPolys(g, sure(impl.ActMilnor(sure(impl.ConjugateOf(a)), h))))
		hit, code := impl.IsHit(sure(impl.AddPolys(left, right)))
		checkFlag(t, fmt.Sprintf("IsHit of %v and its conjugate on %v and %v", a, g, h), hit, code, true, impl.ErrNone)
	}
}

func isSpikeByTrial(term []int64) bool {
	for _, n := range term {
		for n%2 == 1 {
			n /= 2
		}
		if n != 0 {
			return false
		}
	}
	return true
}

func TestSpikeMonomials(t *testing.T) {
	for _, h := range allHitTrials() {
		var want [][]int64
		for _, term := range h.monomials {
			if isSpikeByTrial(term) {
				want = append(want, term)
			}
		}
		name := "SpikeMonomials of " + h.name()
		lists, code := impl.SpikeMonomials(h.k, h.d)
		checkLists(t, name, lists, code, want, impl.ErrNone)
		checkSeparate(t, name, lists)
	}
	for _, c := range []struct {
		k, d int64
		want [][]int64
	}{
		{1, 0, [][]int64{{0}}}, {1, 1, [][]int64{{1}}}, {1, 2, nil}, {1, 31, [][]int64{{31}}}, {1, 40, nil}, {2, 0, [][]int64{{0, 0}}}, {2, 3, [][]int64{{0, 3}, {3, 0}}}, {2, 2, [][]int64{{1, 1}}}, {2, 5, nil}, {2, 40, nil}, {2, 38, [][]int64{{7, 31}, {31, 7}}}, {2, 31, [][]int64{{0, 31}, {31, 0}}},
		{3, 0, [][]int64{{0, 0, 0}}}, {3, 3, [][]int64{{0, 0, 3}, {0, 3, 0}, {1, 1, 1}, {3, 0, 0}}}, {3, 12, nil}, {3, 8, [][]int64{{0, 1, 7}, {0, 7, 1}, {1, 0, 7}, {1, 7, 0}, {7, 0, 1}, {7, 1, 0}}}, {4, 0, [][]int64{{0, 0, 0, 0}}}, {4, 6, [][]int64{{0, 0, 3, 3}, {0, 3, 0, 3}, {0, 3, 3, 0}, {1, 1, 1, 3}, {1, 1, 3, 1}, {1, 3, 1, 1}, {3, 0, 0, 3}, {3, 0, 3, 0}, {3, 1, 1, 1}, {3, 3, 0, 0}}},
	} {
		lists, code := impl.SpikeMonomials(c.k, c.d)
		checkLists(t, fmt.Sprintf("SpikeMonomials(%d, %d)", c.k, c.d), lists, code, c.want, impl.ErrNone)
	}
}

// weightsByTrial divides each exponent by 2 again and again.
func weightsByTrial(term []int64) []int64 {
	var weights []int64
	for left := slices.Clone(term); slices.Max(left) > 0; {
		count := int64(0)
		for i, n := range left {
			count += n % 2
			left[i] = n / 2
		}
		weights = append(weights, count)
	}
	return weights
}

func TestWeightsOf(t *testing.T) {
	for k := int64(1); k <= 4; k++ {
		for d := range int64(41) {
			for _, term := range monomialsByTrial(k, d) {
				got, code := impl.WeightsOf(term)
				checkList(t, fmt.Sprintf("WeightsOf(%v)", term), got, code, weightsByTrial(term), impl.ErrNone)
			}
		}
	}
	for _, c := range []struct{ term, want []int64 }{
		{[]int64{3, 1}, []int64{2, 1}}, {[]int64{0}, nil}, {[]int64{0, 0, 0, 0}, nil}, {[]int64{1}, []int64{1}}, {[]int64{2}, []int64{0, 1}}, {[]int64{32}, []int64{0, 0, 0, 0, 0, 1}}, {[]int64{40}, []int64{0, 0, 0, 1, 0, 1}}, {[]int64{31, 9}, []int64{2, 1, 1, 2, 1}}, {[]int64{5, 0, 5}, []int64{2, 0, 2}}, {[]int64{10, 10, 10, 10}, []int64{0, 4, 0, 4}}, {[]int64{0, 0, 0, 4}, []int64{0, 0, 1}}, {[]int64{7, 7, 7, 7}, []int64{4, 4, 4}},
	} {
		got, code := impl.WeightsOf(c.term)
		checkList(t, fmt.Sprintf("WeightsOf(%v)", c.term), got, code, c.want, impl.ErrNone)
	}
}

func TestWeightsOfNoMonomials(t *testing.T) {
	bad := [][]int64{nil, {}, {0, 0, 0, 0, 0}, {1, 1, 1, 1, 1}, make([]int64, 10), make([]int64, 1000), {8, 8, 8, 8, 8}, {41}, {40, 1}, {1, 40}, {20, 21}, {14, 14, 13}, {0, 0, 0, 41}, {11, 10, 10, 10}, {-1}, {-1, 1}, {1, -1}, {0, -1}, {41, -1}, {-1, 41}, {42, -2, 0, 0}, {0, 0, 0, -1}, {math.MaxInt64, math.MaxInt64, 2}, {math.MinInt64, math.MinInt64}, {math.MaxInt64, math.MaxInt64, math.MaxInt64, math.MaxInt64}}
	for _, end := range append(outside(40), 1<<32, math.MinInt64+41) {
		bad = append(bad, []int64{end}, []int64{0, end}, []int64{end, 0}, []int64{end, 1, 1}, []int64{1, 2, 3, end}, []int64{end, -end}, []int64{-end, 40, end, 0}, []int64{end, end, end, end})
	}
	for _, term := range bad {
		got, code := impl.WeightsOf(term)
		checkList(t, fmt.Sprintf("WeightsOf(%.40v)", term), got, code, nil, impl.ErrRange)
	}
}

// downByTrial looks for each monomial whose map up is a term.
func downByTrial(f impl.Poly) impl.Poly {
	down := impl.Poly{Variables: f.Variables}
	left := polyDegree(f) - f.Variables
	if left < 0 || left%2 != 0 {
		return down
	}
	terms := sumOfPoly(f)
	for _, term := range monomialsByTrial(f.Variables, left/2) {
		if terms[polyTermOf(doubled(term))] {
			down.Terms = append(down.Terms, term)
		}
	}
	return down
}

func doubled(term []int64) []int64 {
	var up []int64
	for _, n := range term {
		up = append(up, n+n+1)
	}
	return up
}

// oddPart returns the terms of a polynomial whose exponents are all odd.
func oddPart(f impl.Poly) impl.Poly {
	part := impl.Poly{Variables: f.Variables}
	for _, term := range f.Terms {
		if !slices.ContainsFunc(term, func(n int64) bool { return n&1 == 0 }) {
			part.Terms = append(part.Terms, term)
		}
	}
	return part
}

// kamekoPolys are polynomials at and within the limits, of which many have terms with odd exponents.
func kamekoPolys() []impl.Poly {
	n := numbers(227)
	some := goodPolys()
	for k := int64(1); k <= 4; k++ {
		for d := range int64(41) {
			lists := monomialsByTrial(k, d)
			some = append(some, polyOf(k, lists[:min(len(lists), 2000)]...), n.poly(k, d, 30))
			some = append(some, polyOf(k, slices.DeleteFunc(lists, func(term []int64) bool {
				return slices.ContainsFunc(term, func(n int64) bool { return n&1 == 0 })
			})...))
		}
	}
	return some
}

func TestKamekoDown(t *testing.T) {
	for _, f := range kamekoPolys() {
		name := fmt.Sprintf("KamekoDown(%s)", shownPoly(f))
		got, code := impl.KamekoDown(f)
		checkPoly(t, name, got, code, downByTrial(f), impl.ErrNone)
		back, code := impl.KamekoUp(got)
		checkPoly(t, name+" up again", back, code, oddPart(f), impl.ErrNone)
		checkSeparate(t, name, got.Terms)
	}
}

func TestKamekoUp(t *testing.T) {
	for _, f := range kamekoPolys() {
		name := fmt.Sprintf("KamekoUp(%s)", shownPoly(f))
		want, wantCode := impl.Poly{Variables: f.Variables}, int64(impl.ErrNone)
		for _, term := range f.Terms {
			want.Terms = append(want.Terms, doubled(term))
			if polyDegree(f)+polyDegree(f)+f.Variables > 40 {
				want, wantCode = impl.Poly{}, impl.ErrLimit
				break
			}
		}
		got, code := impl.KamekoUp(f)
		checkPoly(t, name, got, code, want, wantCode)
		if code == impl.ErrNone {
			back, code := impl.KamekoDown(got)
			checkPoly(t, name+" down again", back, code, f, impl.ErrNone)
		}
		checkSeparate(t, name, got.Terms)
	}
}

func TestKamekoByHand(t *testing.T) {
	for _, c := range []struct{ f, down, up string }{
		{"1:-", "1:-", "1:-"}, {"2:-", "2:-", "2:-"}, {"3:-", "3:-", "3:-"}, {"4:-", "4:-", "4:-"}, {"1:0", "1:-", "1:1"}, {"2:0,0", "2:-", "2:1,1"}, {"3:0,0,0", "3:-", "3:1,1,1"}, {"4:0,0,0,0", "4:-", "4:1,1,1,1"},
		{"1:1", "1:0", "1:3"}, {"1:2", "1:-", "1:5"}, {"1:3", "1:1", "1:7"}, {"2:3,1", "2:1,0", "2:7,3"}, {"2:1,1", "2:0,0", "2:3,3"}, {"2:1,3+2,2+3,1", "2:0,1+1,0", "2:3,7+5,5+7,3"}, {"2:0,3+3,0", "2:-", "2:1,7+7,1"}, {"2:1,2+2,1", "2:-", "2:3,5+5,3"}, {"2:0,1", "2:-", "2:1,3"}, {"3:1,1,1", "3:0,0,0", "3:3,3,3"}, {"3:1,1,5+1,3,3+2,2,3", "3:0,0,2+0,1,1", "3:3,3,11+3,7,7+5,5,7"}, {"4:1,1,1,1", "4:0,0,0,0", "4:3,3,3,3"}, {"4:1,1,1,2", "4:-", "4:3,3,3,5"}, {"4:3,5,7,1", "4:1,2,3,0", "4:7,11,15,3"},
		{"1:39", "1:19", ""}, {"1:40", "1:-", ""}, {"1:19", "1:9", "1:39"}, {"1:20", "1:-", ""}, {"2:39,1", "2:19,0", ""}, {"2:0,19", "2:-", "2:1,39"}, {"2:10,9", "2:-", "2:21,19"}, {"2:1,19", "2:0,9", ""}, {"2:0,20", "2:-", ""}, {"3:0,0,18", "3:-", "3:1,1,37"}, {"3:0,0,19", "3:-", ""}, {"3:1,1,37", "3:0,0,18", ""}, {"4:0,0,0,18", "4:-", "4:1,1,1,37"}, {"4:1,1,1,15", "4:0,0,0,7", "4:3,3,3,31"}, {"4:0,0,0,19", "4:-", ""}, {"4:1,1,1,37", "4:0,0,0,18", ""}, {"4:10,10,10,10", "4:-", ""},
	} {
		f := sure(impl.ParsePoly(c.f))
		got, code := impl.KamekoDown(f)
		checkPoly(t, "KamekoDown of "+c.f, got, code, sure(impl.ParsePoly(c.down)), impl.ErrNone)
		want, wantCode := impl.Poly{}, int64(impl.ErrLimit)
		if c.up != "" {
			want, wantCode = sure(impl.ParsePoly(c.up)), impl.ErrNone
		}
		got, code = impl.KamekoUp(f)
		checkPoly(t, "KamekoUp of "+c.f, got, code, want, wantCode)
	}
}

// hitCall is a call with two numbers, and tells whether its result is the zero value.
type hitCall func(k, d int64) (bool, int64)

func callsWithDegrees() map[string]hitCall {
	return map[string]hitCall{
		"HitDimension":        func(k, d int64) (bool, int64) { return isZeroNumber(impl.HitDimension(k, d)) },
		"CohitDimension":      func(k, d int64) (bool, int64) { return isZeroNumber(impl.CohitDimension(k, d)) },
		"AdmissibleMonomials": func(k, d int64) (bool, int64) { return isZeroLists(impl.AdmissibleMonomials(k, d)) },
		"SpikeMonomials":      func(k, d int64) (bool, int64) { return isZeroLists(impl.SpikeMonomials(k, d)) },
	}
}

// TestNumbersOfHitsOutside has numbers out of range, also beside one for which there are too many
// monomials: ErrRange comes first.
func TestNumbersOfHitsOutside(t *testing.T) {
	for name, call := range callsWithDegrees() {
		check := func(k, d int64) {
			t.Helper()
			if zero, code := call(k, d); !zero || code != impl.ErrRange {
				t.Errorf("%s(%d, %d): zero value %v, code %d", name, k, d, zero, code)
			}
		}
		for _, d := range outside(40) {
			for k := int64(1); k <= 4; k++ {
				check(k, d)
			}
		}
		for _, k := range append(outside(4), 0) {
			for d := int64(-1); d <= 41; d++ {
				check(k, d)
			}
			for _, d := range outside(40) {
				check(k, d)
			}
		}
	}
}

// TestHitLimit meets all degrees. No degree has exactly MaxHit monomials: the greatest ones within the
// limit have 91 and 84, and the least ones beyond it 105 and 120.
func TestHitLimit(t *testing.T) {
	if impl.MaxHit != 100 {
		t.Errorf("MaxHit is %d", impl.MaxHit)
	}
	counts := map[int]bool{}
	for k := int64(1); k <= 4; k++ {
		for d := range int64(41) {
			count := len(monomialsByTrial(k, d))
			counts[count] = true
			want := int64(impl.ErrNone)
			if count > 100 {
				want = impl.ErrLimit
			}
			checkFlag(t, fmt.Sprintf("the limit of %d and %d", k, d), want == impl.ErrLimit, 0, d > mostHitDegree[k], 0)
			for name, call := range callsWithDegrees() {
				if zero, code := call(k, d); code != want || !zero && want == impl.ErrLimit {
					t.Errorf("%s(%d, %d): zero value %v, code %d", name, k, d, zero, code)
				}
			}
			checkLimitOfPolys(t, k, d, want)
		}
	}
	if counts[100] || !counts[91] || !counts[84] || !counts[105] || !counts[120] {
		t.Errorf("degrees have other numbers of monomials")
	}
}

// checkLimitOfPolys has polynomials of one degree with one Term, and with many. Kameko's maps do not have
// this limit.
func checkLimitOfPolys(t *testing.T, k, d, want int64) {
	t.Helper()
	lists := monomialsByTrial(k, d)
	for _, f := range []impl.Poly{polyOf(k, lists[0]), polyOf(k, lists[len(lists)/2]), polyOf(k, lists[len(lists)-1]), polyOf(k, lists[:min(len(lists), 2000)]...)} {
		hit, code := impl.IsHit(f)
		if code != want || hit && code != impl.ErrNone {
			t.Errorf("IsHit(%s) = %v, %d; want code %d", shownPoly(f), hit, code, want)
		}
		form, code := impl.NormalForm(f)
		if zero, _ := isZeroPoly(form, code); code != want || !zero && code != impl.ErrNone {
			t.Errorf("NormalForm(%s) = %s, %d; want code %d", shownPoly(f), shownPoly(form), code, want)
		}
		down, code := impl.KamekoDown(f)
		checkPoly(t, "KamekoDown of "+shownPoly(f), down, code, downByTrial(f), impl.ErrNone)
		if _, code := impl.KamekoUp(f); (code == impl.ErrNone) != (2*d+k <= 40) {
			t.Errorf("KamekoUp(%s): code %d", shownPoly(f), code)
		}
	}
}

// TestZeroHasNoHitLimit has 0 in each number of Variables: it has no degree.
func TestZeroHasNoHitLimit(t *testing.T) {
	for k := int64(1); k <= 4; k++ {
		for _, zero := range []impl.Poly{{Variables: k}, polyOf(k), {Variables: k, Terms: monomialsByTrial(k, 40)[:0]}} {
			hit, code := impl.IsHit(zero)
			checkFlag(t, fmt.Sprintf("IsHit of 0 in %d variables", k), hit, code, true, impl.ErrNone)
			for name, call := range map[string]func(impl.Poly) (impl.Poly, int64){"NormalForm": impl.NormalForm, "KamekoDown": impl.KamekoDown, "KamekoUp": impl.KamekoUp} {
				got, code := call(zero)
				checkPoly(t, fmt.Sprintf("%s of 0 in %d variables", name, k), got, code, impl.Poly{Variables: k}, impl.ErrNone)
			}
		}
	}
}

// TestErrorsOfBadPolysOfHits tells that ErrInvalid comes first, also where there would be too many
// monomials, or too great a degree.
func TestErrorsOfBadPolysOfHits(t *testing.T) {
	bad := append(badPolys(), polyOf(4, []int64{0, 0, 0, 40}, []int64{0, 0, 1, 40}), polyOf(3, []int64{0, 0, 13}, []int64{0, 0, 13}), polyOf(4, []int64{40, 0, 0, 0}, []int64{0, 40, 0, 0}), polyOf(3, []int64{-1, 0, 41}), polyOf(4, []int64{20, 20, 0}))
	for _, f := range bad {
		for name, call := range map[string]func() (bool, int64){
			"IsHit":      func() (bool, int64) { return isZeroFlag(impl.IsHit(f)) },
			"NormalForm": func() (bool, int64) { return isZeroPoly(impl.NormalForm(f)) },
			"KamekoDown": func() (bool, int64) { return isZeroPoly(impl.KamekoDown(f)) },
			"KamekoUp":   func() (bool, int64) { return isZeroPoly(impl.KamekoUp(f)) },
		} {
			if zero, code := call(); !zero || code != impl.ErrInvalid {
				t.Errorf("%s of %s: zero value %v, code %d", name, shownPoly(f), zero, code)
			}
		}
	}
}

// callsOfChapter9 have a polynomial in three variables of degree 7 as argument, with spare capacity
// behind it, and return lists.
func callsOfChapter9() map[string]func(lists [][]int64) [][]int64 {
	poly := func(lists [][]int64) impl.Poly { return impl.Poly{Variables: 3, Terms: lists[:4]} }
	return map[string]func(lists [][]int64) [][]int64{
		"HitDimension":        func(lists [][]int64) [][]int64 { return [][]int64{{sure(impl.HitDimension(3, 7))}} },
		"CohitDimension":      func(lists [][]int64) [][]int64 { return [][]int64{{sure(impl.CohitDimension(3, 7))}} },
		"IsHit":               func(lists [][]int64) [][]int64 { sure(impl.IsHit(poly(lists))); return nil },
		"AdmissibleMonomials": func(lists [][]int64) [][]int64 { return sure(impl.AdmissibleMonomials(3, 7)) },
		"NormalForm":          func(lists [][]int64) [][]int64 { return sure(impl.NormalForm(poly(lists))).Terms },
		"SpikeMonomials":      func(lists [][]int64) [][]int64 { return sure(impl.SpikeMonomials(3, 7)) },
		"WeightsOf":           func(lists [][]int64) [][]int64 { return [][]int64{sure(impl.WeightsOf(lists[0]))} },
		"KamekoDown":          func(lists [][]int64) [][]int64 { return sure(impl.KamekoDown(poly(lists))).Terms },
		"KamekoUp":            func(lists [][]int64) [][]int64 { return sure(impl.KamekoUp(poly(lists))).Terms },
		"errors": func(lists [][]int64) [][]int64 {
			impl.IsHit(impl.Poly{Variables: 3, Terms: lists})
			impl.NormalForm(impl.Poly{Variables: 2, Terms: lists[:4]})
			impl.KamekoDown(impl.Poly{Variables: 3, Terms: lists})
			impl.KamekoUp(impl.Poly{Variables: 3, Terms: lists})
			impl.WeightsOf(lists[0][:0])
			impl.WeightsOf(slices.Repeat(lists[0], 2))
			return nil
		},
	}
}

func TestChapter9KeepsItsArguments(t *testing.T) {
	admissible := sure(impl.AdmissibleMonomials(3, 7))
	for name, call := range callsOfChapter9() {
		checkKept(t, name, [][]int64{{1, 1, 5}, {1, 3, 3}, {2, 5, 0}, {7, 0, 0}, {1, 1, 5}}, call)
		checkKept(t, name+" of admissible monomials", slices.Concat(admissible[:4], admissible[:1]), call)
		checkKept(t, name+" of spikes", [][]int64{{0, 0, 7}, {0, 7, 0}, {1, 3, 3}, {3, 3, 1}, {3, 3, 1}}, call)
	}
	for name, call := range map[string]func(lists [][]int64) [][]int64{
		"IsHit of a great degree": func(lists [][]int64) [][]int64 { impl.IsHit(impl.Poly{Variables: 4, Terms: lists}); return nil },
		"NormalForm of a great degree": func(lists [][]int64) [][]int64 {
			impl.NormalForm(impl.Poly{Variables: 4, Terms: lists})
			return nil
		},
		"KamekoDown of a great degree": func(lists [][]int64) [][]int64 {
			return sure(impl.KamekoDown(impl.Poly{Variables: 4, Terms: lists})).Terms
		},
		"KamekoUp of a great degree": func(lists [][]int64) [][]int64 {
			impl.KamekoUp(impl.Poly{Variables: 4, Terms: lists})
			return nil
		},
	} {
		checkKept(t, name, monomialsByTrial(4, 40)[:2000], call)
	}
}

// TestSpikesAreAdmissible is promise 9, with what the chapter guarantees: spikes are admissible and
// occur in no hit polynomial, and the least spike list tells where the cohit dimension is 0.
func TestSpikesAreAdmissible(t *testing.T) {
	n := numbers(229)
	for _, h := range allHitTrials() {
		admissible := sure(impl.AdmissibleMonomials(h.k, h.d))
		for _, spike := range sure(impl.SpikeMonomials(h.k, h.d)) {
			if !slices.ContainsFunc(admissible, func(own []int64) bool { return slices.Equal(own, spike) }) {
				t.Errorf("the spike %v is not admissible", spike)
			}
			for range 5 {
				f := n.poly(h.k, h.d, 8)
				form := sure(impl.NormalForm(f))
				checkFlag(t, fmt.Sprintf("the spike %v is in the normal form of %v", spike, f), sumOfPoly(form)[polyTermOf(spike)], 0, sumOfPoly(f)[polyTermOf(spike)], 0)
			}
			for _, row := range h.rows {
				checkFlag(t, fmt.Sprintf("the spike %v is in %v", spike, row), sumOfPoly(row)[polyTermOf(spike)], 0, false, 0)
			}
		}
		least := sure(impl.LeastSpike(h.d))
		checkFlag(t, "the cohit dimension is 0 for "+h.name(), sure(impl.CohitDimension(h.k, h.d)) == 0, 0, least > h.k, 0)
		checkFlag(t, "there are no spikes for "+h.name(), len(sure(impl.SpikeMonomials(h.k, h.d))) == 0, 0, least > h.k, 0)
	}
}

// TestKamekoKeepsHitPolys is promise 27 as far as chapter 9 goes: what the map down makes of a hit
// polynomial is hit, and so is what the map up makes of one where the least spike list of the greater
// degree has as many numbers as there are variables. Then the map down keeps cohit dimensions, too.
func TestKamekoKeepsHitPolys(t *testing.T) {
	n, both := numbers(233), 0
	for _, h := range allHitTrials() {
		for _, f := range h.hitPolys(&n) {
			if !sure(impl.IsHit(f)) {
				continue
			}
			hit, code := impl.IsHit(sure(impl.KamekoDown(f)))
			checkFlag(t, fmt.Sprintf("IsHit of KamekoDown(%s)", shownPoly(f)), hit, code, true, impl.ErrNone)
		}
		for _, f := range h.rows {
			hit, code := impl.IsHit(sure(impl.KamekoDown(f)))
			checkFlag(t, fmt.Sprintf("IsHit of KamekoDown(%v)", f), hit, code, true, impl.ErrNone)
		}
		if h.d < h.k || (h.d-h.k)%2 != 0 || sure(impl.LeastSpike(h.d)) != h.k {
			continue
		}
		both++
		down := (h.d - h.k) / 2
		checkNumber(t, "the cohit dimension below "+h.name(), sure(impl.CohitDimension(h.k, down)), 0, sure(impl.CohitDimension(h.k, h.d)), 0)
		for _, f := range h.hitPolys(&n) {
			hit := sure(impl.IsHit(f))
			checkFlag(t, fmt.Sprintf("IsHit of KamekoDown(%s)", shownPoly(f)), sure(impl.IsHit(sure(impl.KamekoDown(f)))), 0, hit, 0)
		}
		for _, term := range monomialsByTrial(h.k, down) {
			for _, f := range []impl.Poly{polyOf(h.k, term), n.poly(h.k, down, 5)} {
				hit := sure(impl.IsHit(f))
				checkFlag(t, fmt.Sprintf("IsHit of KamekoUp(%v)", f), sure(impl.IsHit(sure(impl.KamekoUp(f)))), 0, hit, 0)
			}
		}
	}
	if both < 20 {
		t.Errorf("%d degrees are no sample", both)
	}
	// Elsewhere the map up keeps them not always: the square of a variable in three is hit.
	f := polyOf(3, []int64{0, 0, 2})
	checkFlag(t, "IsHit of a square", sure(impl.IsHit(f)), 0, true, 0)
	checkFlag(t, "IsHit of the map up of a square", sure(impl.IsHit(sure(impl.KamekoUp(f)))), 0, false, 0)
}

// TestKamekoAndSquares tells why hit polynomials are kept: the map down makes Sq^i of Sq^(2 i), and 0 of
// all squares of odd degree.
func TestKamekoAndSquares(t *testing.T) {
	n := numbers(239)
	for range 400 {
		k, i := 1+n.below(4), n.below(21)
		f := n.poly(k, n.below(41-i), 12)
		want := impl.Poly{Variables: k}
		if i%2 == 0 {
			want = sure(impl.SquareOn(sure(impl.KamekoDown(f)), i/2))
		}
		got, code := impl.KamekoDown(sure(impl.SquareOn(f, i)))
		checkPoly(t, fmt.Sprintf("KamekoDown of Sq^%d of %v", i, f), got, code, want, impl.ErrNone)
		g := n.poly(k, polyDegree(f), 12)
		want = sure(impl.AddPolys(sure(impl.KamekoDown(f)), sure(impl.KamekoDown(g))))
		got, code = impl.KamekoDown(sure(impl.AddPolys(f, g)))
		checkPoly(t, fmt.Sprintf("KamekoDown of the sum of %v and %v", f, g), got, code, want, impl.ErrNone)
	}
}
