package tests

import (
	"fmt"
	"math"
	"slices"
	"testing"

	"loop.example/g01154/impl"
)

// checkFlag fails unless a bool and a code are those that are wanted.
func checkFlag(t *testing.T, name string, got bool, code int64, want bool, wantCode int64) {
	t.Helper()
	if got != want || code != wantCode {
		t.Errorf("%s = %v, %d; want %v, %d", name, got, code, want, wantCode)
	}
}

// checkList fails unless a list and a code are those that are wanted.
func checkList(t *testing.T, name string, got []int64, code int64, want []int64, wantCode int64) {
	t.Helper()
	if !slices.Equal(got, want) || code != wantCode {
		t.Errorf("%s = %v, %d; want %v, %d", name, got, code, want, wantCode)
	}
}

// gap returns a profile with some numbers, zeros, and a number at the given place.
func gap(first []int64, place int, number int64) []int64 {
	h := make([]int64, place)
	copy(h, first)
	h[place-1] = number
	return h
}

// subalgebra returns n + 1, n, .., 1.
func subalgebra(n int64) []int64 {
	h := make([]int64, n+1)
	for i := range h {
		h[i] = n + 1 - int64(i)
	}
	return h
}

// boxOf returns all lists of a length with the numbers 0..most.
func boxOf(length int, most int64) [][]int64 {
	box := [][]int64{{}}
	for range length {
		var longer [][]int64
		for _, h := range box {
			for n := range most + 1 {
				longer = append(longer, append(slices.Clone(h), n))
			}
		}
		box = longer
	}
	return box
}

// goodProfiles are profiles at and within the limits.
func goodProfiles() [][]int64 {
	good := [][]int64{
		nil, {}, {0}, {0, 0}, {1}, {2}, {10}, {0, 1}, {1, 1}, {2, 1}, {1, 2}, {1, 0, 1}, {0, 2, 0}, {2, 1, 0, 0}, {0, 0, 3, 0, 0, 3}, {3, 0, 2}, {1, 1, 1, 1}, {6, 4, 3, 2, 1}, {5, 3, 2, 1},
		make([]int64, 16), slices.Repeat([]int64{1}, 16), slices.Repeat([]int64{2}, 16), slices.Repeat([]int64{10}, 16), gap(nil, 16, 1), gap(nil, 16, 10), gap(nil, 1, 10), gap([]int64{10}, 16, 0),
		gap([]int64{1}, 15, 2), gap([]int64{1}, 16, 1), gap([]int64{1}, 16, 2), gap([]int64{2, 1}, 16, 1), gap([]int64{9, 8, 7, 6}, 9, 2), gap([]int64{4, 4, 4, 4}, 11, 10),
	}
	for n := range int64(10) {
		good = append(good, subalgebra(n), append(subalgebra(n), 0, 0))
	}
	return good
}

// badProfiles are no profiles, each for one reason.
func badProfiles() [][]int64 {
	bad := [][]int64{
		make([]int64, 17), slices.Repeat([]int64{1}, 17), slices.Repeat([]int64{10}, 17), append(subalgebra(9), make([]int64, 7)...), gap(nil, 17, 1), make([]int64, 1000),
		{-1}, {11}, {10, 11}, {11, 10}, {2, -1}, {-1, 2}, {2, 1, -1}, {2, -1, 1}, {2, 1, 11}, {0, 0, -1, 0}, {0, 0, 11, 0}, gap(nil, 16, -1), gap(nil, 16, 11), gap([]int64{-1}, 16, 10), gap([]int64{11}, 16, 0),
	}
	for _, end := range []int64{math.MinInt64, math.MaxInt64, math.MinInt64 + 1, 1 << 32, 1 << 62, -1 << 62, 266, -246} {
		bad = append(bad, []int64{end}, []int64{2, end}, []int64{end, 2}, []int64{2, end, 1}, gap([]int64{2, 1}, 16, end))
	}
	return bad
}

// profile returns a profile with up to the given length, of which many are closed or nearly so.
func (n *numbers) profile(length int64) []int64 {
	h := make([]int64, n.below(length+1))
	most := n.below(11)
	for i := range h {
		h[i] = n.below(most + 1)
		if n.below(3) == 0 {
			h[i] = 0
		}
	}
	return h
}

// manyProfiles are good profiles, all small ones, random ones, and closures with one number changed.
func manyProfiles() [][]int64 {
	profiles := slices.Concat(goodProfiles(), boxOf(4, 3), boxOf(2, 10))
	n := numbers(127)
	for range 400 {
		h := n.profile(16)
		profiles = append(profiles, h)
		closure, fits := closureByTrial(h)
		if !fits || len(closure) == 0 {
			continue
		}
		changed := slices.Clone(closure)
		place := n.below(int64(len(closure)))
		changed[place] = max(changed[place]-1, 0)
		profiles = append(profiles, closure, changed)
	}
	return profiles
}

// numberOf returns h(i), which is 0 for a missing one.
func numberOf(h []int64, i int) int64 {
	if i > len(h) {
		return 0
	}
	return h[i-1]
}

// closedByTrial tries the chapter's words for all numbers that may be other than 0, and some more.
func closedByTrial(h []int64) bool {
	for i := 1; i <= 30; i++ {
		for j := 1; j <= 30; j++ {
			if numberOf(h, i+j) < numberOf(h, j) && numberOf(h, i+j) < numberOf(h, i)-int64(j) {
				return false
			}
		}
	}
	return true
}

// shortened returns a copy without zeros at the end.
func shortened(h []int64) []int64 {
	last := 0
	for i, n := range h {
		if n != 0 {
			last = i + 1
		}
	}
	return slices.Clone(h[:last])
}

// closureByTrial raises numbers, the last ones first, until none is too small.
func closureByTrial(h []int64) ([]int64, bool) {
	wide := make([]int64, 64)
	copy(wide, h)
	for raised := true; raised; {
		raised = false
		for i := 30; i >= 1; i-- {
			for j := 30; j >= 1; j-- {
				least := min(numberOf(wide, j), numberOf(wide, i)-int64(j))
				if wide[i+j-1] < least {
					wide[i+j-1], raised = least, true
				}
			}
		}
	}
	closure := shortened(wide)
	return closure, len(closure) <= 16
}

func containedByTrial(g, h []int64) bool {
	for i := 1; i <= 20; i++ {
		if numberOf(g, i) > numberOf(h, i) {
			return false
		}
	}
	return true
}

func meetByTrial(g, h []int64) []int64 {
	var meet []int64
	for i := 1; i <= 20; i++ {
		meet = append(meet, min(numberOf(g, i), numberOf(h, i)))
	}
	return shortened(meet)
}

// partByTrial reports whether a basis element is in the part of a profile.
func partByTrial(r, h []int64) bool {
	for i, n := range r {
		if n >= int64(1)<<numberOf(h, i+1) {
			return false
		}
	}
	return true
}

func TestIsProfile(t *testing.T) {
	for _, h := range manyProfiles() {
		if !impl.IsProfile(h) {
			t.Errorf("IsProfile(%v) is false", h)
		}
	}
	for _, h := range badProfiles() {
		if impl.IsProfile(h) {
			t.Errorf("IsProfile(%v) is true", h)
		}
	}
}

func TestIsClosedProfile(t *testing.T) {
	closed := 0
	for _, h := range manyProfiles() {
		want := closedByTrial(h)
		if want {
			closed++
		}
		got, code := impl.IsClosedProfile(h)
		checkFlag(t, fmt.Sprintf("IsClosedProfile(%v)", h), got, code, want, impl.ErrNone)
	}
	if closed < 100 || closed > len(manyProfiles())-100 {
		t.Errorf("%d closed profiles are no sample", closed)
	}
	for _, c := range []struct {
		h    []int64
		want bool
	}{
		{nil, true}, {[]int64{0}, true}, {[]int64{1}, true}, {[]int64{2}, false}, {[]int64{2, 1}, true}, {[]int64{2, 1, 0}, true}, {[]int64{3, 1}, false}, {[]int64{3, 2}, false}, {[]int64{3, 2, 1}, true}, {[]int64{1, 2}, false}, {[]int64{1, 2, 1}, true}, {[]int64{1, 3, 1}, false}, {[]int64{1, 3, 1, 1}, true},
		{[]int64{0, 2}, true}, {[]int64{0, 3}, false}, {[]int64{0, 3, 0, 1}, true}, {[]int64{1, 1, 1}, true}, {slices.Repeat([]int64{1}, 16), true}, {slices.Repeat([]int64{2}, 16), false}, {make([]int64, 16), true},
		{gap(nil, 16, 10), true}, {gap([]int64{1}, 16, 1), true}, {gap([]int64{1}, 16, 2), false}, {gap([]int64{0, 1}, 16, 2), true}, {gap([]int64{0, 1}, 16, 3), false}, {gap([]int64{1}, 15, 2), false}, {slices.Repeat([]int64{10}, 16), false},
	} {
		got, code := impl.IsClosedProfile(c.h)
		checkFlag(t, fmt.Sprintf("IsClosedProfile(%v)", c.h), got, code, c.want, impl.ErrNone)
	}
}

func TestProfileOfA(t *testing.T) {
	for n, want := range [][]int64{{1}, {2, 1}, {3, 2, 1}, {4, 3, 2, 1}, {5, 4, 3, 2, 1}, {6, 5, 4, 3, 2, 1}, {7, 6, 5, 4, 3, 2, 1}, {8, 7, 6, 5, 4, 3, 2, 1}, {9, 8, 7, 6, 5, 4, 3, 2, 1}, {10, 9, 8, 7, 6, 5, 4, 3, 2, 1}} {
		name := fmt.Sprintf("ProfileOfA(%d)", n)
		got, code := impl.ProfileOfA(int64(n))
		checkList(t, name, got, code, want, impl.ErrNone)
		closed, code := impl.IsClosedProfile(got)
		checkFlag(t, name+" is closed", closed, code, true, impl.ErrNone)
		overwrite(guard, got)
		again, code := impl.ProfileOfA(int64(n))
		checkList(t, name+" again", again, code, want, impl.ErrNone)
	}
	for _, n := range outside(9) {
		got, code := impl.ProfileOfA(n)
		checkList(t, fmt.Sprintf("ProfileOfA(%d)", n), got, code, nil, impl.ErrRange)
	}
}

func TestClosureOfProfile(t *testing.T) {
	refused := 0
	for _, h := range manyProfiles() {
		want, wantCode := []int64(nil), int64(impl.ErrLimit)
		if closure, fits := closureByTrial(h); fits {
			want, wantCode = closure, impl.ErrNone
		} else {
			refused++
		}
		got, code := impl.ClosureOfProfile(h)
		checkList(t, fmt.Sprintf("ClosureOfProfile(%v)", h), got, code, want, wantCode)
	}
	if refused < 30 {
		t.Errorf("%d refused profiles are no sample", refused)
	}
	for _, c := range []struct{ h, want []int64 }{
		{nil, nil}, {[]int64{0, 0}, nil}, {make([]int64, 16), nil}, {[]int64{2}, []int64{2, 1}}, {[]int64{2, 1, 0}, []int64{2, 1}}, {[]int64{3}, []int64{3, 2, 1}}, {[]int64{10}, subalgebra(9)}, {[]int64{0, 3}, []int64{0, 3, 0, 1}},
		{[]int64{1, 2}, []int64{1, 2, 1}}, {[]int64{1, 3}, []int64{1, 3, 1, 1}}, {[]int64{0, 2, 0}, []int64{0, 2}}, {slices.Repeat([]int64{1}, 16), slices.Repeat([]int64{1}, 16)}, {gap(nil, 16, 10), gap(nil, 16, 10)},
		{gap([]int64{1}, 15, 2), append(gap([]int64{1}, 15, 2), 1)}, {gap([]int64{1}, 15, 3), append(gap([]int64{1}, 15, 3), 1)}, {gap([]int64{1}, 16, 1), gap([]int64{1}, 16, 1)}, {gap(nil, 8, 10), append(gap(nil, 8, 10), 0, 0, 0, 0, 0, 0, 0, 2)}, {gap(nil, 9, 9), gap(nil, 9, 9)},
	} {
		got, code := impl.ClosureOfProfile(c.h)
		checkList(t, fmt.Sprintf("ClosureOfProfile(%v)", c.h), got, code, c.want, impl.ErrNone)
	}
	for _, h := range [][]int64{gap([]int64{1}, 16, 2), gap([]int64{0, 1}, 16, 3), gap([]int64{1, 1}, 15, 3), gap([]int64{2}, 15, 3), slices.Repeat([]int64{2}, 16), slices.Repeat([]int64{10}, 16), slices.Repeat([]int64{10}, 10), gap(nil, 9, 10)} {
		got, code := impl.ClosureOfProfile(h)
		checkList(t, fmt.Sprintf("ClosureOfProfile(%v)", h), got, code, nil, impl.ErrLimit)
	}
}

// TestClosuresAreTheLeast meets all small closed profiles in which one is contained.
func TestClosuresAreTheLeast(t *testing.T) {
	var closed [][]int64
	for _, h := range boxOf(5, 3) {
		if closedByTrial(h) {
			closed = append(closed, h)
		}
	}
	for _, h := range boxOf(3, 3) {
		least := slices.Repeat([]int64{3}, 5)
		for _, other := range closed {
			if containedByTrial(h, other) {
				least = append(meetByTrial(least, other), make([]int64, 5)...)[:5]
			}
		}
		got, code := impl.ClosureOfProfile(h)
		checkList(t, fmt.Sprintf("ClosureOfProfile(%v)", h), got, code, shortened(least), impl.ErrNone)
	}
}

func TestClosuresAreClosed(t *testing.T) {
	for _, h := range manyProfiles() {
		closure, code := impl.ClosureOfProfile(h)
		if code != impl.ErrNone {
			continue
		}
		name := fmt.Sprintf("the closure of %v", h)
		closed, code := impl.IsClosedProfile(closure)
		checkFlag(t, name+" is closed", closed, code, true, impl.ErrNone)
		contained, code := impl.IsContainedProfile(h, closure)
		checkFlag(t, name+" contains it", contained, code, true, impl.ErrNone)
		again, code := impl.ClosureOfProfile(closure)
		checkList(t, name+" and again", again, code, closure, impl.ErrNone)
		if !impl.IsProfile(closure) {
			t.Errorf("%s is no profile: %v", name, closure)
		}
	}
}

func TestMeetOfProfiles(t *testing.T) {
	n := numbers(131)
	check := func(g, h, want []int64) {
		t.Helper()
		got, code := impl.MeetOfProfiles(g, h)
		checkList(t, fmt.Sprintf("MeetOfProfiles(%v, %v)", g, h), got, code, want, impl.ErrNone)
	}
	for _, g := range goodProfiles() {
		for _, h := range goodProfiles() {
			check(g, h, meetByTrial(g, h))
		}
		check(g, g, shortened(g))
		check(g, nil, nil)
		check([]int64{}, g, nil)
		check(g, slices.Repeat([]int64{10}, 16), shortened(g))
	}
	for range 1000 {
		g, h := n.profile(16), n.profile(16)
		check(g, h, meetByTrial(g, h))
	}
	check([]int64{3, 2, 1}, []int64{1, 3}, []int64{1, 2})
	check([]int64{1, 3}, []int64{3, 2, 1}, []int64{1, 2})
	check([]int64{0, 1}, []int64{1}, nil)
	check([]int64{2, 0, 1}, []int64{2, 5, 1}, []int64{2, 0, 1})
	check([]int64{2, 0, 1}, []int64{2, 5}, []int64{2})
}

// TestMeetsOfClosedProfilesAreClosed follows from the chapter's words.
func TestMeetsOfClosedProfilesAreClosed(t *testing.T) {
	n := numbers(137)
	for range 300 {
		g, firstCode := impl.ClosureOfProfile(n.profile(8))
		h, secondCode := impl.ClosureOfProfile(n.profile(8))
		if firstCode != impl.ErrNone || secondCode != impl.ErrNone {
			continue
		}
		closed, code := impl.IsClosedProfile(sure(impl.MeetOfProfiles(g, h)))
		checkFlag(t, fmt.Sprintf("the meet of %v and %v is closed", g, h), closed, code, true, impl.ErrNone)
	}
}

func TestIsContainedProfile(t *testing.T) {
	n := numbers(139)
	check := func(g, h []int64, want bool) {
		t.Helper()
		got, code := impl.IsContainedProfile(g, h)
		checkFlag(t, fmt.Sprintf("IsContainedProfile(%v, %v)", g, h), got, code, want, impl.ErrNone)
	}
	for _, g := range goodProfiles() {
		for _, h := range goodProfiles() {
			check(g, h, containedByTrial(g, h))
		}
		check(g, g, true)
		check(nil, g, true)
		check(make([]int64, 16), g, true)
		check(g, nil, len(shortened(g)) == 0)
		check(g, slices.Repeat([]int64{10}, 16), true)
		// One number alone is too great or too small.
		for i, number := range g {
			greater, lesser := slices.Clone(g), slices.Clone(g)
			greater[i], lesser[i] = min(number+1, 10), max(number-1, 0)
			check(greater, g, number == 10)
			check(g, greater, true)
			check(lesser, g, true)
			check(g, lesser, number == 0)
		}
		if len(g) < 16 {
			check(append(slices.Clone(g), 1), g, false)
			check(g, append(slices.Clone(g), 1), true)
			check(append(slices.Clone(g), 0), g, true)
		}
	}
	for range 1000 {
		g, h := n.profile(4), n.profile(16)
		check(g, h, containedByTrial(g, h))
	}
}

// checkPart compares IsInPart with all Terms of an element.
func checkPart(t *testing.T, a impl.Milnor, h []int64) {
	t.Helper()
	want := true
	for _, r := range a.Terms {
		want = want && partByTrial(r, h)
	}
	got, code := impl.IsInPart(a, h)
	checkFlag(t, fmt.Sprintf("IsInPart(%v, %v)", a, h), got, code, want, impl.ErrNone)
}

func TestIsInPart(t *testing.T) {
	n := numbers(149)
	for _, h := range goodProfiles() {
		for d := range int64(41) {
			for _, r := range exponentListsByTrial(d) {
				checkPart(t, elementOf(r), h)
			}
			checkPart(t, elementOf(exponentListsByTrial(d)...), h)
			checkPart(t, n.element(d), h)
			// The Terms in the part and one more, which may be any of the degree.
			basis := sure(impl.BasisOfProfile(h, d))
			checkPart(t, elementOf(basis...), h)
			lists := exponentListsByTrial(d)
			other := lists[n.below(int64(len(lists)))]
			if !slices.ContainsFunc(basis, func(r []int64) bool { return slices.Equal(r, other) }) {
				basis = append(basis, other)
				slices.SortFunc(basis, slices.Compare)
				checkPart(t, elementOf(basis...), h)
			}
		}
		for text, a := range map[string]impl.Milnor{"0": {}, "1": elementOf([]int64{})} {
			got, code := impl.IsInPart(a, h)
			checkFlag(t, fmt.Sprintf("IsInPart(%s, %v)", text, h), got, code, true, impl.ErrNone)
		}
	}
	for _, c := range []struct {
		text string
		h    []int64
		want bool
	}{
		{"(0,1)+(3)", []int64{2, 1}, true}, {"(0,1)+(3)", []int64{1, 1}, false}, {"(0,1)+(3)", []int64{2}, false}, {"(0,1)", []int64{0, 1}, true}, {"(3)", []int64{2}, true}, {"(4)", []int64{2}, false}, {"(40)", []int64{6}, true}, {"(40)", []int64{5}, false},
		{"()", nil, true}, {"0", nil, true}, {"(1)", nil, false}, {"(1)", []int64{0, 10}, false}, {"(9,0,0,0,1)", []int64{4, 0, 0, 0, 1}, true}, {"(9,0,0,0,1)", []int64{4, 10, 10, 10}, false}, {"(9,0,0,0,1)", []int64{3, 0, 0, 0, 1}, false},
	} {
		got, code := impl.IsInPart(sure(impl.ParseMilnor(c.text)), c.h)
		checkFlag(t, fmt.Sprintf("IsInPart(%s, %v)", c.text, c.h), got, code, c.want, impl.ErrNone)
	}
}

// TestExponentsAtTheEdgesOfParts has the exponents 2^h - 1, which are in the part, and 2^h, which are
// not.
func TestExponentsAtTheEdgesOfParts(t *testing.T) {
	for i := 1; i <= 5; i++ {
		for number := int64(0); number <= 6; number++ {
			h := gap([]int64{10, 10, 10, 10, 10}[:i-1], i, number)
			for exponent := int64(1)<<number - 1; exponent <= int64(1)<<number; exponent++ {
				if exponent*(1<<i-1) > 40 || exponent == 0 {
					continue
				}
				a, inside := elementOf(gap(nil, i, exponent)), exponent < int64(1)<<number
				got, code := impl.IsInPart(a, h)
				checkFlag(t, fmt.Sprintf("IsInPart(%v, %v)", a, h), got, code, inside, impl.ErrNone)
				want := number
				if !inside {
					want++
				}
				least, code := impl.ProfileOfElement(a)
				checkList(t, fmt.Sprintf("ProfileOfElement(%v)", a), least, code, gap(nil, i, want), impl.ErrNone)
				count := int64(0)
				for _, r := range sure(impl.BasisOfProfile(h, exponent*(1<<i-1))) {
					if slices.Equal(r, a.Terms[0]) {
						count++
					}
				}
				checkNumber(t, fmt.Sprintf("how often %v is in the basis of %v", a, h), count, 0, map[bool]int64{true: 1}[inside], 0)
			}
		}
	}
}

func TestBasisOfProfile(t *testing.T) {
	profiles := slices.Concat(goodProfiles(), boxOf(3, 2))
	for _, h := range profiles {
		for d := range int64(41) {
			var want [][]int64
			for _, r := range exponentListsByTrial(d) {
				if partByTrial(r, h) {
					want = append(want, r)
				}
			}
			name := fmt.Sprintf("BasisOfProfile(%v, %d)", h, d)
			got, code := impl.BasisOfProfile(h, d)
			checkLists(t, name, got, code, want, impl.ErrNone)
			checkSeparate(t, name, got)
		}
		for _, d := range outside(40) {
			got, code := impl.BasisOfProfile(h, d)
			checkLists(t, fmt.Sprintf("BasisOfProfile(%v, %d)", h, d), got, code, nil, impl.ErrRange)
		}
	}
	for _, c := range []struct {
		h    []int64
		d    int64
		want [][]int64
	}{
		{[]int64{2, 1}, 3, [][]int64{{0, 1}, {3}}}, {[]int64{2, 1}, 0, [][]int64{{}}}, {[]int64{2, 1}, 6, [][]int64{{3, 1}}}, {[]int64{2, 1}, 7, nil}, {nil, 0, [][]int64{{}}}, {nil, 1, nil}, {nil, 40, nil}, {[]int64{0, 1}, 3, [][]int64{{0, 1}}},
		{[]int64{6}, 40, [][]int64{{40}}}, {[]int64{5}, 40, nil}, {[]int64{4, 0, 0, 0, 1}, 40, [][]int64{{9, 0, 0, 0, 1}}}, {slices.Repeat([]int64{10}, 16), 3, [][]int64{{0, 1}, {3}}}, {[]int64{3, 2, 1}, 23, [][]int64{{7, 3, 1}}},
	} {
		got, code := impl.BasisOfProfile(c.h, c.d)
		checkLists(t, fmt.Sprintf("BasisOfProfile(%v, %d)", c.h, c.d), got, code, c.want, impl.ErrNone)
	}
}

func TestDimensionOfProfile(t *testing.T) {
	for _, h := range manyProfiles() {
		want, wantCode := int64(1), int64(impl.ErrNone)
		for _, n := range h {
			for range n {
				want *= 2
				if want > 1<<40 || want <= 0 {
					wantCode = impl.ErrLimit
				}
			}
		}
		if wantCode != impl.ErrNone {
			want = 0
		}
		got, code := impl.DimensionOfProfile(h)
		checkNumber(t, fmt.Sprintf("DimensionOfProfile(%v)", h), got, code, want, wantCode)
	}
	for _, c := range []struct {
		h          []int64
		want, code int64
	}{
		{nil, 1, impl.ErrNone}, {[]int64{0, 0}, 1, impl.ErrNone}, {[]int64{2, 1}, 8, impl.ErrNone}, {[]int64{0, 3}, 8, impl.ErrNone}, {subalgebra(7), 1 << 36, impl.ErrNone}, {subalgebra(8), 0, impl.ErrLimit}, {subalgebra(9), 0, impl.ErrLimit},
		{[]int64{10, 10, 10, 10}, 1099511627776, impl.ErrNone}, {[]int64{10, 10, 10, 10, 1}, 0, impl.ErrLimit}, {[]int64{10, 10, 10, 9}, 1 << 39, impl.ErrNone}, {gap([]int64{10, 10, 10, 9}, 16, 1), 1 << 40, impl.ErrNone}, {gap([]int64{10, 10, 10, 9}, 16, 2), 0, impl.ErrLimit},
		{slices.Repeat([]int64{10}, 16), 0, impl.ErrLimit}, {slices.Repeat([]int64{4}, 16), 0, impl.ErrLimit}, {slices.Repeat([]int64{1}, 16), 65536, impl.ErrNone}, {append(slices.Repeat([]int64{3}, 12), 4), 1 << 40, impl.ErrNone}, {append(slices.Repeat([]int64{3}, 12), 4, 1), 0, impl.ErrLimit},
	} {
		got, code := impl.DimensionOfProfile(c.h)
		checkNumber(t, fmt.Sprintf("DimensionOfProfile(%v)", c.h), got, code, c.want, c.code)
	}
}

func topByTrial(h []int64) int64 {
	top := int64(0)
	for i := 1; i <= len(h); i++ {
		number, degree := int64(1), int64(1)
		for range h[i-1] {
			number *= 2
		}
		for range i {
			degree *= 2
		}
		top += (number - 1) * (degree - 1)
	}
	return top
}

func TestTopOfProfile(t *testing.T) {
	for _, h := range manyProfiles() {
		got, code := impl.TopOfProfile(h)
		checkNumber(t, fmt.Sprintf("TopOfProfile(%v)", h), got, code, topByTrial(h), impl.ErrNone)
	}
	for _, c := range []struct {
		h    []int64
		want int64
	}{
		{nil, 0}, {[]int64{0, 0, 0}, 0}, {[]int64{1}, 1}, {[]int64{2, 1}, 6}, {[]int64{3, 2, 1}, 23}, {[]int64{4, 3, 2, 1}, 72}, {[]int64{0, 1}, 3}, {[]int64{10}, 1023}, {gap(nil, 16, 1), 65535}, {gap(nil, 16, 10), 1023 * 65535}, {slices.Repeat([]int64{10}, 16), 1023 * (131072 - 2 - 16)},
	} {
		got, code := impl.TopOfProfile(c.h)
		checkNumber(t, fmt.Sprintf("TopOfProfile(%v)", c.h), got, code, c.want, impl.ErrNone)
	}
}

// seriesByTrial counts the exponent lists of the degrees 0 to d one exponent after the other: those
// at i are the multiples of step(i) that are less than limit(i).
func seriesByTrial(d int64, step, limit func(i int) int64) []int64 {
	series := make([]int64, d+1)
	series[0] = 1
	for i := 1; i <= 10; i++ {
		next, degree := make([]int64, d+1), int64(1)<<i-1
		for n, count := range series {
			for r := int64(0); r < limit(i) && int64(n)+r*degree <= d; r += step(i) {
				next[int64(n)+r*degree] += count
			}
		}
		series = next
	}
	return series
}

func partSeriesByTrial(h []int64, d int64) []int64 {
	return seriesByTrial(d, func(int) int64 { return 1 }, func(i int) int64 { return 1 << numberOf(h, i) })
}

// quotientByTrial counts the exponent lists with multiples of 2^h(i): each exponent is in one way a
// sum of one of these and a lesser one.
func quotientByTrial(h []int64, d int64) []int64 {
	return seriesByTrial(d, func(i int) int64 { return 1 << numberOf(h, i) }, func(int) int64 { return 1000 })
}

// seriesDegrees are degrees of series at and within the limits.
func seriesDegrees() []int64 {
	return []int64{0, 1, 2, 5, 6, 7, 22, 23, 24, 40, 71, 72, 73, 127, 128, 199, 200}
}

func TestSeriesOfProfile(t *testing.T) {
	for _, h := range slices.Concat(goodProfiles(), boxOf(3, 3)) {
		for _, d := range seriesDegrees() {
			got, code := impl.SeriesOfProfile(h, d)
			checkList(t, fmt.Sprintf("SeriesOfProfile(%v, %d)", h, d), got, code, partSeriesByTrial(h, d), impl.ErrNone)
		}
		for _, d := range outside(200) {
			got, code := impl.SeriesOfProfile(h, d)
			checkList(t, fmt.Sprintf("SeriesOfProfile(%v, %d)", h, d), got, code, nil, impl.ErrRange)
		}
		series := sure(impl.SeriesOfProfile(h, 40))
		for d := range int64(41) {
			checkNumber(t, fmt.Sprintf("the number of the basis of %v in degree %d", h, d), int64(len(sure(impl.BasisOfProfile(h, d)))), 0, series[d], 0)
		}
	}
	for _, c := range []struct {
		h    []int64
		d    int64
		want []int64
	}{
		{[]int64{2, 1}, 7, []int64{1, 1, 1, 2, 1, 1, 1, 0}}, {[]int64{2, 1}, 0, []int64{1}}, {nil, 3, []int64{1, 0, 0, 0}}, {nil, 0, []int64{1}}, {[]int64{1}, 2, []int64{1, 1, 0}}, {[]int64{0, 1}, 4, []int64{1, 0, 0, 1, 0}}, {[]int64{10}, 3, []int64{1, 1, 1, 1}},
	} {
		got, code := impl.SeriesOfProfile(c.h, c.d)
		checkList(t, fmt.Sprintf("SeriesOfProfile(%v, %d)", c.h, c.d), got, code, c.want, impl.ErrNone)
	}
}

// TestSeriesAreSymmetric compares both ends, and the sum with the dimension, also where the top is
// less than the degree.
func TestSeriesAreSymmetric(t *testing.T) {
	n, symmetric := numbers(151), 0
	profiles := slices.Concat(goodProfiles(), boxOf(4, 3), boxOf(3, 4), [][]int64{{7}, {6, 4, 2}, {0, 6}, {0, 0, 4, 2}, {1, 2, 1, 1, 1, 1}, {4, 3, 2, 1, 1}, {0, 0, 0, 0, 0, 1, 1}})
	for range 200 {
		profiles = append(profiles, n.profile(7))
	}
	for _, h := range profiles {
		top := sure(impl.TopOfProfile(h))
		if top > 200 {
			continue
		}
		symmetric++
		for _, d := range []int64{top, 200} {
			series := sure(impl.SeriesOfProfile(h, d))
			turned, sum := slices.Clone(series[:top+1]), int64(0)
			slices.Reverse(turned)
			checkList(t, fmt.Sprintf("SeriesOfProfile(%v, %d) turned around", h, d), turned, 0, series[:top+1], 0)
			for i, count := range series {
				sum += count
				if int64(i) > top && count != 0 {
					t.Errorf("the series of %v has %d in degree %d, which is greater than the top %d", h, count, i, top)
				}
			}
			dimension, code := impl.DimensionOfProfile(h)
			checkNumber(t, fmt.Sprintf("the dimension of %v", h), dimension, code, sum, impl.ErrNone)
		}
	}
	if symmetric < 300 {
		t.Errorf("%d profiles are no sample", symmetric)
	}
}

// checkQuotient compares a quotient series with the lists that it counts, and its product with the
// series of the profile with those of the whole algebra.
func checkQuotient(t *testing.T, h []int64, d int64) {
	t.Helper()
	name := fmt.Sprintf("QuotientSeries(%v, %d)", h, d)
	quotient, code := impl.QuotientSeries(h, d)
	checkList(t, name, quotient, code, quotientByTrial(h, d), impl.ErrNone)
	series := sure(impl.SeriesOfProfile(h, d))
	for n := range d + 1 {
		count := int64(0)
		for i := range n + 1 {
			count += quotient[i] * series[n-i]
		}
		checkNumber(t, fmt.Sprintf("%s times the series in degree %d", name, n), count, 0, sure(impl.CountPartitions(n)), 0)
		if quotient[n] < 0 {
			t.Errorf("%s has %d in degree %d", name, quotient[n], n)
		}
	}
}

func TestQuotientSeries(t *testing.T) {
	for _, h := range slices.Concat(goodProfiles(), boxOf(4, 3)) {
		for _, d := range seriesDegrees() {
			if closedByTrial(h) {
				checkQuotient(t, h, d)
				continue
			}
			got, code := impl.QuotientSeries(h, d)
			checkList(t, fmt.Sprintf("QuotientSeries(%v, %d)", h, d), got, code, nil, impl.ErrState)
		}
		for _, d := range outside(200) {
			got, code := impl.QuotientSeries(h, d)
			checkList(t, fmt.Sprintf("QuotientSeries(%v, %d)", h, d), got, code, nil, impl.ErrRange)
		}
	}
	for _, c := range []struct {
		h    []int64
		d    int64
		want []int64
		code int64
	}{
		{[]int64{1}, 5, []int64{1, 0, 1, 1, 1, 1}, impl.ErrNone}, {[]int64{1}, 0, []int64{1}, impl.ErrNone}, {nil, 7, []int64{1, 1, 1, 2, 2, 2, 3, 4}, impl.ErrNone}, {[]int64{2, 1}, 7, []int64{1, 0, 0, 0, 1, 0, 1, 1}, impl.ErrNone}, {subalgebra(9), 200, quotientByTrial(subalgebra(9), 200), impl.ErrNone},
		{[]int64{2}, 5, nil, impl.ErrState}, {[]int64{2}, 0, nil, impl.ErrState}, {[]int64{2}, 200, nil, impl.ErrState}, {[]int64{2}, 201, nil, impl.ErrRange}, {[]int64{2}, -1, nil, impl.ErrRange}, {slices.Repeat([]int64{2}, 16), 0, nil, impl.ErrState}, {gap([]int64{1}, 16, 2), 200, nil, impl.ErrState},
	} {
		got, code := impl.QuotientSeries(c.h, c.d)
		checkList(t, fmt.Sprintf("QuotientSeries(%v, %d)", c.h, c.d), got, code, c.want, c.code)
	}
}

func TestQuotientSeriesOfClosuresHaveNoNegativeNumbers(t *testing.T) {
	n, closures := numbers(157), 0
	for range 400 {
		closure, code := impl.ClosureOfProfile(n.profile(8))
		if code == impl.ErrNone {
			closures++
			checkQuotient(t, closure, 200)
		}
	}
	if closures < 200 {
		t.Errorf("%d closures are no sample", closures)
	}
}

func TestProfileOfElement(t *testing.T) {
	n := numbers(163)
	elements := goodElements()
	for d := range int64(41) {
		for _, r := range exponentListsByTrial(d) {
			elements = append(elements, elementOf(r))
		}
		elements = append(elements, elementOf(exponentListsByTrial(d)...), n.element(d), n.element(d))
	}
	for _, a := range elements {
		var want []int64
		for i := 1; i <= 6; i++ {
			number := int64(0)
			for _, r := range a.Terms {
				for numberOf(r, i) >= int64(1)<<number {
					number++
				}
			}
			want = append(want, number)
		}
		name := fmt.Sprintf("ProfileOfElement(%v)", a)
		got, code := impl.ProfileOfElement(a)
		checkList(t, name, got, code, shortened(want), impl.ErrNone)
		inside, code := impl.IsInPart(a, got)
		checkFlag(t, name+" has it in its part", inside, code, true, impl.ErrNone)
		for i, number := range got {
			if number > 0 {
				lesser := slices.Clone(got)
				lesser[i]--
				inside, code = impl.IsInPart(a, lesser)
				checkFlag(t, fmt.Sprintf("%s is not the least at %d", name, i), inside, code, false, impl.ErrNone)
			}
		}
	}
	for text, want := range map[string][]int64{
		"0": nil, "()": nil, "(1)": {1}, "(2)": {2}, "(0,1)": {0, 1}, "(0,1)+(3)": {2, 1}, "(40)": {6}, "(31)": {5}, "(32)": {6}, "(0,0,0,0,1)": {0, 0, 0, 0, 1}, "(9,0,0,0,1)": {4, 0, 0, 0, 1}, "(0,8)": {0, 4}, "(3,7)": {2, 3}, "(5,0,5)": {3, 0, 3},
	} {
		got, code := impl.ProfileOfElement(sure(impl.ParseMilnor(text)))
		checkList(t, "ProfileOfElement of "+text, got, code, want, impl.ErrNone)
	}
	got, code := impl.ProfileOfElement(elementOf(exponentListsByTrial(40)...))
	checkList(t, "ProfileOfElement of all of degree 40", got, code, []int64{6, 4, 3, 2, 1}, impl.ErrNone)
}

// inPart returns a sum of some basis elements of degree d in the part of a profile.
func (n *numbers) inPart(h []int64, d int64) impl.Milnor {
	var lists [][]int64
	for _, r := range sure(impl.BasisOfProfile(h, d)) {
		if n.below(2) == 0 {
			lists = append(lists, r)
		}
	}
	return elementOf(lists...)
}

// checkProductInPart multiplies two elements of a part.
func checkProductInPart(t *testing.T, a, b impl.Milnor, h []int64) {
	t.Helper()
	got, code := impl.IsInPart(sure(impl.MultiplyMilnor(a, b)), h)
	checkFlag(t, fmt.Sprintf("IsInPart of the product of %v and %v, for %v", a, b, h), got, code, true, impl.ErrNone)
}

func TestProductsOfPartsOfClosedProfiles(t *testing.T) {
	for _, h := range [][]int64{nil, {1}, {2, 1}, {1, 2, 1}, {3, 2, 1}, {1, 1, 1, 1}, {0, 2}, {0, 3, 0, 1}, {1, 3, 1, 1}, {3, 2, 2, 1}, {2, 2, 1, 1, 1}, {0, 0, 3}} {
		if !closedByTrial(h) {
			t.Fatalf("%v is not closed", h)
		}
		for c := range int64(24) {
			for d := range min(41-c, 24) {
				for _, r := range sure(impl.BasisOfProfile(h, c)) {
					for _, s := range sure(impl.BasisOfProfile(h, d)) {
						checkProductInPart(t, elementOf(r), elementOf(s), h)
					}
				}
			}
		}
	}
	n := numbers(167)
	for range 400 {
		h, code := impl.ClosureOfProfile(n.profile(5))
		if code == impl.ErrNone {
			c := n.below(41)
			checkProductInPart(t, n.inPart(h, c), n.inPart(h, 40-c), h)
			checkProductInPart(t, n.inPart(h, c), n.inPart(h, n.below(41-c)), h)
		}
	}
}

// TestProductsLeavePartsThatAreNotClosed finds, for each small profile that is not closed, a product
// that is not in the part: the table with x(i, j) = 2^h(i + j) and no other number tells which.
func TestProductsLeavePartsThatAreNotClosed(t *testing.T) {
	for _, h := range boxOf(3, 3) {
		closed, code := impl.IsClosedProfile(h)
		left := false
		for i := 1; i <= 3; i++ {
			for j := 1; i+j <= 5; j++ {
				number := numberOf(h, i+j)
				a, b := elementOf(gap(nil, i, 1<<(number+int64(j)))), elementOf(gap(nil, j, 1<<number))
				if elementDegree(a)+elementDegree(b) > 40 || !sure(impl.IsInPart(a, h)) || !sure(impl.IsInPart(b, h)) {
					continue
				}
				left = left || !sure(impl.IsInPart(sure(impl.MultiplyMilnor(a, b)), h))
			}
		}
		checkFlag(t, fmt.Sprintf("IsClosedProfile(%v)", h), closed, code, !left, impl.ErrNone)
	}
}

// profileCall is a call with profiles, an element and a number, of which it may use some. It tells
// whether the result is the zero value.
type profileCall func(a impl.Milnor, g, h []int64, d int64) (bool, int64)

func isZeroFlag(flag bool, code int64) (bool, int64) { return !flag, code }

func isZeroLists(lists [][]int64, code int64) (bool, int64) { return len(lists) == 0, code }

func callsWithOneProfile() map[string]profileCall {
	return map[string]profileCall{
		"IsClosedProfile":  func(a impl.Milnor, g, h []int64, d int64) (bool, int64) { return isZeroFlag(impl.IsClosedProfile(g)) },
		"ClosureOfProfile": func(a impl.Milnor, g, h []int64, d int64) (bool, int64) { return isZeroList(impl.ClosureOfProfile(g)) },
		"BasisOfProfile": func(a impl.Milnor, g, h []int64, d int64) (bool, int64) {
			return isZeroLists(impl.BasisOfProfile(g, d))
		},
		"DimensionOfProfile": func(a impl.Milnor, g, h []int64, d int64) (bool, int64) {
			return isZeroNumber(impl.DimensionOfProfile(g))
		},
		"TopOfProfile": func(a impl.Milnor, g, h []int64, d int64) (bool, int64) { return isZeroNumber(impl.TopOfProfile(g)) },
		"SeriesOfProfile": func(a impl.Milnor, g, h []int64, d int64) (bool, int64) {
			return isZeroList(impl.SeriesOfProfile(g, d))
		},
		"QuotientSeries": func(a impl.Milnor, g, h []int64, d int64) (bool, int64) { return isZeroList(impl.QuotientSeries(g, d)) },
		"IsInPart":       func(a impl.Milnor, g, h []int64, d int64) (bool, int64) { return isZeroFlag(impl.IsInPart(a, g)) },
		"MeetOfProfiles": func(a impl.Milnor, g, h []int64, d int64) (bool, int64) {
			return isZeroList(impl.MeetOfProfiles(g, h))
		},
		"MeetOfProfiles turned": func(a impl.Milnor, g, h []int64, d int64) (bool, int64) {
			return isZeroList(impl.MeetOfProfiles(h, g))
		},
		"IsContainedProfile": func(a impl.Milnor, g, h []int64, d int64) (bool, int64) {
			return isZeroFlag(impl.IsContainedProfile(g, h))
		},
		"IsContainedProfile turned": func(a impl.Milnor, g, h []int64, d int64) (bool, int64) {
			return isZeroFlag(impl.IsContainedProfile(h, g))
		},
	}
}

// TestErrorsOfBadProfiles tells that ErrInvalid comes before the errors of numbers and of limits, of
// states and of other arguments.
func TestErrorsOfBadProfiles(t *testing.T) {
	for _, bad := range badProfiles() {
		for name, call := range callsWithOneProfile() {
			for _, d := range append(outside(200), 0, 3, 40, 41, 200) {
				for _, other := range [][]int64{nil, {2, 1}, bad} {
					if zero, code := call(elementOf([]int64{1}), bad, other, d); !zero || code != impl.ErrInvalid {
						t.Errorf("%s of %v, %v, %d: zero value %v, code %d", name, bad, other, d, zero, code)
					}
				}
			}
		}
	}
}

func TestErrorsOfBadElementsOfParts(t *testing.T) {
	for _, a := range badElements() {
		for _, h := range [][]int64{nil, {2, 1}, {10, 10}, {2}, slices.Repeat([]int64{10}, 16), {11}, make([]int64, 17)} {
			got, code := impl.IsInPart(a, h)
			checkFlag(t, fmt.Sprintf("IsInPart(%.80v, %v)", a, h), got, code, false, impl.ErrInvalid)
		}
		got, code := impl.ProfileOfElement(a)
		checkList(t, fmt.Sprintf("ProfileOfElement(%.80v)", a), got, code, nil, impl.ErrInvalid)
	}
}

// callsOfChapter7 have two profiles as arguments, and return lists.
func callsOfChapter7() map[string]func(lists [][]int64) [][]int64 {
	element := func() impl.Milnor { return elementOf([]int64{0, 1}, []int64{3}) }
	return map[string]func(lists [][]int64) [][]int64{
		"IsProfile":          func(lists [][]int64) [][]int64 { impl.IsProfile(lists[0]); return nil },
		"IsClosedProfile":    func(lists [][]int64) [][]int64 { impl.IsClosedProfile(lists[0]); return nil },
		"ProfileOfA":         func(lists [][]int64) [][]int64 { return [][]int64{sure(impl.ProfileOfA(3))} },
		"ClosureOfProfile":   func(lists [][]int64) [][]int64 { return [][]int64{sure(impl.ClosureOfProfile(lists[0]))} },
		"MeetOfProfiles":     func(lists [][]int64) [][]int64 { return [][]int64{sure(impl.MeetOfProfiles(lists[0], lists[1]))} },
		"a meet with itself": func(lists [][]int64) [][]int64 { return [][]int64{sure(impl.MeetOfProfiles(lists[0], lists[0]))} },
		"IsContainedProfile": func(lists [][]int64) [][]int64 { impl.IsContainedProfile(lists[0], lists[1]); return nil },
		"IsInPart":           func(lists [][]int64) [][]int64 { impl.IsInPart(element(), lists[0]); return nil },
		"BasisOfProfile":     func(lists [][]int64) [][]int64 { return sure(impl.BasisOfProfile(lists[0], 15)) },
		"DimensionOfProfile": func(lists [][]int64) [][]int64 { impl.DimensionOfProfile(lists[0]); return nil },
		"TopOfProfile":       func(lists [][]int64) [][]int64 { impl.TopOfProfile(lists[0]); return nil },
		"SeriesOfProfile":    func(lists [][]int64) [][]int64 { return [][]int64{sure(impl.SeriesOfProfile(lists[0], 30))} },
		"QuotientSeries":     func(lists [][]int64) [][]int64 { return [][]int64{sure(impl.QuotientSeries(lists[0], 30))} },
		"ProfileOfElement":   func(lists [][]int64) [][]int64 { return [][]int64{sure(impl.ProfileOfElement(element()))} },
		"errors": func(lists [][]int64) [][]int64 {
			impl.BasisOfProfile(lists[0], 41)
			impl.SeriesOfProfile(lists[0], 201)
			impl.QuotientSeries(lists[1], 30)
			impl.MeetOfProfiles(lists[0], []int64{11})
			return nil
		},
	}
}

func TestChapter7KeepsItsArguments(t *testing.T) {
	for name, call := range callsOfChapter7() {
		checkKept(t, name, [][]int64{{4, 3, 2, 1, 0}, {3, 5, 1, 0, 2, 1}}, call)
		checkKept(t, name+" of 16 numbers", [][]int64{slices.Repeat([]int64{1}, 16), slices.Repeat([]int64{10}, 16)}, call)
	}
	for name, call := range map[string]func(lists [][]int64) [][]int64{
		"IsInPart": func(lists [][]int64) [][]int64 {
			impl.IsInPart(impl.Milnor{Terms: lists}, []int64{4, 3, 2})
			return nil
		},
		"ProfileOfElement": func(lists [][]int64) [][]int64 {
			return [][]int64{sure(impl.ProfileOfElement(impl.Milnor{Terms: lists}))}
		},
	} {
		checkKept(t, name+" of Terms", exponentListsByTrial(20), call)
	}
}
