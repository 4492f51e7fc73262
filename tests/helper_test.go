package tests

import (
	"math"
	"slices"
	"testing"

	"loop.example/g01154/impl"
)

// guard is what the spare capacity behind a watched argument holds.
const guard = int64(-7777)

// spareList returns the list with spare capacity that is full of guards.
func spareList(list []int64) []int64 {
	room := make([]int64, len(list)+4)
	for i := range room {
		room[i] = guard
	}
	copy(room, list)
	return room[:len(list)]
}

// spareLists returns lists with spare capacity, which stand in a list with spare capacity.
func spareLists(lists [][]int64) [][]int64 {
	room := make([][]int64, len(lists)+3)
	for i := range room {
		if i < len(lists) {
			room[i] = spareList(lists[i])
		} else {
			room[i] = spareList([]int64{guard})
		}
	}
	return room[:len(lists)]
}

// wholeList returns a copy of the list with all that its capacity holds.
func wholeList(list []int64) []int64 {
	return slices.Clone(list[:cap(list)])
}

func wholeLists(lists [][]int64) [][]int64 {
	var whole [][]int64
	for _, list := range lists[:cap(lists)] {
		whole = append(whole, wholeList(list))
	}
	return whole
}

func copiedLists(lists [][]int64) [][]int64 {
	var copied [][]int64
	for _, list := range lists {
		copied = append(copied, slices.Clone(list))
	}
	return copied
}

// overwrite fills lists, and the spare capacity behind them, with one number.
func overwrite(n int64, lists ...[]int64) {
	for _, list := range lists {
		whole := list[:cap(list)]
		for i := range whole {
			whole[i] = n
		}
	}
}

func equalLists(a, b [][]int64) bool {
	return slices.EqualFunc(a, b, slices.Equal[[]int64])
}

// checkSeparate overwrites each list of a result in turn, and fails if another one changes.
func checkSeparate(t *testing.T, name string, lists [][]int64) {
	t.Helper()
	for i := range lists {
		overwrite(int64(i)+1000, lists[i])
	}
	for i, list := range lists {
		for _, n := range list[:cap(list)] {
			if n != int64(i)+1000 {
				t.Fatalf("%s: list %d shares memory with another one", name, i)
			}
		}
	}
}

// outside are integers below 0 and beyond a limit, with both ends of int64.
func outside(limit int64) []int64 {
	return []int64{-1, limit + 1, math.MinInt64, math.MaxInt64, math.MinInt64 + 1, -limit - 1, limit + 2, 1 << 62}
}

// checkNumber fails unless a number and a code are those that are wanted.
func checkNumber(t *testing.T, name string, got, code, want, wantCode int64) {
	t.Helper()
	if got != want || code != wantCode {
		t.Errorf("%s = %d, %d; want %d, %d", name, got, code, want, wantCode)
	}
}

// checkLists fails unless lists and a code are those that are wanted.
func checkLists(t *testing.T, name string, got [][]int64, code int64, want [][]int64, wantCode int64) {
	t.Helper()
	if !equalLists(got, want) || code != wantCode {
		t.Errorf("%s = %v, %d; want %v, %d", name, got, code, want, wantCode)
	}
}

func mustLists(t *testing.T, lists [][]int64, code int64) [][]int64 {
	t.Helper()
	if code != impl.ErrNone {
		t.Fatalf("code %d", code)
	}
	return lists
}

// checkKept makes a call with copies of lists that have spare capacity, and fails if it changes them,
// if its result shares memory with them, or if the result of a second call is another one after that
// of the first call has been overwritten.
func checkKept(t *testing.T, name string, lists [][]int64, call func(lists [][]int64) [][]int64) {
	t.Helper()
	given := spareLists(lists)
	whole := wholeLists(given)
	result := call(given)
	before, want := wholeLists(result), copiedLists(result)
	if !equalLists(wholeLists(given), whole) {
		t.Errorf("%s changes an argument", name)
	}
	overwrite(99, given[:cap(given)]...)
	clear(given[:cap(given)])
	if !equalLists(wholeLists(result), before) {
		t.Errorf("%s shares memory with an argument", name)
	}
	checkSeparate(t, name, result)
	clear(result[:cap(result)])
	if again := call(spareLists(lists)); !equalLists(again, want) {
		t.Errorf("%s keeps state", name)
	}
}
