package tests

import (
	"fmt"
	"math"
	"math/bits"
	"slices"
	"testing"

	"loop.example/g01154/impl"
)

func TestConstantsOfChapter2(t *testing.T) {
	if impl.MaxColumns != 60 || impl.MaxRows != 200 {
		t.Errorf("limits %d, %d", impl.MaxColumns, impl.MaxRows)
	}
}

// matrixOf returns a matrix with spare capacity behind its rows.
func matrixOf(columns int64, rows ...int64) impl.Matrix {
	return impl.Matrix{Columns: columns, Rows: spareList(rows)}
}

func equalMatrices(a, b impl.Matrix) bool {
	return a.Columns == b.Columns && slices.Equal(a.Rows, b.Rows)
}

func checkMatrix(t *testing.T, name string, got impl.Matrix, code int64, want impl.Matrix, wantCode int64) {
	t.Helper()
	if !equalMatrices(got, want) || code != wantCode {
		t.Errorf("%s = %v, %d; want %v, %d", name, got, code, want, wantCode)
	}
}

// sure returns a value whose code is ErrNone, and panics otherwise, which fails the test.
func sure[V any](value V, code int64) V {
	if code != impl.ErrNone {
		panic(fmt.Sprintf("code %d", code))
	}
	return value
}

// allMatrices returns all matrices with so many columns and at most so many rows.
func allMatrices(columns int64, rows int) []impl.Matrix {
	all := []impl.Matrix{matrixOf(columns)}
	for next := all; rows > 0; rows-- {
		var longer []impl.Matrix
		for _, m := range next {
			for row := range int64(1) << columns {
				longer = append(longer, matrixOf(columns, append(slices.Clone(m.Rows), row)...))
			}
		}
		all, next = append(all, longer...), longer
	}
	return all
}

func smallMatrices() []impl.Matrix {
	return slices.Concat(allMatrices(0, 3), allMatrices(1, 4), allMatrices(2, 4), allMatrices(3, 3))
}

// numbers gives a fixed sequence of numbers without a visible order.
type numbers uint64

func (n *numbers) below(limit int64) int64 {
	*n = *n*6364136223846793005 + 1442695040888963407
	return int64(uint64(*n)>>2) % limit
}

// scattered returns a matrix whose rows are sums of so many masks: its rank is not greater.
func (n *numbers) scattered(columns int64, rows, rank int) impl.Matrix {
	masks := make([]int64, rank)
	for i := range masks {
		masks[i] = n.below(1 << columns)
	}
	m := matrixOf(columns)
	for range rows {
		row := int64(0)
		for _, mask := range masks {
			row ^= mask * n.below(2)
		}
		m.Rows = append(m.Rows, row)
	}
	return m
}

// greatMatrices are matrices near the limits, of low and of full rank.
func greatMatrices() []impl.Matrix {
	n := numbers(2)
	var all []impl.Matrix
	for _, c := range []struct {
		columns    int64
		rows, rank int
	}{
		{60, 60, 60}, {60, 60, 31}, {60, 59, 70}, {60, 200, 20}, {60, 200, 100}, {59, 60, 59}, {31, 33, 32}, {40, 60, 7}, {7, 200, 5}, {1, 200, 1}, {0, 200, 0}, {60, 0, 0}, {60, 1, 1},
	} {
		all = append(all, n.scattered(c.columns, c.rows, c.rank))
	}
	return all
}

// productByTrial is the sum of those rows that the digits of x tell.
func productByTrial(x int64, rows []int64) int64 {
	sum := int64(0)
	for i, row := range rows {
		if x/(int64(1)<<i)%2 == 1 {
			sum ^= row
		}
	}
	return sum
}

// sumsByTrial returns all sums of rows, each once.
func sumsByTrial(rows []int64) map[int64]bool {
	sums := map[int64]bool{0: true}
	for _, row := range rows {
		var more []int64
		for sum := range sums {
			more = append(more, sum^row)
		}
		for _, sum := range more {
			sums[sum] = true
		}
	}
	return sums
}

// reducedByTrial finds the reduced rows of a space by their description: each has its own pivot,
// and no digit at the pivots of the others.
func reducedByTrial(sums map[int64]bool) []int64 {
	pivots := int64(0)
	for sum := range sums {
		pivots |= sum & -sum
	}
	var rows []int64
	for sum := range sums {
		if bits.OnesCount64(uint64(sum&pivots)) == 1 && sum&pivots == sum&-sum {
			rows = append(rows, sum)
		}
	}
	slices.SortFunc(rows, func(a, b int64) int { return int(a&-a) - int(b&-b) })
	return rows
}

func isReduced(m impl.Matrix) bool {
	last := 0
	for i, row := range m.Rows {
		pivot := int(bits.TrailingZeros64(uint64(row)))
		if row == 0 || i > 0 && pivot <= last {
			return false
		}
		for j, other := range m.Rows {
			if j != i && other>>pivot&1 == 1 {
				return false
			}
		}
		last = pivot
	}
	return true
}

func TestIsMatrix(t *testing.T) {
	for _, c := range []struct {
		m    impl.Matrix
		want bool
	}{
		{impl.Matrix{}, true}, {matrixOf(0), true}, {matrixOf(0, 0, 0), true}, {matrixOf(0, 1), false}, {matrixOf(0, -1), false},
		{matrixOf(1, 0, 1), true}, {matrixOf(1, 2), false}, {matrixOf(2, 3, 0, 3), true}, {matrixOf(2, 3, 4), false}, {matrixOf(2, 4, 3), false},
		{matrixOf(60, 1<<60-1), true}, {matrixOf(60, 1<<60), false}, {matrixOf(59, 1<<59-1), true}, {matrixOf(59, 1<<59), false},
		{matrixOf(60, math.MaxInt64), false}, {matrixOf(60, math.MinInt64), false}, {matrixOf(60, -1), false}, {matrixOf(60, 1, 2, -1), false},
		{matrixOf(60, 1<<62), false}, {matrixOf(32, 1<<32), false}, {matrixOf(32, 1<<32-1), true}, {matrixOf(60, math.MinInt64+1), false},
		{matrixOf(60, make([]int64, 200)...), true}, {matrixOf(60, make([]int64, 201)...), false}, {matrixOf(0, make([]int64, 200)...), true}, {matrixOf(0, make([]int64, 201)...), false},
	} {
		if got := impl.IsMatrix(c.m); got != c.want {
			t.Errorf("IsMatrix(%v) = %v", c.m, got)
		}
	}
	for columns := range int64(61) {
		if !impl.IsMatrix(matrixOf(columns)) || !impl.IsMatrix(matrixOf(columns, 1<<columns-1)) || impl.IsMatrix(matrixOf(columns, 1<<columns)) {
			t.Errorf("IsMatrix with %d columns", columns)
		}
	}
	for _, columns := range outside(60) {
		if impl.IsMatrix(matrixOf(columns)) || impl.IsMatrix(matrixOf(columns, 0)) {
			t.Errorf("IsMatrix with %d columns", columns)
		}
	}
}

func TestMatricesOfLists(t *testing.T) {
	got, code := impl.MatrixOfLists(3, [][]int64{{1, 1, 0}, {0, 0, 1}, {0, 0, 0}})
	checkMatrix(t, "MatrixOfLists", got, code, matrixOf(3, 3, 4, 0), impl.ErrNone)
	lists, code := impl.ListsOfMatrix(matrixOf(3, 3, 4, 0))
	checkLists(t, "ListsOfMatrix", lists, code, [][]int64{{1, 1, 0}, {0, 0, 1}, {0, 0, 0}}, impl.ErrNone)
	for _, m := range slices.Concat(smallMatrices(), greatMatrices()) {
		lists := sure(impl.ListsOfMatrix(m))
		if len(lists) != len(m.Rows) {
			t.Fatalf("%d lists of %v", len(lists), m)
		}
		for i, list := range lists {
			row := int64(0)
			for j, n := range list {
				row += n * (int64(1) << j)
			}
			if int64(len(list)) != m.Columns || row != m.Rows[i] {
				t.Errorf("list %d of %v is %v", i, m, list)
			}
		}
		back, code := impl.MatrixOfLists(m.Columns, lists)
		checkMatrix(t, "MatrixOfLists of ListsOfMatrix", back, code, m, impl.ErrNone)
	}
}

func TestMatrixOfListsEdges(t *testing.T) {
	got, code := impl.MatrixOfLists(0, nil)
	checkMatrix(t, "no columns and no lists", got, code, impl.Matrix{}, impl.ErrNone)
	got, code = impl.MatrixOfLists(0, [][]int64{nil, {}})
	checkMatrix(t, "no columns and two lists", got, code, matrixOf(0, 0, 0), impl.ErrNone)
	got, code = impl.MatrixOfLists(60, [][]int64{slices.Repeat([]int64{1}, 60)})
	checkMatrix(t, "60 columns", got, code, matrixOf(60, 1<<60-1), impl.ErrNone)
	got, code = impl.MatrixOfLists(1, slices.Repeat([][]int64{{1}}, 200))
	checkMatrix(t, "200 lists", got, code, matrixOf(1, slices.Repeat([]int64{1}, 200)...), impl.ErrNone)
	got, code = impl.MatrixOfLists(1, slices.Repeat([][]int64{{1}}, 201))
	checkMatrix(t, "201 lists", got, code, impl.Matrix{}, impl.ErrRange)
	for _, columns := range outside(60) {
		got, code = impl.MatrixOfLists(columns, nil)
		checkMatrix(t, fmt.Sprintf("%d columns", columns), got, code, impl.Matrix{}, impl.ErrRange)
	}
	got, code = impl.MatrixOfLists(61, [][]int64{make([]int64, 61)})
	checkMatrix(t, "61 columns with a list", got, code, impl.Matrix{}, impl.ErrRange)
	for _, bad := range [][]int64{nil, {1}, {1, 0, 0}, {0, 2}, {2, 0}, {-1, 0}, {0, -1}, {math.MaxInt64, 0}, {0, math.MinInt64}, {1 << 32, 0}, make([]int64, 61), make([]int64, 300)} {
		for _, lists := range [][][]int64{{bad}, {{0, 1}, bad}, {bad, {0, 1}}} {
			got, code = impl.MatrixOfLists(2, lists)
			checkMatrix(t, fmt.Sprintf("lists %v", lists), got, code, impl.Matrix{}, impl.ErrRange)
		}
	}
}

func TestTimesRow(t *testing.T) {
	for _, m := range smallMatrices() {
		for x := range int64(1) << len(m.Rows) {
			got, code := impl.TimesRow(x, m)
			checkNumber(t, fmt.Sprintf("TimesRow(%d, %v)", x, m), got, code, productByTrial(x, m.Rows), impl.ErrNone)
		}
	}
	for _, m := range greatMatrices() {
		if len(m.Rows) > 60 {
			continue
		}
		most := int64(1)<<len(m.Rows) - 1
		for _, x := range []int64{0, most, most / 2, most / 3, most - most/2} {
			got, code := impl.TimesRow(x, m)
			checkNumber(t, fmt.Sprintf("TimesRow(%d, %v)", x, m), got, code, productByTrial(x, m.Rows), impl.ErrNone)
		}
		for _, x := range outside(most) {
			got, code := impl.TimesRow(x, m)
			checkNumber(t, fmt.Sprintf("TimesRow(%d, %v)", x, m), got, code, 0, impl.ErrRange)
		}
	}
}

// productByLists multiplies matrices number by number.
func productByLists(a, b impl.Matrix) impl.Matrix {
	left, right := sure(impl.ListsOfMatrix(a)), sure(impl.ListsOfMatrix(b))
	lists := make([][]int64, len(left))
	for i := range lists {
		lists[i] = make([]int64, b.Columns)
		for j := range lists[i] {
			for k := range right {
				lists[i][j] += left[i][k] * right[k][j]
			}
			lists[i][j] %= 2
		}
	}
	return sure(impl.MatrixOfLists(b.Columns, lists))
}

func identity(size int64) impl.Matrix {
	m := matrixOf(size)
	for i := range size {
		m.Rows = append(m.Rows, 1<<i)
	}
	return m
}

func TestMultiplyMatrices(t *testing.T) {
	matrices := slices.Concat(allMatrices(0, 2), allMatrices(1, 3), allMatrices(2, 2), allMatrices(3, 1), greatMatrices())
	fits := 0
	for _, a := range matrices {
		for _, b := range matrices {
			name := fmt.Sprintf("product of %v and %v", a, b)
			got, code := impl.MultiplyMatrices(a, b)
			if a.Columns != int64(len(b.Rows)) {
				checkMatrix(t, name, got, code, impl.Matrix{}, impl.ErrRange)
				continue
			}
			checkMatrix(t, name, got, code, productByLists(a, b), impl.ErrNone)
			fits++
		}
		got, code := impl.MultiplyMatrices(a, identity(a.Columns))
		checkMatrix(t, "product with the identity", got, code, a, impl.ErrNone)
	}
	if fits < 100 {
		t.Errorf("only %d products fit", fits)
	}
	got, code := impl.MultiplyMatrices(matrixOf(0, 0, 0, 0), matrixOf(5))
	checkMatrix(t, "product over no rows", got, code, matrixOf(5, 0, 0, 0), impl.ErrNone)
	got, code = impl.MultiplyMatrices(matrixOf(3), matrixOf(0, 0, 0, 0))
	checkMatrix(t, "product without rows and columns", got, code, matrixOf(0), impl.ErrNone)
}

func TestProductsOfMatricesAreAssociative(t *testing.T) {
	n := numbers(7)
	for _, size := range []int64{1, 5, 33, 60} {
		a, b, c := n.scattered(size, 200, 61), n.scattered(size, int(size), 60), n.scattered(60, int(size), 60)
		left := sure(impl.MultiplyMatrices(sure(impl.MultiplyMatrices(a, b)), c))
		right := sure(impl.MultiplyMatrices(a, sure(impl.MultiplyMatrices(b, c))))
		checkMatrix(t, fmt.Sprintf("product of three of size %d", size), left, 0, right, 0)
	}
}

func TestTransposeOf(t *testing.T) {
	for _, m := range slices.Concat(smallMatrices(), greatMatrices()) {
		if len(m.Rows) > 60 {
			continue
		}
		got, code := impl.TransposeOf(m)
		if got.Columns != int64(len(m.Rows)) || int64(len(got.Rows)) != m.Columns || code != impl.ErrNone {
			t.Fatalf("TransposeOf(%v) = %v, %d", m, got, code)
		}
		for i, row := range m.Rows {
			for j, column := range got.Rows {
				if row>>j&1 != column>>i&1 {
					t.Errorf("TransposeOf(%v) = %v", m, got)
				}
			}
		}
		if !impl.IsMatrix(got) {
			t.Errorf("TransposeOf(%v) is no matrix", m)
		}
		back, code := impl.TransposeOf(got)
		checkMatrix(t, "transpose of the transpose", back, code, m, impl.ErrNone)
	}
	got, code := impl.TransposeOf(matrixOf(3))
	checkMatrix(t, "transpose without rows", got, code, matrixOf(0, 0, 0, 0), impl.ErrNone)
	got, code = impl.TransposeOf(matrixOf(0, 0, 0))
	checkMatrix(t, "transpose without columns", got, code, matrixOf(2), impl.ErrNone)
}

func TestReducedForms(t *testing.T) {
	got, code := impl.ReducedForm(matrixOf(2, 3, 2))
	checkMatrix(t, "the example", got, code, matrixOf(2, 1, 2), impl.ErrNone)
	for _, m := range smallMatrices() {
		want := matrixOf(m.Columns, reducedByTrial(sumsByTrial(m.Rows))...)
		got, code := impl.ReducedForm(m)
		checkMatrix(t, fmt.Sprintf("ReducedForm(%v)", m), got, code, want, impl.ErrNone)
		rank, code := impl.RankOf(m)
		checkNumber(t, fmt.Sprintf("RankOf(%v)", m), rank, code, int64(len(want.Rows)), impl.ErrNone)
	}
	for i, m := range greatMatrices() {
		reduced := sure(impl.ReducedForm(m))
		if !isReduced(reduced) || reduced.Columns != m.Columns || !impl.IsMatrix(reduced) {
			t.Errorf("reduced form %d is %v", i, reduced)
		}
		for _, row := range m.Rows {
			if yes, code := impl.HasMask(reduced, row); !yes || code != impl.ErrNone {
				t.Errorf("the reduced form %d has not the row %d", i, row)
			}
		}
		for _, row := range reduced.Rows {
			if yes, code := impl.HasMask(m, row); !yes || code != impl.ErrNone {
				t.Errorf("matrix %d has not the reduced row %d", i, row)
			}
		}
		turned := matrixOf(m.Columns, m.Rows...)
		slices.Reverse(turned.Rows)
		again, code := impl.ReducedForm(turned)
		checkMatrix(t, fmt.Sprintf("reduced form %d of the rows turned around", i), again, code, reduced, impl.ErrNone)
		again, code = impl.ReducedForm(reduced)
		checkMatrix(t, fmt.Sprintf("reduced form of the reduced form %d", i), again, code, reduced, impl.ErrNone)
	}
}

// TestRanksOfGreatMatrices takes matrices whose ranks are known from how they are made.
func TestRanksOfGreatMatrices(t *testing.T) {
	n := numbers(3)
	for _, rank := range []int64{0, 1, 30, 59, 60} {
		m := matrixOf(60)
		for i := range rank {
			m.Rows = append(m.Rows, int64(1)<<(59-i)|n.below(int64(1)<<(59-i)))
		}
		for len(m.Rows) < 200 && rank > 0 {
			m.Rows = append(m.Rows, m.Rows[n.below(int64(len(m.Rows)))]^m.Rows[n.below(rank)])
		}
		got, code := impl.RankOf(m)
		checkNumber(t, "rank of 200 rows", got, code, rank, impl.ErrNone)
	}
	got, code := impl.RankOf(matrixOf(60, make([]int64, 200)...))
	checkNumber(t, "rank of 200 rows that are 0", got, code, 0, impl.ErrNone)
}

// TestRanksOfTransposes is the first half of promise 2.
func TestRanksOfTransposes(t *testing.T) {
	for _, m := range slices.Concat(smallMatrices(), allMatrices(4, 3), greatMatrices()) {
		if len(m.Rows) > 60 {
			continue
		}
		rank := sure(impl.RankOf(m))
		got, code := impl.RankOf(sure(impl.TransposeOf(m)))
		checkNumber(t, fmt.Sprintf("rank of the transpose of %v", m), got, code, rank, impl.ErrNone)
		kernel := sure(impl.KernelOf(m))
		if rank+int64(len(kernel.Rows)) != int64(len(m.Rows)) {
			t.Errorf("the rank %d of %v and that of its kernel %v do not add up", rank, m, kernel)
		}
	}
}

func TestKernels(t *testing.T) {
	got, code := impl.KernelOf(matrixOf(2, 3, 3, 1))
	checkMatrix(t, "KernelOf", got, code, matrixOf(3, 3), impl.ErrNone)
	for _, m := range slices.Concat(smallMatrices(), allMatrices(1, 6)) {
		zeros := map[int64]bool{}
		for x := range int64(1) << len(m.Rows) {
			if productByTrial(x, m.Rows) == 0 {
				zeros[x] = true
			}
		}
		got, code := impl.KernelOf(m)
		checkMatrix(t, fmt.Sprintf("KernelOf(%v)", m), got, code, matrixOf(int64(len(m.Rows)), reducedByTrial(zeros)...), impl.ErrNone)
	}
	for _, m := range greatMatrices() {
		if len(m.Rows) > 60 {
			continue
		}
		kernel := sure(impl.KernelOf(m))
		if !isReduced(kernel) || kernel.Columns != int64(len(m.Rows)) || !impl.IsMatrix(kernel) {
			t.Errorf("the kernel %v of %v is not reduced", kernel, m)
		}
		zeros := matrixOf(m.Columns, make([]int64, len(kernel.Rows))...)
		product, code := impl.MultiplyMatrices(kernel, m)
		checkMatrix(t, "product of the kernel", product, code, zeros, impl.ErrNone)
	}
	got, code = impl.KernelOf(matrixOf(0, make([]int64, 60)...))
	checkMatrix(t, "kernel of 60 rows without columns", got, code, identity(60), impl.ErrNone)
	got, code = impl.KernelOf(matrixOf(60))
	checkMatrix(t, "kernel without rows", got, code, impl.Matrix{}, impl.ErrNone)
}

func TestMasksOfSpaces(t *testing.T) {
	for _, m := range smallMatrices() {
		sums := sumsByTrial(m.Rows)
		for v := range int64(1) << m.Columns {
			got, code := impl.HasMask(m, v)
			if got != sums[v] || code != impl.ErrNone {
				t.Errorf("HasMask(%v, %d) = %v, %d", m, v, got, code)
			}
		}
	}
	for _, m := range slices.Concat(greatMatrices(), []impl.Matrix{matrixOf(0), matrixOf(0, 0), matrixOf(3, 1)}) {
		for _, v := range outside(int64(1)<<m.Columns - 1) {
			got, code := impl.HasMask(m, v)
			if got || code != impl.ErrRange {
				t.Errorf("HasMask(%v, %d) = %v, %d", m, v, got, code)
			}
		}
		if got, code := impl.HasMask(m, 0); !got || code != impl.ErrNone {
			t.Errorf("HasMask(%v, 0) = %v, %d", m, got, code)
		}
	}
	if got, code := impl.HasMask(matrixOf(60, make([]int64, 200)...), 1<<59); got || code != impl.ErrNone {
		t.Errorf("HasMask of rows that are 0 = %v, %d", got, code)
	}
}

func TestSolveRows(t *testing.T) {
	for _, m := range slices.Concat(smallMatrices(), allMatrices(1, 6), allMatrices(2, 5)) {
		for v := range int64(1) << m.Columns {
			want, wantCode := int64(0), int64(impl.ErrNotFound)
			for x := int64(1)<<len(m.Rows) - 1; x >= 0; x-- {
				if productByTrial(x, m.Rows) == v {
					want, wantCode = x, impl.ErrNone
				}
			}
			got, code := impl.SolveRows(m, v)
			checkNumber(t, fmt.Sprintf("SolveRows(%v, %d)", m, v), got, code, want, wantCode)
		}
	}
}

// TestSolveRowsOfGreatMatrices checks that a solution is one, and that it is the least: no sum of
// the kernel has its highest digit where the solution has a digit.
func TestSolveRowsOfGreatMatrices(t *testing.T) {
	n := numbers(11)
	for _, m := range greatMatrices() {
		if len(m.Rows) > 60 {
			continue
		}
		var tops []int64
		for i := range m.Rows {
			earlier := matrixOf(m.Columns, m.Rows[:i]...)
			if sure(impl.HasMask(earlier, m.Rows[i])) {
				tops = append(tops, int64(i))
			}
		}
		for range 20 {
			v := productByTrial(n.below(int64(1)<<len(m.Rows)), m.Rows)
			x, code := impl.SolveRows(m, v)
			if code != impl.ErrNone || x < 0 || x>>len(m.Rows) != 0 || productByTrial(x, m.Rows) != v {
				t.Fatalf("SolveRows(%v, %d) = %d, %d", m, v, x, code)
			}
			for _, top := range tops {
				if x>>top&1 == 1 {
					t.Fatalf("SolveRows(%v, %d) = %d is not the least", m, v, x)
				}
			}
		}
		for _, v := range outside(int64(1)<<m.Columns - 1) {
			x, code := impl.SolveRows(m, v)
			checkNumber(t, fmt.Sprintf("SolveRows(%v, %d)", m, v), x, code, 0, impl.ErrRange)
		}
	}
	x, code := impl.SolveRows(matrixOf(60), 1<<59)
	checkNumber(t, "solution without rows", x, code, 0, impl.ErrNotFound)
	x, code = impl.SolveRows(matrixOf(60), 0)
	checkNumber(t, "solution of 0 without rows", x, code, 0, impl.ErrNone)
}

func TestInverses(t *testing.T) {
	for _, m := range slices.Concat(smallMatrices(), allMatrices(4, 3)) {
		got, code := impl.InverseMatrix(m)
		name := fmt.Sprintf("InverseMatrix(%v)", m)
		if m.Columns != int64(len(m.Rows)) {
			checkMatrix(t, name, got, code, impl.Matrix{}, impl.ErrRange)
		} else if int64(len(sumsByTrial(m.Rows))) < int64(1)<<m.Columns {
			checkMatrix(t, name, got, code, impl.Matrix{}, impl.ErrState)
		} else {
			checkInverse(t, m, got, code)
		}
	}
}

func checkInverse(t *testing.T, m, inverse impl.Matrix, code int64) {
	t.Helper()
	if code != impl.ErrNone {
		t.Fatalf("InverseMatrix(%v): code %d", m, code)
	}
	product, code := impl.MultiplyMatrices(m, inverse)
	checkMatrix(t, "inverse from the right", product, code, identity(m.Columns), impl.ErrNone)
	product, code = impl.MultiplyMatrices(inverse, m)
	checkMatrix(t, "inverse from the left", product, code, identity(m.Columns), impl.ErrNone)
	back, code := impl.InverseMatrix(inverse)
	checkMatrix(t, "inverse of the inverse", back, code, m, impl.ErrNone)
}

func TestInversesOfGreatMatrices(t *testing.T) {
	n := numbers(5)
	found := 0
	for _, size := range []int64{5, 20, 59, 60} {
		for range 6 {
			m := n.scattered(size, int(size), int(size)+4)
			inverse, code := impl.InverseMatrix(m)
			if sure(impl.RankOf(m)) < size {
				checkMatrix(t, "inverse of low rank", inverse, code, impl.Matrix{}, impl.ErrState)
			} else {
				checkInverse(t, m, inverse, code)
				found++
			}
		}
		low := identity(size)
		low.Rows[size-1] = low.Rows[0]
		inverse, code := impl.InverseMatrix(low)
		checkMatrix(t, "inverse of equal rows", inverse, code, impl.Matrix{}, impl.ErrState)
		checkInverse(t, identity(size), sure(impl.InverseMatrix(identity(size))), impl.ErrNone)
	}
	if found < 3 {
		t.Errorf("only %d inverses", found)
	}
	inverse, code := impl.InverseMatrix(impl.Matrix{})
	checkMatrix(t, "inverse without rows", inverse, code, impl.Matrix{}, impl.ErrNone)
	for _, m := range []impl.Matrix{matrixOf(60, make([]int64, 61)...), matrixOf(60, make([]int64, 59)...), matrixOf(60, make([]int64, 200)...), matrixOf(0, 0), matrixOf(1)} {
		inverse, code := impl.InverseMatrix(m)
		checkMatrix(t, "inverse of a matrix that is not square", inverse, code, impl.Matrix{}, impl.ErrRange)
	}
}

func TestSumsAndMeets(t *testing.T) {
	matrices := slices.Concat(allMatrices(0, 2), allMatrices(1, 3), allMatrices(2, 3), allMatrices(3, 2))
	for _, a := range matrices {
		for _, b := range matrices {
			sum, sumCode := impl.SumOfSpaces(a, b)
			meet, meetCode := impl.MeetOfSpaces(a, b)
			if a.Columns != b.Columns {
				checkMatrix(t, fmt.Sprintf("SumOfSpaces(%v, %v)", a, b), sum, sumCode, impl.Matrix{}, impl.ErrRange)
				checkMatrix(t, fmt.Sprintf("MeetOfSpaces(%v, %v)", a, b), meet, meetCode, impl.Matrix{}, impl.ErrRange)
				continue
			}
			wantSum := matrixOf(a.Columns, reducedByTrial(sumsByTrial(append(slices.Clone(a.Rows), b.Rows...)))...)
			checkMatrix(t, fmt.Sprintf("SumOfSpaces(%v, %v)", a, b), sum, sumCode, wantSum, impl.ErrNone)
			both, other := sumsByTrial(a.Rows), sumsByTrial(b.Rows)
			for v := range both {
				if !other[v] {
					delete(both, v)
				}
			}
			checkMatrix(t, fmt.Sprintf("MeetOfSpaces(%v, %v)", a, b), meet, meetCode, matrixOf(a.Columns, reducedByTrial(both)...), impl.ErrNone)
		}
	}
}

// TestRanksOfSumsAndMeets is the second half of promise 2.
func TestRanksOfSumsAndMeets(t *testing.T) {
	n := numbers(13)
	for _, c := range []struct {
		columns        int64
		rows, commons  int
		ranksA, ranksB int
	}{
		{60, 100, 10, 20, 30}, {60, 200, 40, 60, 60}, {60, 60, 0, 25, 25}, {60, 200, 59, 1, 1}, {33, 70, 9, 20, 20}, {60, 200, 60, 0, 60}, {1, 3, 1, 0, 0}, {0, 200, 0, 0, 0},
	} {
		common := n.scattered(c.columns, c.commons, c.commons)
		a, b := n.scattered(c.columns, c.rows-c.commons, c.ranksA), n.scattered(c.columns, c.rows-c.commons, c.ranksB)
		a.Rows, b.Rows = append(a.Rows, common.Rows...), append(slices.Clone(common.Rows), b.Rows...)
		sum, meet := sure(impl.SumOfSpaces(a, b)), sure(impl.MeetOfSpaces(a, b))
		if !isReduced(sum) || !isReduced(meet) || sum.Columns != c.columns || meet.Columns != c.columns {
			t.Errorf("the sum or the meet of case %v is not reduced", c)
		}
		if sure(impl.RankOf(a))+sure(impl.RankOf(b)) != int64(len(sum.Rows)+len(meet.Rows)) {
			t.Errorf("ranks of case %v do not add up", c)
		}
		for _, v := range meet.Rows {
			if !sure(impl.HasMask(a, v)) || !sure(impl.HasMask(b, v)) {
				t.Errorf("%d of the meet of case %v is not in both spaces", v, c)
			}
		}
		for _, v := range append(slices.Clone(a.Rows), b.Rows...) {
			if !sure(impl.HasMask(sum, v)) {
				t.Errorf("%d is not in the sum of case %v", v, c)
			}
		}
		turned, code := impl.SumOfSpaces(b, a)
		checkMatrix(t, "sum turned around", turned, code, sum, impl.ErrNone)
		turned, code = impl.MeetOfSpaces(b, a)
		checkMatrix(t, "meet turned around", turned, code, meet, impl.ErrNone)
	}
}

func TestComplementRows(t *testing.T) {
	matrices := slices.Concat(allMatrices(0, 2), allMatrices(1, 3), allMatrices(2, 3), allMatrices(3, 2))
	for _, a := range matrices {
		for _, b := range matrices {
			got, code := impl.ComplementRows(a, b)
			var want []int64
			wantCode := int64(impl.ErrRange)
			if a.Columns == b.Columns {
				wantCode = impl.ErrNone
				for i, row := range b.Rows {
					if !sumsByTrial(append(slices.Clone(a.Rows), b.Rows[:i]...))[row] {
						want = append(want, int64(i))
					}
				}
			}
			if !slices.Equal(got, want) || code != wantCode {
				t.Errorf("ComplementRows(%v, %v) = %v, %d; want %v, %d", a, b, got, code, want, wantCode)
			}
		}
	}
	b := matrixOf(60, append(make([]int64, 199), 1<<59)...)
	if got, code := impl.ComplementRows(matrixOf(60, make([]int64, 200)...), b); !slices.Equal(got, []int64{199}) || code != impl.ErrNone {
		t.Errorf("ComplementRows of the last of 200 rows = %v, %d", got, code)
	}
}

// attempt is a call with one or two matrices: whether its result is the zero value, and its code.
type attempt func(a, b impl.Matrix) (bool, int64)

func isZeroMatrix(m impl.Matrix, code int64) (bool, int64) {
	return m.Columns == 0 && len(m.Rows) == 0, code
}

func isZeroNumber(n, code int64) (bool, int64) { return n == 0, code }

// attemptsWithFewRows are the calls that take at most MaxColumns rows.
func attemptsWithFewRows() map[string]attempt {
	return map[string]attempt{
		"TimesRow":    func(a, b impl.Matrix) (bool, int64) { return isZeroNumber(impl.TimesRow(0, a)) },
		"TransposeOf": func(a, b impl.Matrix) (bool, int64) { return isZeroMatrix(impl.TransposeOf(a)) },
		"KernelOf":    func(a, b impl.Matrix) (bool, int64) { return isZeroMatrix(impl.KernelOf(a)) },
		"SolveRows":   func(a, b impl.Matrix) (bool, int64) { return isZeroNumber(impl.SolveRows(a, 0)) },
	}
}

func attemptsWithPairs() map[string]attempt {
	return map[string]attempt{
		"SumOfSpaces":  func(a, b impl.Matrix) (bool, int64) { return isZeroMatrix(impl.SumOfSpaces(a, b)) },
		"MeetOfSpaces": func(a, b impl.Matrix) (bool, int64) { return isZeroMatrix(impl.MeetOfSpaces(a, b)) },
		"ComplementRows": func(a, b impl.Matrix) (bool, int64) {
			rows, code := impl.ComplementRows(a, b)
			return len(rows) == 0, code
		},
		"MultiplyMatrices": func(a, b impl.Matrix) (bool, int64) { return isZeroMatrix(impl.MultiplyMatrices(a, b)) },
	}
}

// attemptsWithOne are the other calls with one matrix, with masks that are out of range as well.
func attemptsWithOne() map[string]attempt {
	all := attemptsWithFewRows()
	all["ListsOfMatrix"] = func(a, b impl.Matrix) (bool, int64) {
		lists, code := impl.ListsOfMatrix(a)
		return len(lists) == 0, code
	}
	all["ReducedForm"] = func(a, b impl.Matrix) (bool, int64) { return isZeroMatrix(impl.ReducedForm(a)) }
	all["RankOf"] = func(a, b impl.Matrix) (bool, int64) { return isZeroNumber(impl.RankOf(a)) }
	all["InverseMatrix"] = func(a, b impl.Matrix) (bool, int64) { return isZeroMatrix(impl.InverseMatrix(a)) }
	for _, v := range []int64{0, -1, math.MinInt64, math.MaxInt64} {
		all[fmt.Sprintf("HasMask %d", v)] = func(a, b impl.Matrix) (bool, int64) {
			yes, code := impl.HasMask(a, v)
			return !yes, code
		}
		all[fmt.Sprintf("SolveRows %d", v)] = func(a, b impl.Matrix) (bool, int64) { return isZeroNumber(impl.SolveRows(a, v)) }
		all[fmt.Sprintf("TimesRow %d", v)] = func(a, b impl.Matrix) (bool, int64) { return isZeroNumber(impl.TimesRow(v, a)) }
	}
	return all
}

func badMatrices() []impl.Matrix {
	bad := []impl.Matrix{
		matrixOf(0, 1), matrixOf(0, -1), matrixOf(1, 2), matrixOf(2, 1, 2, 4), matrixOf(2, -1), matrixOf(2, 4, 0),
		matrixOf(60, 1<<60), matrixOf(60, math.MinInt64), matrixOf(60, math.MaxInt64), matrixOf(3, slices.Repeat([]int64{1}, 201)...),
		matrixOf(2, append(make([]int64, 61), 4)...),
	}
	for _, columns := range outside(60) {
		bad = append(bad, matrixOf(columns), matrixOf(columns, 0))
	}
	return bad
}

func TestErrorsOfBadMatrices(t *testing.T) {
	check := func(name string, call attempt, a, b impl.Matrix) {
		t.Helper()
		if zero, code := call(a, b); !zero || code != impl.ErrInvalid {
			t.Errorf("%s of %v, %v: zero value %v, code %d", name, a, b, zero, code)
		}
	}
	for _, bad := range badMatrices() {
		for name, call := range attemptsWithOne() {
			check(name, call, bad, bad)
		}
		for name, call := range attemptsWithPairs() {
			for _, other := range []impl.Matrix{matrixOf(0), matrixOf(2, 1, 2), matrixOf(7, 1), matrixOf(60, make([]int64, 200)...), bad} {
				check(name, call, bad, other)
				check(name, call, other, bad)
			}
		}
	}
}

func TestErrorsOfManyRows(t *testing.T) {
	for name, call := range attemptsWithFewRows() {
		for _, columns := range []int64{0, 1, 60} {
			if _, code := call(matrixOf(columns, make([]int64, 60)...), impl.Matrix{}); code != impl.ErrNone {
				t.Errorf("%s of 60 rows: code %d", name, code)
			}
			for _, rows := range []int{61, 62, 64, 65, 200} {
				if zero, code := call(matrixOf(columns, slices.Repeat([]int64{1<<columns - 1}, rows)...), impl.Matrix{}); !zero || code != impl.ErrRange {
					t.Errorf("%s of %d rows: zero value %v, code %d", name, rows, zero, code)
				}
			}
		}
	}
	// A matrix with too many rows for a solution is told before there is none.
	x, code := impl.SolveRows(matrixOf(2, make([]int64, 61)...), 1)
	checkNumber(t, "SolveRows of 61 rows that are 0", x, code, 0, impl.ErrRange)
}

func TestErrorsOfUnequalColumns(t *testing.T) {
	for name, call := range attemptsWithPairs() {
		for _, other := range []impl.Matrix{matrixOf(0), matrixOf(1, 1), matrixOf(3, 1, 2, 4), matrixOf(60)} {
			if zero, code := call(matrixOf(2, 1, 2), other); !zero || code != impl.ErrRange {
				t.Errorf("%s with %v: zero value %v, code %d", name, other, zero, code)
			}
		}
	}
}

func TestChapter2KeepsItsArgumentsAndSharesNoMemory(t *testing.T) {
	reduced := matrixOf(3, 1, 2, 4)
	matrices := []impl.Matrix{matrixOf(0), matrixOf(3), reduced, matrixOf(3, 7, 5, 1), matrixOf(3, 0, 3, 3, 6), matrixOf(3, 6, 6, 1), matrixOf(3, 9)}
	for _, a := range matrices {
		for _, b := range matrices {
			a, b := matrixOf(a.Columns, a.Rows...), matrixOf(b.Columns, b.Rows...)
			beforeA, beforeB := wholeList(a.Rows), wholeList(b.Rows)
			for _, result := range resultsOfChapter2(a, b) {
				overwrite(guard+1, result)
			}
			if !slices.Equal(wholeList(a.Rows), beforeA) || !slices.Equal(wholeList(b.Rows), beforeB) {
				t.Errorf("the arguments %v, %v are changed to %v, %v", beforeA, beforeB, wholeList(a.Rows), wholeList(b.Rows))
			}
		}
		lists := spareLists([][]int64{{1, 0}, {1, 1}, {0, 0}})
		before := wholeLists(lists)
		made, _ := impl.MatrixOfLists(2, lists)
		overwrite(guard, made.Rows)
		impl.MatrixOfLists(1, lists)
		if !equalLists(wholeLists(lists), before) {
			t.Errorf("the lists are changed")
		}
		rows, _ := impl.ListsOfMatrix(a)
		checkSeparate(t, "ListsOfMatrix", rows)
	}
}

// resultsOfChapter2 returns all lists that the calls with two matrices give.
func resultsOfChapter2(a, b impl.Matrix) [][]int64 {
	product, _ := impl.MultiplyMatrices(a, b)
	turned, _ := impl.TransposeOf(a)
	reduced, _ := impl.ReducedForm(a)
	kernel, _ := impl.KernelOf(a)
	inverse, _ := impl.InverseMatrix(a)
	sum, _ := impl.SumOfSpaces(a, b)
	meet, _ := impl.MeetOfSpaces(a, b)
	complement, _ := impl.ComplementRows(a, b)
	lists, _ := impl.ListsOfMatrix(a)
	impl.IsMatrix(a)
	impl.TimesRow(3, a)
	impl.RankOf(a)
	impl.HasMask(a, 5)
	impl.SolveRows(a, 5)
	return append(lists, product.Rows, turned.Rows, reduced.Rows, kernel.Rows, inverse.Rows, sum.Rows, meet.Rows, complement)
}

func TestChapter2KeepsNoState(t *testing.T) {
	m := matrixOf(3, 7, 5, 1)
	for range 3 {
		reduced, code := impl.ReducedForm(m)
		checkMatrix(t, "ReducedForm", reduced, code, matrixOf(3, 1, 2, 4), impl.ErrNone)
		inverse, code := impl.InverseMatrix(m)
		checkMatrix(t, "InverseMatrix", inverse, code, matrixOf(3, 4, 3, 6), impl.ErrNone)
		overwrite(guard, reduced.Rows, inverse.Rows)
	}
}
