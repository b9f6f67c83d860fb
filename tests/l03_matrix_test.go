package tests

import (
	"math"
	"math/big"
	"slices"
	"testing"

	"loop.example/g00841/impl"
)

// squareOf returns the matrix with n rows that has the given entries, row by row.
func squareOf(n int, entries ...int) [][]int {
	m := make([][]int, n)
	for i := range m {
		m[i] = slices.Clone(entries[i*n : (i+1)*n])
	}
	return m
}

// filled returns the matrix with n rows of which all entries are x.
func filled(n int, x int) [][]int {
	return squareOf(n, slices.Repeat([]int{x}, n*n)...)
}

// diagonal returns the matrix with the given numbers on the diagonal and 0 elsewhere.
func diagonal(numbers ...int) [][]int {
	m := filled(len(numbers), 0)
	for i, x := range numbers {
		m[i][i] = x
	}
	return m
}

// copyMatrix returns a copy of a matrix.
func copyMatrix(m [][]int) [][]int {
	l := make([][]int, len(m))
	for i, row := range m {
		l[i] = slices.Clone(row)
	}
	return l
}

// sameMatrix reports whether two matrices are equal.
func sameMatrix(a [][]int, b [][]int) bool {
	return slices.EqualFunc(a, b, slices.Equal)
}

// withEntry returns a copy of a matrix with one entry replaced.
func withEntry(m [][]int, i int, j int, x int) [][]int {
	l := copyMatrix(m)
	l[i][j] = x
	return l
}

// badMatrices returns matrices for which MatrixOk is false, of every kind.
func badMatrices() map[string][][]int {
	all := map[string][][]int{
		"one empty row":           {{}},
		"one nil row":             {nil},
		"one row of two":          {{1, 2}},
		"two rows of one":         {{1}, {2}},
		"two empty rows":          {{}, {}},
		"first row short":         {{1}, {2, 3}},
		"last row short":          {{1, 2}, {3}},
		"last row nil":            {{1, 2}, nil},
		"first row long":          {{1, 2, 0}, {3, 4}},
		"last row long":           {{1, 2}, {3, 4, 0}},
		"a row more than columns": {{1, 2}, {3, 4}, {5, 6}},
		"a column more than rows": {{1, 2, 3}, {4, 5, 6}},
		"middle row short":        {{1, 2, 3}, {4, 5}, {7, 8, 9}},
		"seven rows":              filled(7, 0),
		"seven unit rows":         diagonal(1, 1, 1, 1, 1, 1, 1),
		"eight rows":              filled(8, 1),
		"forty rows":              filled(40, 1),
		"seven rows of six":       append(filled(6, 1), []int{1, 1, 1, 1, 1, 1}),
		"six rows, one of seven":  append(filled(6, 1)[:5], []int{1, 1, 1, 1, 1, 1, 1}),
	}
	for _, x := range []int{501, -501, 1000, -1000, 1 << 32, 1<<32 + 1, math.MinInt, math.MinInt + 1, math.MaxInt, math.MaxInt - 1} {
		text := big.NewInt(int64(x)).String()
		all["one entry "+text] = [][]int{{x}}
		all["first entry "+text] = withEntry(filled(3, 1), 0, 0, x)
		all["last entry "+text] = withEntry(filled(6, 1), 5, 5, x)
		all["middle entry "+text] = withEntry(diagonal(1, 2, 3), 1, 1, x)
		all["entry off the diagonal "+text] = withEntry(diagonal(1, 2, 3), 0, 2, x)
	}
	return all
}

// numbers returns a function that answers a fixed sequence of ints from -most to most.
func numbers(most int) func() int {
	state := uint64(88172645463325252)
	return func() int {
		state ^= state << 13
		state ^= state >> 7
		state ^= state << 17
		return int(state>>11)%(2*most+1) - most
	}
}

// matricesOf returns count matrices with n rows whose entries are from -most to most.
func matricesOf(count int, n int, most int) [][][]int {
	next := numbers(most)
	all := make([][][]int, count)
	for k := range all {
		all[k] = filled(n, 0)
		for i := range n {
			for j := range n {
				all[k][i][j] = next()
			}
		}
	}
	return all
}

// smallMatrices returns all matrices with one row, all with two rows and entries from -3 to 3, and all with three rows and entries from 0 to 1 or from -1 to 1 (every seventh of them).
func smallMatrices() [][][]int {
	var all [][][]int
	for x := -impl.MaxEntry; x <= impl.MaxEntry; x++ {
		all = append(all, [][]int{{x}})
	}
	all = append(all, everyMatrix(2, -3, 3, 1)...)
	all = append(all, everyMatrix(3, 0, 1, 1)...)
	return append(all, everyMatrix(3, -1, 1, 7)...)
}

// everyMatrix returns every step-th matrix with n rows and entries from low to high.
func everyMatrix(n int, low int, high int, step int) [][][]int {
	count := 1
	for range n * n {
		count *= high - low + 1
	}
	var all [][][]int
	for code := 0; code < count; code += step {
		m := filled(n, 0)
		rest := code
		for i := range n * n {
			m[i/n][i%n] = low + rest%(high-low+1)
			rest /= high - low + 1
		}
		all = append(all, m)
	}
	return all
}

// largeMatrices returns matrices with up to six rows: dense and sparse ones, with small, extreme and common-factor entries, and ones of small rank.
func largeMatrices() [][][]int {
	all := [][][]int{nil, {}}
	for n := 1; n <= 6; n++ {
		all = append(all, filled(n, 0), filled(n, 1), filled(n, 500), filled(n, -500))
		for _, most := range []int{1, 2, 12, 500} {
			all = append(all, matricesOf(25, n, most)...)
		}
		for k, m := range matricesOf(30, n, 4) {
			all = append(all, timesEach(m, []int{-100, -6, 2, 3, 12, 125}[k%6]))
		}
		for k, m := range matricesOf(40, n, 10) {
			all = append(all, ofRank(m, k%(n+1)))
		}
		for _, m := range matricesOf(20, n, 1) {
			all = append(all, timesEach(m, 500))
		}
	}
	return all
}

// timesEach returns a matrix with each entry multiplied by x.
func timesEach(m [][]int, x int) [][]int {
	l := copyMatrix(m)
	for _, row := range l {
		for j := range row {
			row[j] *= x
		}
	}
	return l
}

// ofRank returns a matrix of at most this rank: the further rows repeat the earlier ones or differences of them.
func ofRank(m [][]int, rank int) [][]int {
	l := copyMatrix(m)
	for i := rank; i < len(l); i++ {
		for j := range l[i] {
			l[i][j] = 0
			if rank > 0 {
				l[i][j] = 3*l[i%rank][j] - 2*l[(i+1)%rank][j]
			}
		}
	}
	return l
}

// determinantSlowly returns the determinant as the sum over all permutations of the columns.
func determinantSlowly(m [][]int) *big.Int {
	sum := new(big.Int)
	var place func(row int, taken []int, product *big.Int)
	place = func(row int, taken []int, product *big.Int) {
		if row == len(m) {
			sum.Add(sum, product)
			return
		}
		for j := range m {
			if slices.Contains(taken, j) || m[row][j] == 0 {
				continue
			}
			factor := int64(m[row][j])
			for _, c := range taken {
				if c > j {
					factor = -factor
				}
			}
			next := new(big.Int).Mul(product, big.NewInt(factor))
			place(row+1, append(slices.Clone(taken), j), next)
		}
	}
	place(0, nil, big.NewInt(1))
	return sum
}

// chooseOf returns all ascending lists of k ints from 0 up to n.
func chooseOf(n int, k int) [][]int {
	var all [][]int
	for bits := range 1 << n {
		var l []int
		for i := range n {
			if bits>>i&1 == 1 {
				l = append(l, i)
			}
		}
		if len(l) == k {
			all = append(all, l)
		}
	}
	return all
}

// partOf returns the part of a matrix that consists of some rows and columns.
func partOf(m [][]int, rows []int, columns []int) [][]int {
	part := make([][]int, len(rows))
	for i, r := range rows {
		for _, c := range columns {
			part[i] = append(part[i], m[r][c])
		}
	}
	return part
}

// divisorsSlowly returns, for each k from 0, the greatest common divisor of the determinants of all parts with k+1 rows and columns.
func divisorsSlowly(m [][]int) []*big.Int {
	var all []*big.Int
	for k := 1; k <= len(m); k++ {
		divisor := new(big.Int)
		for _, rows := range chooseOf(len(m), k) {
			for _, columns := range chooseOf(len(m), k) {
				minor := determinantSlowly(partOf(m, rows, columns))
				divisor.GCD(nil, nil, divisor, minor.Abs(minor))
			}
		}
		all = append(all, divisor)
	}
	return all
}

// smithSlowly returns the diagonal of the Smith normal form, by row and column operations.
func smithSlowly(matrix [][]int) []int {
	m := bigMatrix(matrix)
	var factors []int
	for k := range m {
		for bringLeast(m, k) {
			if reduceBy(m, k) {
				continue
			}
			i := undivided(m, k)
			if i < 0 {
				break
			}
			subtractRow(m, k, i, big.NewInt(-1))
		}
		factors = append(factors, int(new(big.Int).Abs(m[k][k]).Int64()))
	}
	return factors
}

// bigMatrix returns a matrix with big entries.
func bigMatrix(matrix [][]int) [][]*big.Int {
	m := make([][]*big.Int, len(matrix))
	for i, row := range matrix {
		for _, x := range row {
			m[i] = append(m[i], big.NewInt(int64(x)))
		}
	}
	return m
}

// divides reports whether a divides b.
func divides(a *big.Int, b *big.Int) bool {
	if a.Sign() == 0 {
		return b.Sign() == 0
	}
	return new(big.Int).Rem(b, a).Sign() == 0
}

// bringLeast swaps the entry of the least absolute value that is not 0, among those from row and column k on, to the diagonal, and reports whether there is one.
func bringLeast(m [][]*big.Int, k int) bool {
	row, column := k, k
	for i := k; i < len(m); i++ {
		for j := k; j < len(m); j++ {
			if m[i][j].Sign() != 0 && (m[row][column].Sign() == 0 || m[i][j].CmpAbs(m[row][column]) < 0) {
				row, column = i, j
			}
		}
	}
	m[k], m[row] = m[row], m[k]
	for i := range m {
		m[i][k], m[i][column] = m[i][column], m[i][k]
	}
	return m[k][k].Sign() != 0
}

// reduceBy subtracts multiples of row k and column k from those behind them, and reports whether that left a rest less than the entry on the diagonal.
func reduceBy(m [][]*big.Int, k int) bool {
	for i := k + 1; i < len(m); i++ {
		subtractRow(m, i, k, new(big.Int).Quo(m[i][k], m[k][k]))
	}
	for j := k + 1; j < len(m); j++ {
		times := new(big.Int).Quo(m[k][j], m[k][k])
		for i := range m {
			m[i][j] = new(big.Int).Sub(m[i][j], new(big.Int).Mul(times, m[i][k]))
		}
	}
	for i := k + 1; i < len(m); i++ {
		if m[i][k].Sign() != 0 || m[k][i].Sign() != 0 {
			return true
		}
	}
	return false
}

// subtractRow subtracts a multiple of one row from another one.
func subtractRow(m [][]*big.Int, row int, other int, times *big.Int) {
	for j := range m {
		m[row][j] = new(big.Int).Sub(m[row][j], new(big.Int).Mul(times, m[other][j]))
	}
}

// undivided returns a row behind row k with an entry that the one on the diagonal does not divide, or -1.
func undivided(m [][]*big.Int, k int) int {
	for i := k + 1; i < len(m); i++ {
		for j := k + 1; j < len(m); j++ {
			if !divides(m[k][k], m[i][j]) {
				return i
			}
		}
	}
	return -1
}

// treesSlowly returns the sets of N - 1 edges that join all vertices, as ascending lists of indices.
func treesSlowly(g impl.Graph) [][]int {
	return slices.DeleteFunc(chooseOf(len(g.Edges), g.N-1), func(chosen []int) bool {
		part := impl.Graph{N: g.N}
		for _, i := range chosen {
			part.Edges = append(part.Edges, g.Edges[i])
		}
		return slices.Contains(pathLengths(part)[0], far)
	})
}

// countTreesSlowly returns the number of the sets of N - 1 edges that join all vertices.
func countTreesSlowly(g impl.Graph) int {
	return len(treesSlowly(g))
}

func TestMatrixConstants(t *testing.T) {
	if impl.MaxSide != 6 || impl.MaxEntry != 500 {
		t.Errorf("MaxSide = %d, MaxEntry = %d", impl.MaxSide, impl.MaxEntry)
	}
}

func TestMatrixOk(t *testing.T) {
	good := [][][]int{nil, {}, {{0}}, {{500}}, {{-500}}, {{1, 2}, {3, 4}}, filled(6, 0), filled(6, 500), filled(6, -500)}
	for _, m := range append(good, largeMatrices()...) {
		if !impl.MatrixOk(m) {
			t.Errorf("MatrixOk(%v) = false", m)
		}
	}
	for name, m := range badMatrices() {
		if impl.MatrixOk(m) {
			t.Errorf("%s: MatrixOk(%v) = true", name, m)
		}
	}
	for i := range 6 {
		for j := range 6 {
			for _, x := range []int{500, -500, 501, -501, math.MinInt, math.MaxInt} {
				if impl.MatrixOk(withEntry(filled(6, 7), i, j, x)) != (x == 500 || x == -500) {
					t.Errorf("MatrixOk is wrong with the entry %d at %d, %d", x, i, j)
				}
			}
		}
	}
}

// TestMatrixShapes checks MatrixOk on all lists of up to eight rows of equal lengths up to eight, and with one row of another length.
func TestMatrixShapes(t *testing.T) {
	for rows := range 9 {
		for length := range 9 {
			m := make([][]int, rows)
			for i := range m {
				m[i] = make([]int, length)
			}
			if impl.MatrixOk(m) != (rows <= 6 && (rows == length || rows == 0)) {
				t.Errorf("MatrixOk is wrong for %d rows of length %d", rows, length)
			}
			for i := range rows {
				odd := slices.Clone(m)
				odd[i] = make([]int, length+1)
				if rows != 1 && impl.MatrixOk(odd) {
					t.Errorf("MatrixOk accepts %d rows of length %d and a longer one", rows-1, length)
				}
			}
		}
	}
}

func TestDeterminant(t *testing.T) {
	cases := []struct {
		m    [][]int
		want int
	}{
		{nil, 1}, {[][]int{}, 1}, {[][]int{{0}}, 0}, {[][]int{{7}}, 7}, {[][]int{{-7}}, -7}, {[][]int{{500}}, 500}, {[][]int{{-500}}, -500},
		{[][]int{{2, 1}, {1, 3}}, 5}, {[][]int{{1, 2}, {3, 4}}, -2}, {[][]int{{0, 1}, {1, 0}}, -1}, {[][]int{{2, 4}, {1, 2}}, 0},
		{[][]int{{0, 1, 0}, {0, 0, 1}, {1, 0, 0}}, 1}, {[][]int{{0, 0, 1}, {0, 1, 0}, {1, 0, 0}}, -1},
		{[][]int{{1, 2, 3}, {4, 5, 6}, {7, 8, 9}}, 0}, {[][]int{{1, 2, 3}, {4, 5, 6}, {7, 8, 10}}, -3},
		{[][]int{{1, 2, 4}, {1, 3, 9}, {1, 5, 25}}, 6},
		{diagonal(2, -3, 5, 7, -11, 13), 30030}, {filled(6, 0), 0}, {filled(6, 500), 0},
		{diagonal(500, 500, 500, 500, 500, 500), 15625000000000000}, {diagonal(-500, 500, 500, 500, 500, 500), -15625000000000000},
		{[][]int{{0, 2}, {-500, 499}}, 1000},
	}
	for _, c := range cases {
		if got := impl.Determinant(c.m); got != c.want {
			t.Errorf("Determinant(%v) = %d, want %d", c.m, got, c.want)
		}
	}
	for name, m := range badMatrices() {
		if got := impl.Determinant(m); got != 0 {
			t.Errorf("%s: Determinant(%v) = %d", name, m, got)
		}
	}
}

// TestGreatestDeterminant checks the greatest determinant of all valid matrices, 160 times 500 to the power 6, and its negative.
func TestGreatestDeterminant(t *testing.T) {
	m := timesEach(greatestSigns(), 500)
	if got := impl.Determinant(m); got != 2500000000000000000 {
		t.Errorf("Determinant(%v) = %d", m, got)
	}
	m[0], m[1] = m[1], m[0]
	if got := impl.Determinant(m); got != -2500000000000000000 {
		t.Errorf("Determinant(%v) = %d", m, got)
	}
	if got := impl.InvariantFactors(m); !slices.Equal(got, smithSlowly(m)) {
		t.Errorf("InvariantFactors(%v) = %v", m, got)
	}
}

// greatestSigns returns six rows of 1 and -1 with the determinant 160, the greatest possible: the products of the rows with each other are 6, 2 and 0.
func greatestSigns() [][]int {
	a := squareOf(3, 1, 1, 1, 1, 1, 1, 1, 1, 1)
	b := squareOf(3, -1, 1, 1, 1, -1, 1, 1, 1, -1)
	m := filled(6, 0)
	for i := range 3 {
		for j := range 3 {
			m[i][j], m[i][j+3] = a[i][j], b[i][j]
			m[i+3][j], m[i+3][j+3] = -b[j][i], a[j][i]
		}
	}
	return m
}

// TestDeterminantIsExact compares Determinant with the sum over all permutations.
func TestDeterminantIsExact(t *testing.T) {
	for _, m := range append(smallMatrices(), largeMatrices()...) {
		want := determinantSlowly(m)
		if got := impl.Determinant(m); !want.IsInt64() || int64(got) != want.Int64() {
			t.Fatalf("Determinant(%v) = %d, want %v", m, got, want)
		}
	}
}

func TestInvariantFactors(t *testing.T) {
	cases := []struct {
		m    [][]int
		want []int
	}{
		{nil, nil}, {[][]int{}, nil}, {[][]int{{0}}, []int{0}}, {[][]int{{1}}, []int{1}}, {[][]int{{-500}}, []int{500}}, {[][]int{{500}}, []int{500}},
		{diagonal(2, 3), []int{1, 6}}, {diagonal(2, 4), []int{2, 4}}, {diagonal(4, 2), []int{2, 4}}, {diagonal(0, 3), []int{3, 0}},
		{diagonal(-4, 6), []int{2, 12}}, {diagonal(0, 0, -6), []int{6, 0, 0}}, {diagonal(4, 6, 10), []int{2, 2, 60}},
		{diagonal(4, 0, 6, 0, 10, 0), []int{2, 2, 60, 0, 0, 0}}, {[][]int{{0, 5}, {0, 0}}, []int{5, 0}},
		{[][]int{{2, 4, 4}, {-6, 6, 12}, {10, -4, -16}}, []int{2, 6, 12}},
		{[][]int{{3, -1, -1}, {-1, 3, -1}, {-1, -1, 3}}, []int{1, 4, 4}},
		{filled(6, 0), []int{0, 0, 0, 0, 0, 0}}, {filled(6, 7), []int{7, 0, 0, 0, 0, 0}}, {filled(6, -500), []int{500, 0, 0, 0, 0, 0}},
		{diagonal(500, -500, 500, -500, 500, -500), []int{500, 500, 500, 500, 500, 500}},
		{diagonal(499, 491, 487, 479, 467, 463), []int{1, 1, 1, 1, 1, 499 * 491 * 487 * 479 * 467 * 463}},
		{diagonal(2, 3, 5, 7, 11, 13), []int{1, 1, 1, 1, 1, 30030}}, {diagonal(32, 16, 8, 4, 2, 1), []int{1, 2, 4, 8, 16, 32}},
	}
	for _, c := range cases {
		if got := impl.InvariantFactors(c.m); !slices.Equal(got, c.want) {
			t.Errorf("InvariantFactors(%v) = %v, want %v", c.m, got, c.want)
		}
	}
	for name, m := range badMatrices() {
		if got := impl.InvariantFactors(m); len(got) != 0 {
			t.Errorf("%s: InvariantFactors(%v) = %v", name, m, got)
		}
	}
}

// checkFactors checks what the document says of InvariantFactors of a valid matrix, given the greatest common divisors of its minors.
func checkFactors(t *testing.T, m [][]int, divisors []*big.Int) {
	got := impl.InvariantFactors(m)
	if len(got) != len(m) {
		t.Fatalf("InvariantFactors(%v) = %v", m, got)
	}
	product := big.NewInt(1)
	for k, d := range got {
		product.Mul(product, big.NewInt(int64(d)))
		if d < 0 || product.Cmp(divisors[k]) != 0 {
			t.Fatalf("InvariantFactors(%v) = %v, where the minors give %v", m, got, divisors)
		}
		if k > 0 && !divides(big.NewInt(int64(got[k-1])), big.NewInt(int64(d))) {
			t.Fatalf("InvariantFactors(%v) = %v", m, got)
		}
	}
}

// TestInvariantFactorsAreExact compares InvariantFactors with the greatest common divisors of the minors and with the form that row and column operations give.
func TestInvariantFactorsAreExact(t *testing.T) {
	for k, m := range append(smallMatrices(), largeMatrices()...) {
		if len(m) <= 4 || len(m) == 5 && k%3 == 0 || k%10 == 0 {
			checkFactors(t, m, divisorsSlowly(m))
		}
		if got, want := impl.InvariantFactors(m), smithSlowly(m); !slices.Equal(got, want) {
			t.Fatalf("InvariantFactors(%v) = %v, want %v", m, got, want)
		}
	}
}

// TestFactorsOfCombinations checks that InvariantFactors stays the same when rows or columns are exchanged, negated or added, or all of the matrix is transposed.
func TestFactorsOfCombinations(t *testing.T) {
	for _, m := range append(matricesOf(40, 5, 9), matricesOf(20, 6, 100)...) {
		want := impl.InvariantFactors(m)
		exchanged, negated, added, turned := copyMatrix(m), copyMatrix(m), copyMatrix(m), copyMatrix(m)
		exchanged[0], exchanged[3] = exchanged[3], exchanged[0]
		for i := range m {
			negated[i][2] = -negated[i][2]
			added[1][i] += added[4][i]
			for j := range m {
				turned[i][j] = m[j][i]
			}
		}
		for _, l := range [][][]int{exchanged, negated, added, turned} {
			if got := impl.InvariantFactors(l); !slices.Equal(got, want) {
				t.Fatalf("InvariantFactors(%v) = %v, but of %v %v", l, got, m, want)
			}
		}
	}
}

func TestLaplacianOf(t *testing.T) {
	cases := []struct {
		g    impl.Graph
		want [][]int
	}{
		{graphOf(1), [][]int{{0}}},
		{parallel(1), [][]int{{1, -1}, {-1, 1}}},
		{parallel(12), [][]int{{12, -12}, {-12, 12}}},
		{graphOf(3, 0, 1, 0, 1, 0, 2, 1, 2), [][]int{{3, -2, -1}, {-2, 3, -1}, {-1, -1, 2}}},
		{graphOf(3, 0, 2, 1, 2), [][]int{{1, 0, -1}, {0, 1, -1}, {-1, -1, 2}}},
		{graphOf(4, 0, 1, 0, 1, 0, 2, 1, 2, 1, 2, 1, 2, 2, 3), [][]int{{3, -2, -1, 0}, {-2, 5, -3, 0}, {-1, -3, 5, -1}, {0, 0, -1, 1}}},
	}
	for _, c := range cases {
		if got := impl.LaplacianOf(c.g); !sameMatrix(got, c.want) {
			t.Errorf("LaplacianOf(%v) = %v, want %v", c.g, got, c.want)
		}
	}
	for _, g := range goodGraphs() {
		want := filled(g.N, 0)
		for a := range g.N {
			for b := range g.N {
				want[a][b] = -impl.Multiplicity(g, a, b)
			}
			want[a][a] = impl.Valence(g, a)
		}
		if got := impl.LaplacianOf(g); !sameMatrix(got, want) {
			t.Fatalf("LaplacianOf(%v) = %v, want %v", g, got, want)
		}
	}
	for name, g := range badGraphs() {
		if got := impl.LaplacianOf(g); len(got) != 0 {
			t.Errorf("%s: LaplacianOf(%v) = %v", name, g, got)
		}
	}
}

func TestReducedLaplacian(t *testing.T) {
	fat := graphOf(3, 0, 1, 0, 1, 0, 2, 1, 2)
	for q, want := range [][][]int{{{3, -1}, {-1, 2}}, {{3, -1}, {-1, 2}}, {{3, -2}, {-2, 3}}} {
		if got := impl.ReducedLaplacian(fat, q); !sameMatrix(got, want) {
			t.Errorf("ReducedLaplacian(%v, %d) = %v, want %v", fat, q, got, want)
		}
	}
	for _, g := range goodGraphs() {
		whole := impl.LaplacianOf(g)
		for q := range g.N {
			others := slices.DeleteFunc(chooseOf(g.N, g.N-1), func(l []int) bool { return slices.Contains(l, q) })
			want := partOf(whole, others[0], others[0])
			if got := impl.ReducedLaplacian(g, q); !sameMatrix(got, want) {
				t.Fatalf("ReducedLaplacian(%v, %d) = %v, want %v", g, q, got, want)
			}
		}
	}
	if got := impl.ReducedLaplacian(graphOf(1), 0); len(got) != 0 {
		t.Errorf("ReducedLaplacian of one vertex = %v", got)
	}
}

func TestReducedLaplacianRejects(t *testing.T) {
	for _, g := range []impl.Graph{graphOf(1), parallel(2), completeGraph(4), graphOf(6, 0, 5, 1, 5, 2, 5, 3, 5, 4, 5)} {
		for _, q := range append(oddInts(), g.N, g.N+1) {
			if got := impl.ReducedLaplacian(g, q); len(got) != 0 {
				t.Errorf("ReducedLaplacian(%v, %d) = %v", g, q, got)
			}
		}
	}
	for name, g := range badGraphs() {
		for _, q := range []int{0, 1, 2, -1, math.MinInt, math.MaxInt} {
			if got := impl.ReducedLaplacian(g, q); len(got) != 0 {
				t.Errorf("%s: ReducedLaplacian(%v, %d) = %v", name, g, q, got)
			}
		}
	}
}

func TestCountTrees(t *testing.T) {
	cases := []struct {
		g    impl.Graph
		want int
	}{
		{graphOf(1), 1}, {parallel(1), 1}, {parallel(2), 2}, {parallel(12), 12}, {graphOf(3, 0, 1, 0, 1, 0, 2, 1, 2), 5},
		{completeGraph(3), 3}, {completeGraph(4), 16}, {completeGraph(5), 125},
		{graphOf(6, 0, 5, 1, 5, 2, 5, 3, 5, 4, 5), 1}, {graphOf(6, 0, 1, 0, 5, 1, 2, 2, 3, 3, 4, 4, 5), 6},
		{graphOf(6, 0, 1, 0, 2, 1, 2, 2, 3, 3, 4, 3, 5, 4, 5), 9},
		{graphOf(6, 0, 3, 0, 4, 0, 5, 1, 3, 1, 4, 1, 5, 2, 3, 2, 4, 2, 5), 81},
		{graphOf(6, 0, 1, 0, 2, 0, 3, 0, 4, 1, 2, 1, 4, 1, 5, 2, 3, 2, 5, 3, 4, 3, 5, 4, 5), 384},
	}
	for _, c := range cases {
		if got := impl.CountTrees(c.g); got != c.want {
			t.Errorf("CountTrees(%v) = %d, want %d", c.g, got, c.want)
		}
	}
	for name, g := range badGraphs() {
		if got := impl.CountTrees(g); got != 0 {
			t.Errorf("%s: CountTrees(%v) = %d", name, g, got)
		}
	}
}

// TestTreesAreCounted compares CountTrees with the number of spanning trees, and with the determinants and the factors of all reduced matrices.
func TestTreesAreCounted(t *testing.T) {
	for _, g := range goodGraphs() {
		want := countTreesSlowly(g)
		if got := impl.CountTrees(g); got != want {
			t.Fatalf("CountTrees(%v) = %d, want %d", g, got, want)
		}
		first := impl.InvariantFactors(impl.ReducedLaplacian(g, 0))
		for q := range g.N {
			reduced := impl.ReducedLaplacian(g, q)
			factors := impl.InvariantFactors(reduced)
			product := 1
			for _, d := range factors {
				product *= d
			}
			if impl.Determinant(reduced) != want || product != want || !slices.Equal(factors, first) {
				t.Fatalf("without %d, the matrix of %v has the factors %v, where there are %d trees", q, g, factors, want)
			}
		}
		if got := impl.InvariantFactors(impl.LaplacianOf(g)); !slices.Equal(got, append(first, 0)) {
			t.Fatalf("the matrix of %v has the factors %v", g, got)
		}
	}
}

func TestTimesVector(t *testing.T) {
	cases := []struct {
		m       [][]int
		x, want []int
	}{
		{nil, nil, nil}, {[][]int{}, []int{}, nil},
		{[][]int{{3}}, []int{5}, []int{15}}, {[][]int{{0}}, []int{math.MinInt}, []int{0}},
		{[][]int{{1, 2}, {3, 4}}, []int{5, 6}, []int{17, 39}}, {[][]int{{1, 2}, {3, 4}}, []int{1, 0}, []int{1, 3}},
		{[][]int{{3, -2, -1}, {-2, 3, -1}, {-1, -1, 2}}, []int{3, 2, 0}, []int{5, 0, -5}},
		{[][]int{{1}}, []int{math.MaxInt}, []int{math.MaxInt}}, {[][]int{{1}}, []int{math.MinInt}, []int{math.MinInt}},
		{[][]int{{-1}}, []int{math.MinInt}, []int{math.MinInt}}, {[][]int{{2}}, []int{math.MaxInt}, []int{-2}},
		{[][]int{{2}}, []int{math.MinInt}, []int{0}}, {[][]int{{-1}}, []int{math.MaxInt}, []int{math.MinInt + 1}},
		{[][]int{{1, 1}, {1, -1}}, []int{math.MaxInt, 1}, []int{math.MinInt, math.MaxInt - 1}},
		{[][]int{{1, 1}, {1, -1}}, []int{math.MinInt, 1}, []int{math.MinInt + 1, math.MaxInt}},
		{[][]int{{1, 1, 1}, {0, 0, 0}, {1, 1, -1}}, []int{math.MaxInt, math.MaxInt, math.MinInt}, []int{math.MaxInt - 1, 0, math.MaxInt - 1}},
		{[][]int{{500, -500}, {-500, 500}}, []int{1 << 60, -1 << 60}, []int{math.MinInt, math.MinInt}},
	}
	for _, c := range cases {
		if got := impl.TimesVector(c.m, c.x); !slices.Equal(got, c.want) {
			t.Errorf("TimesVector(%v, %v) = %v, want %v", c.m, c.x, got, c.want)
		}
	}
}

// TestTimesVectorIsExact compares TimesVector with sums of big ints that are brought back into the range of int.
func TestTimesVectorIsExact(t *testing.T) {
	extreme := []int{math.MinInt, math.MinInt + 1, math.MaxInt, math.MaxInt - 1, 1 << 62, -1 << 62, 0, 1, -1, 1 << 54}
	next := numbers(1000000)
	for _, m := range append(smallMatrices(), largeMatrices()...) {
		mild, wild := make([]int, len(m)), make([]int, len(m))
		for i := range m {
			mild[i] = next()
			wild[i] = extreme[(next()+1000000)%len(extreme)] + next()
		}
		for _, x := range [][]int{mild, wild, make([]int, len(m))} {
			if got, want := impl.TimesVector(m, x), productSlowly(m, x); !slices.Equal(got, want) {
				t.Fatalf("TimesVector(%v, %v) = %v, want %v", m, x, got, want)
			}
		}
	}
}

// productSlowly returns the product of a matrix and a vector modulo 2 to the power 64, as ints.
func productSlowly(m [][]int, x []int) []int {
	var product []int
	for _, row := range m {
		sum := new(big.Int)
		for j, entry := range row {
			sum.Add(sum, new(big.Int).Mul(big.NewInt(int64(entry)), big.NewInt(int64(x[j]))))
		}
		// Mod is never negative, so the rest is an uint64.
		rest := sum.Mod(sum, new(big.Int).Lsh(big.NewInt(1), 64))
		product = append(product, int(rest.Uint64()))
	}
	return product
}

func TestTimesVectorRejects(t *testing.T) {
	check := func(name string, m [][]int, x []int) {
		if got := impl.TimesVector(m, x); len(got) != 0 {
			t.Errorf("%s: TimesVector(%v, %v) = %v", name, m, x, got)
		}
	}
	for n := range 7 {
		for length := range 9 {
			if length != n {
				check("other length", filled(n, 1), make([]int, length))
			}
		}
	}
	check("no rows", nil, []int{1})
	check("no vector", [][]int{{1}}, nil)
	for name, m := range badMatrices() {
		for length := range 9 {
			check(name, m, slices.Repeat([]int{1}, length))
		}
		check(name, m, make([]int, len(m)))
	}
}

// TestLaplacianFires checks that the matrix of a graph takes from each vertex one chip for each of its edges when it fires, and gives it to the other ends.
func TestLaplacianFires(t *testing.T) {
	next := numbers(1000)
	for _, g := range goodGraphs() {
		script, want := make([]int, g.N), make([]int, g.N)
		for v := range script {
			script[v] = next()
		}
		for _, e := range g.Edges {
			want[e.A] += script[e.A] - script[e.B]
			want[e.B] += script[e.B] - script[e.A]
		}
		if got := impl.TimesVector(impl.LaplacianOf(g), script); !slices.Equal(got, want) {
			t.Fatalf("firing %v on %v takes %v, want %v", script, g, got, want)
		}
	}
}

// roomyList returns a copy of a list with spare capacity behind it.
func roomyList(l []int) []int {
	return append(slices.Clone(l), 7001, 7002, 7003, 7004)[:len(l)]
}

// roomyMatrix returns a copy of a matrix with spare capacity behind its rows and their entries.
func roomyMatrix(m [][]int) [][]int {
	var l [][]int
	for _, row := range m {
		l = append(l, roomyList(row))
	}
	return append(l, []int{7005}, []int{7006}, []int{7007})[:len(m)]
}

// wholeMatrix returns a copy of all rows of a matrix and all their entries, the spare capacity included.
func wholeMatrix(m [][]int) [][]int {
	var l [][]int
	for _, row := range m[:cap(m)] {
		l = append(l, slices.Clone(row[:cap(row)]))
	}
	return l
}

// spoilMatrix overwrites all entries of a matrix and all the spare capacity.
func spoilMatrix(m [][]int) {
	for i, row := range m[:cap(m)] {
		spoilList(row)
		m[:cap(m)][i] = []int{-99}
	}
}

// spoilList overwrites a list and the spare capacity behind it.
func spoilList(l []int) {
	for i := range l[:cap(l)] {
		l[:cap(l)][i] = -99
	}
}

func TestMatrixArgumentsAreKept(t *testing.T) {
	check := func(m [][]int) {
		matrix, vector := roomyMatrix(m), roomyList(make([]int, len(m)))
		whole, behind := wholeMatrix(matrix), slices.Clone(vector[:cap(vector)])
		impl.MatrixOk(matrix)
		impl.Determinant(matrix)
		impl.InvariantFactors(matrix)
		impl.TimesVector(matrix, vector)
		if len(matrix) != len(m) || !sameMatrix(wholeMatrix(matrix), whole) || !slices.Equal(vector[:cap(vector)], behind) {
			t.Fatalf("the matrix %v, the vector or the memory behind them has changed", m)
		}
		if impl.MatrixOk(matrix) != impl.MatrixOk(m) || impl.Determinant(matrix) != impl.Determinant(m) {
			t.Fatalf("a second call with %v answers something else", m)
		}
	}
	for _, m := range largeMatrices() {
		check(m)
	}
	for _, m := range badMatrices() {
		check(m)
	}
}

func TestLaplacianArgumentsAreKept(t *testing.T) {
	check := func(g impl.Graph) {
		one := spacious(g)
		before := slices.Clone(one.Edges[:cap(one.Edges)])
		impl.LaplacianOf(one)
		impl.CountTrees(one)
		for q := -1; q <= 6; q++ {
			impl.ReducedLaplacian(one, q)
		}
		if one.N != g.N || !slices.Equal(one.Edges[:cap(one.Edges)], before) {
			t.Fatalf("the graph %v or the memory behind it has changed", g)
		}
		if impl.CountTrees(one) != impl.CountTrees(g) || !sameMatrix(impl.LaplacianOf(one), impl.LaplacianOf(g)) {
			t.Fatalf("a second call with %v answers something else", g)
		}
	}
	for _, g := range goodGraphs() {
		check(g)
	}
	for _, g := range badGraphs() {
		check(g)
	}
}

// TestMatrixListsAreNew checks that lists share no memory with arguments or with each other.
func TestMatrixListsAreNew(t *testing.T) {
	for _, m := range append(matricesOf(50, 4, 9), largeMatrices()...) {
		matrix, vector := roomyMatrix(m), roomyList(slices.Repeat([]int{3}, len(m)))
		whole, behind := wholeMatrix(matrix), slices.Clone(vector[:cap(vector)])
		checkListIsNew(t, func() []int { return impl.InvariantFactors(matrix) })
		checkListIsNew(t, func() []int { return impl.TimesVector(matrix, vector) })
		if !sameMatrix(wholeMatrix(matrix), whole) || !slices.Equal(vector[:cap(vector)], behind) {
			t.Fatalf("a result for %v shares memory with an argument", m)
		}
	}
}

// checkListIsNew checks that spoiling a list that call answers spoils no other one, and that each call answers the same.
func checkListIsNew(t *testing.T, call func() []int) {
	first, second := call(), call()
	want := slices.Clone(first)
	spoilList(first)
	if !slices.Equal(second, want) || !slices.Equal(call(), want) {
		t.Fatalf("%v and a second answer share memory or differ", want)
	}
}

// TestMatrixRowsAreNew checks that the rows of matrices share no memory with each other or with other results.
func TestMatrixRowsAreNew(t *testing.T) {
	graphs := []impl.Graph{graphOf(1), parallel(2), completeGraph(4), completeGraph(5), graphOf(6, 0, 5, 1, 4, 1, 5, 2, 3, 2, 4)}
	for _, g := range graphs {
		checkMatrixIsNew(t, func() [][]int { return impl.LaplacianOf(g) })
		for q := range g.N {
			checkMatrixIsNew(t, func() [][]int { return impl.ReducedLaplacian(g, q) })
		}
	}
}

// checkMatrixIsNew checks that spoiling a row of a matrix that call answers spoils no other row and no other matrix, and that each call answers the same.
func checkMatrixIsNew(t *testing.T, call func() [][]int) {
	first, second := call(), call()
	want := copyMatrix(first)
	for i, row := range first {
		spoilList(row)
		if !sameMatrix(first[i+1:], want[i+1:]) {
			t.Fatalf("the rows of %v share memory", want)
		}
	}
	spoilMatrix(first)
	if !sameMatrix(second, want) || !sameMatrix(call(), want) {
		t.Fatalf("%v and a second answer share memory or differ", want)
	}
}
