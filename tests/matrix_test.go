package tests

import (
	"math"
	"math/bits"
	"slices"
	"testing"

	"loop.example/g00405/impl"
)

// matrixOf makes a matrix, another one for each seed, with noughts in it.
func matrixOf(rows int, long int, seed int) [][]int {
	m := make([][]int, rows)
	for i := range m {
		m[i] = polyOf(long+1, seed*97+i*13+1)[:long]
	}
	return m
}

func slowMatrixProduct(a [][]int, b [][]int) [][]int {
	product := make([][]int, len(a))
	for i := range a {
		product[i] = make([]int, len(b[0]))
		for k := range b[0] {
			for j := range b {
				product[i][k] ^= slowProduct(a[i][j], b[j][k])
			}
		}
	}
	return product
}

func slowIdentity(n int) [][]int {
	m := make([][]int, n)
	for k := range m {
		m[k] = make([]int, n)
		m[k][k] = 1
	}
	return m
}

func transposed(m [][]int) [][]int {
	turned := make([][]int, len(m[0]))
	for k := range turned {
		for _, row := range m {
			turned[k] = append(turned[k], row[k])
		}
	}
	return turned
}

func sameMatrix(a [][]int, b [][]int) bool {
	return slices.EqualFunc(a, b, slices.Equal[[]int])
}

// determinant adds up all products of one element from each row and column: signs do not matter where a and a are 0.
func determinant(m [][]int) int {
	sums := make([]int, 1<<len(m))
	sums[0] = 1
	for columns := 1; columns < len(sums); columns++ {
		row := m[bits.OnesCount(uint(columns))-1]
		for k := range m {
			if columns&(1<<k) != 0 {
				sums[columns] ^= slowProduct(row[k], sums[columns&^(1<<k)])
			}
		}
	}
	return sums[len(sums)-1]
}

// subMatrix has the rows and columns whose bits are set.
func subMatrix(m [][]int, rows int, columns int) [][]int {
	var sub [][]int
	for i := range m {
		if rows&(1<<i) == 0 {
			continue
		}
		var row []int
		for k := range m[i] {
			if columns&(1<<k) != 0 {
				row = append(row, m[i][k])
			}
		}
		sub = append(sub, row)
	}
	return sub
}

// eachSquare goes through all rows and as many columns of a matrix.
func eachSquare(m [][]int, do func(sub [][]int)) {
	for rows := 1; rows < 1<<len(m); rows++ {
		for columns := 1; columns < 1<<len(m[0]); columns++ {
			if bits.OnesCount(uint(rows)) == bits.OnesCount(uint(columns)) {
				do(subMatrix(m, rows, columns))
			}
		}
	}
}

// slowRank is the side of the greatest square with a determinant.
func slowRank(m [][]int) int {
	rank := 0
	eachSquare(m, func(sub [][]int) {
		if len(sub) > rank && determinant(sub) != 0 {
			rank = len(sub)
		}
	})
	return rank
}

// notMatrices has each way in which a list of rows is no matrix.
func notMatrices() [][][]int {
	l := [][][]int{
		nil, {}, {nil}, {{}}, {{}, {}}, {nil, {1}}, {{1}, nil}, {{1}, {1, 2}}, {{1, 2}, {1}}, {{1, 2}, {3, 4}, {5}},
		matrixOf(9, 1, 1), matrixOf(1, 9, 1), matrixOf(9, 9, 1), matrixOf(9, 8, 1), matrixOf(8, 9, 1), matrixOf(300, 2, 1),
	}
	for _, a := range notElements() {
		end := matrixOf(8, 8, 5)
		end[7][7] = a
		l = append(l, [][]int{{a}}, [][]int{{1, 0}, {a, 1}}, [][]int{{a, 2, 3}, {4, 5, 6}}, end)
	}
	return l
}

func TestPromise2Constants(t *testing.T) {
	if impl.MaxSide != 8 {
		t.Error(impl.MaxSide)
	}
}

func TestPromise2GoodMatrices(t *testing.T) {
	for rows := range 11 {
		for long := range 11 {
			want := rows >= 1 && rows <= 8 && long >= 1 && long <= 8
			if good := impl.GoodMatrix(matrixOf(rows, long, rows*11+long)); good != want {
				t.Error(rows, long, good)
			}
		}
	}
	for _, m := range [][][]int{{{0}}, {{255}}, {{0, 255}, {255, 0}}} {
		if !impl.GoodMatrix(m) {
			t.Error(m)
		}
	}
	for _, m := range notMatrices() {
		if impl.GoodMatrix(m) {
			t.Error(m)
		}
	}
}

func TestPromise2GoodMatrixLooksAtEachElement(t *testing.T) {
	for i := range 8 {
		for k := range 8 {
			for _, a := range notElements() {
				m := matrixOf(8, 8, 3)
				m[i][k] = a
				if impl.GoodMatrix(m) {
					t.Error(i, k, a)
				}
			}
		}
	}
}

func TestPromise2Products(t *testing.T) {
	for n := 1; n <= 8; n++ {
		for m := 1; m <= 8; m++ {
			for long := 1; long <= 8; long++ {
				a, b := matrixOf(n, m, n*81+long), matrixOf(m, long, m*83+n)
				if p, ok := impl.MulMatrix(a, b); !ok || !sameMatrix(p, slowMatrixProduct(a, b)) {
					t.Fatal(a, b, p, ok)
				}
			}
		}
	}
	if p, ok := impl.MulMatrix([][]int{{2, 3}}, [][]int{{128}, {7}}); !ok || !sameMatrix(p, [][]int{{29 ^ 9}}) {
		t.Error(p, ok)
	}
}

func TestPromise2ProductsThatDoNotFit(t *testing.T) {
	for m := 1; m <= 8; m++ {
		for other := 1; other <= 8; other++ {
			if p, ok := impl.MulMatrix(matrixOf(3, m, 1), matrixOf(other, 3, 2)); ok != (m == other) || (len(p) > 0) != ok {
				t.Error(m, other, p, ok)
			}
		}
	}
}

func TestPromise2Identities(t *testing.T) {
	for n := 1; n <= 8; n++ {
		one, ok := impl.IdentityOf(n)
		if !ok || !sameMatrix(one, slowIdentity(n)) {
			t.Error(n, one, ok)
		}
		m := matrixOf(n, n, n)
		for _, x := range [][2][][]int{{one, m}, {m, one}} {
			if p, ok := impl.MulMatrix(x[0], x[1]); !ok || !sameMatrix(p, m) {
				t.Error(n, p, ok)
			}
		}
	}
	for _, n := range []int{0, -1, 9, 10, 256, math.MinInt, math.MaxInt} {
		if one, ok := impl.IdentityOf(n); len(one) != 0 || ok {
			t.Error(n, one, ok)
		}
	}
}

// checkInverse asks for an inverse just where there is a determinant, and for rows that are not told by others just there.
func checkInverse(t *testing.T, m [][]int) {
	t.Helper()
	inverse, ok := impl.InvertMatrix(m)
	rank, good := impl.RankOf(m)
	if ok != (determinant(m) != 0) || ok != (rank == len(m)) || !good {
		t.Fatal(m, inverse, ok, rank, good)
	}
	if !ok {
		if len(inverse) != 0 {
			t.Fatal("an inverse beside false", m, inverse)
		}
		return
	}
	one := slowIdentity(len(m))
	if !sameMatrix(slowMatrixProduct(m, inverse), one) || !sameMatrix(slowMatrixProduct(inverse, m), one) {
		t.Fatal(m, inverse)
	}
	if back, ok := impl.InvertMatrix(inverse); !ok || !sameMatrix(back, m) {
		t.Fatal("the inverse of the inverse", m, inverse, back, ok)
	}
}

func TestPromise2InversesOfOneElement(t *testing.T) {
	for a := range 256 {
		checkInverse(t, [][]int{{a}})
	}
	if m, ok := impl.InvertMatrix([][]int{{2}}); !ok || !sameMatrix(m, [][]int{{142}}) {
		t.Error(m, ok)
	}
}

func TestPromise2InversesOfTwoRows(t *testing.T) {
	elements := []int{0, 1, 2, 3, 4, 142, 255}
	for _, a := range elements {
		for _, b := range elements {
			for _, c := range elements {
				for _, d := range elements {
					checkInverse(t, [][]int{{a, b}, {c, d}})
				}
			}
		}
	}
}

func TestPromise2InversesOfBits(t *testing.T) {
	for all := range 512 {
		m := slowIdentity(3)
		for k := range 9 {
			m[k/3][k%3] = all >> k & 1
		}
		checkInverse(t, m)
	}
}

func TestPromise2Inverses(t *testing.T) {
	for n := 1; n <= 8; n++ {
		for seed := range 60 {
			checkInverse(t, matrixOf(n, n, seed*9+n))
		}
	}
}

// eachOrder goes through all orders of the numbers below n.
func eachOrder(n int, do func(order []int)) {
	var grow func(order []int)
	grow = func(order []int) {
		if len(order) == n {
			do(order)
			return
		}
		for k := range n {
			if !slices.Contains(order, k) {
				grow(append(slices.Clone(order), k))
			}
		}
	}
	grow(nil)
}

func inOrder(m [][]int, order []int) [][]int {
	var rows [][]int
	for _, k := range order {
		rows = append(rows, m[k])
	}
	return rows
}

func TestPromise2RowsAreSwappedUp(t *testing.T) {
	upper := slowIdentity(5)
	for i := range upper {
		for k := i; k < 5; k++ {
			upper[i][k] = 1 + i*7 + k*3
		}
	}
	eachOrder(5, func(order []int) {
		checkInverse(t, inOrder(slowIdentity(5), order))
		checkInverse(t, inOrder(upper, order))
	})
	checkInverse(t, inOrder(slowIdentity(8), []int{7, 6, 5, 4, 3, 2, 1, 0}))
	checkInverse(t, inOrder(slowIdentity(8), []int{1, 2, 3, 4, 5, 6, 7, 0}))
	got, ok := impl.InvertMatrix([][]int{{0, 0, 2}, {0, 1, 0}, {4, 0, 0}})
	if !ok || !sameMatrix(got, [][]int{{0, 0, 71}, {0, 1, 0}, {142, 0, 0}}) {
		t.Error(got, ok)
	}
	checkInverse(t, [][]int{{1, 2, 3}, {2, 4, 5}, {7, 1, 1}})
}

// addTold puts into the row at the place what others tell.
func addTold(m [][]int, at int, factors []int) {
	told := make([]int, len(m[at]))
	for i, row := range m {
		if i != at {
			for k := range row {
				told[k] ^= slowProduct(factors[i%len(factors)], row[k])
			}
		}
	}
	m[at] = told
}

func TestPromise2NoInverseWhereARowIsToldByOthers(t *testing.T) {
	for n := 1; n <= 8; n++ {
		for at := range n {
			for _, factors := range [][]int{{0}, {1}, {2, 0, 255}, {0, 0, 0, 0, 9}, {77, 3, 1, 0, 0, 0, 142, 255}} {
				m := matrixOf(n, n, n*8+at)
				addTold(m, at, factors)
				for _, x := range [][][]int{m, transposed(m)} {
					if inverse, ok := impl.InvertMatrix(x); ok || len(inverse) != 0 {
						t.Fatal(x, inverse, ok)
					}
					if v, ok := impl.SolveBy(x, make([]int, n)); ok || len(v) != 0 {
						t.Fatal(x, v, ok)
					}
					if rank, ok := impl.RankOf(x); rank >= n || !ok {
						t.Fatal(x, rank, ok)
					}
				}
			}
		}
	}
}

func TestPromise2NoInverseOfWhatIsNotSquare(t *testing.T) {
	for n := 1; n <= 8; n++ {
		for long := 1; long <= 8; long++ {
			if n == long {
				continue
			}
			m, ok := impl.CauchyMatrix([]int{0, 1, 2, 3, 4, 5, 6, 7}[:n], []int{8, 9, 10, 11, 12, 13, 14, 15}[:long])
			if !ok {
				t.Fatal(n, long)
			}
			if inverse, ok := impl.InvertMatrix(m); ok || len(inverse) != 0 {
				t.Error(n, long, inverse, ok)
			}
			for _, v := range [][]int{make([]int, n), make([]int, long)} {
				if s, ok := impl.SolveBy(m, v); ok || len(s) != 0 {
					t.Error(n, long, s, ok)
				}
			}
			if rank, ok := impl.RankOf(m); rank != min(n, long) || !ok {
				t.Error(n, long, rank, ok)
			}
		}
	}
}

func TestPromise2Ranks(t *testing.T) {
	for n := 1; n <= 5; n++ {
		for long := 1; long <= 5; long++ {
			for seed := range 12 {
				m := matrixOf(n, long, seed*31+n*5+long)
				if seed%3 > 0 {
					addTold(m, seed%n, []int{seed, 0, 1})
				}
				if seed%4 == 0 {
					m = transposed(m)
				}
				if rank, ok := impl.RankOf(m); rank != slowRank(m) || !ok {
					t.Fatal(m, rank, ok)
				}
			}
		}
	}
}

func TestPromise2RanksOfNoughtsAndAlikeRows(t *testing.T) {
	for n := 1; n <= 8; n++ {
		for long := 1; long <= 8; long++ {
			if rank, ok := impl.RankOf(slices.Repeat([][]int{make([]int, long)}, n)); rank != 0 || !ok {
				t.Error(n, long, rank, ok)
			}
			for at := range long {
				row := make([]int, long)
				row[at] = 200
				if rank, ok := impl.RankOf(slices.Repeat([][]int{row}, n)); rank != 1 || !ok {
					t.Error(n, long, at, rank, ok)
				}
			}
		}
	}
}

func TestPromise2RanksOfProducts(t *testing.T) {
	for n := 1; n <= 8; n++ {
		for long := 1; long <= 8; long++ {
			for rank := 1; rank <= min(n, long); rank++ {
				a := slowCauchy([]int{0, 1, 2, 3, 4, 5, 6, 7}[:n], []int{8, 9, 10, 11, 12, 13, 14, 15}[:rank])
				b := slowCauchy([]int{20, 21, 22, 23, 24, 25, 26, 27}[:rank], []int{32, 33, 34, 35, 36, 37, 38, 39}[:long])
				if got, ok := impl.RankOf(slowMatrixProduct(a, b)); got != rank || !ok {
					t.Error(n, long, rank, got, ok)
				}
			}
		}
	}
}

func slowCauchy(x []int, y []int) [][]int {
	m := make([][]int, len(x))
	for i, a := range x {
		for _, b := range y {
			m[i] = append(m[i], slowPower(a^b, 254))
		}
	}
	return m
}

func TestPromise2CauchyValues(t *testing.T) {
	for n := 1; n <= 8; n++ {
		for long := 1; long <= 8; long++ {
			x := []int{255, 3, 0, 7, 128, 64, 200, 31}[:n]
			y := []int{1, 254, 2, 90, 91, 92, 17, 18}[:long]
			m, ok := impl.CauchyMatrix(x, y)
			if !ok || !sameMatrix(m, slowCauchy(x, y)) {
				t.Error(x, y, m, ok)
			}
			for i := range m {
				for k := range m[i] {
					if slowProduct(m[i][k], x[i]^y[k]) != 1 {
						t.Error(x, y, i, k)
					}
				}
			}
		}
	}
}

func TestPromise2AnySquareOfCauchyCanBeInverted(t *testing.T) {
	for _, x := range [][2][]int{
		{{0, 1, 2, 3, 4, 5, 6, 7}, {8, 9, 10, 11, 12, 13, 14, 15}},
		{{255, 0, 128, 77, 3, 200, 5, 9}, {1, 254, 64, 100, 33, 34}},
		{{4}, {250}},
	} {
		m, ok := impl.CauchyMatrix(x[0], x[1])
		if !ok {
			t.Fatal(x)
		}
		eachSquare(m, func(sub [][]int) {
			inverse, ok := impl.InvertMatrix(sub)
			if !ok || !sameMatrix(slowMatrixProduct(sub, inverse), slowIdentity(len(sub))) {
				t.Fatal(x, sub, inverse, ok)
			}
		})
	}
}

func TestPromise2CauchyOfAlikeOrTooMany(t *testing.T) {
	eight, other := []int{0, 1, 2, 3, 4, 5, 6, 7}, []int{8, 9, 10, 11, 12, 13, 14, 15}
	bad := [][2][]int{
		{nil, nil}, {nil, {1}}, {{1}, nil}, {{}, other}, {eight, {}},
		{{1}, {1}}, {{0}, {0}}, {{1, 1}, {2}}, {{2}, {1, 1}}, {{1, 2, 3}, {4, 5, 1}}, {eight, eight},
		{append(slices.Clone(eight), 20), other}, {eight, append(slices.Clone(other), 20)}, {polyOf(300, 1), other},
	}
	for i := range 8 {
		for k := range 8 {
			y := slices.Clone(other)
			y[k] = eight[i]
			bad = append(bad, [2][]int{eight, y})
			if i != k {
				x, y := slices.Clone(eight), slices.Clone(other)
				x[k], y[k] = x[i], y[i]
				bad = append(bad, [2][]int{x, other}, [2][]int{eight, y})
			}
		}
	}
	for _, a := range notElements() {
		bad = append(bad, [2][]int{{a}, {1}}, [2][]int{{1}, {a}}, [2][]int{{0, a}, {1, 2}}, [2][]int{{0}, {1, a}})
	}
	for _, x := range bad {
		if m, ok := impl.CauchyMatrix(x[0], x[1]); ok || len(m) != 0 {
			t.Error(x, m, ok)
		}
	}
}

func TestPromise2Rows(t *testing.T) {
	for n := 1; n <= 8; n++ {
		m := matrixOf(n, 9-n, n)
		for _, rows := range [][]int{{0}, {n - 1}, {n - 1, 0}, {0, 0}, {n / 2, n - 1, n / 2}, slices.Repeat([]int{n - 1}, 8)} {
			if got, ok := impl.RowsOf(m, rows); !ok || !sameMatrix(got, inOrder(m, rows)) {
				t.Error(m, rows, got, ok)
			}
		}
		for _, rows := range [][]int{
			nil, {}, {-1}, {n}, {0, n}, {n, 0}, {0, -1}, {math.MinInt}, {math.MaxInt, 0},
			slices.Repeat([]int{0}, 9), slices.Repeat([]int{0}, 300),
		} {
			if got, ok := impl.RowsOf(m, rows); ok || len(got) != 0 {
				t.Error(m, rows, got, ok)
			}
		}
	}
	eight := matrixOf(8, 8, 4)
	for _, rows := range [][]int{{0, 1, 2, 3, 4, 5, 6, 7}, {7, 6, 5, 4, 3, 2, 1, 0}, {3, 3, 7, 7, 0, 0, 1, 1}} {
		if got, ok := impl.RowsOf(eight, rows); !ok || !sameMatrix(got, inOrder(eight, rows)) {
			t.Error(rows, got, ok)
		}
	}
}

func TestPromise2Solutions(t *testing.T) {
	solved := 0
	for n := 1; n <= 8; n++ {
		for seed := range 40 {
			m, v := matrixOf(n, n, seed*11+n), polyOf(n, seed+3)
			got, ok := impl.SolveBy(m, v)
			if ok != (determinant(m) != 0) {
				t.Fatal(m, v, got, ok)
			}
			if !ok {
				if len(got) != 0 {
					t.Fatal(m, v, got)
				}
				continue
			}
			solved++
			column := make([][]int, n)
			for k := range column {
				column[k] = []int{got[k]}
			}
			if !slices.Equal(transposed(slowMatrixProduct(m, column))[0], v) {
				t.Fatal(m, v, got)
			}
		}
	}
	if solved < 100 {
		t.Error("too few could be solved", solved)
	}
	if got, ok := impl.SolveBy([][]int{{0, 2}, {1, 0}}, []int{4, 9}); !ok || !slices.Equal(got, []int{9, 2}) {
		t.Error(got, ok)
	}
}

func TestPromise2SolutionsOfWhatDoesNotFit(t *testing.T) {
	for n := 1; n <= 8; n++ {
		one := slowIdentity(n)
		for long := range 11 {
			if got, ok := impl.SolveBy(one, make([]int, long)); ok != (long == n) || len(got) > 0 && !ok {
				t.Error(n, long, got, ok)
			}
		}
		for at := range n {
			for _, a := range notElements() {
				v := make([]int, n)
				v[at] = a
				if got, ok := impl.SolveBy(one, v); ok || len(got) != 0 {
					t.Error(v, got, ok)
				}
			}
		}
	}
}
