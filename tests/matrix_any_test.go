package tests

import (
	"slices"
	"testing"

	"loop.example/g00405/impl"
)

func noRows(t *testing.T, what string, m [][]int, ok bool) {
	t.Helper()
	if len(m) != 0 || ok {
		t.Error(what, m, ok)
	}
}

func TestPromise19WrongMatrices(t *testing.T) {
	goods := [][][]int{{{1}}, {{1, 2}}, matrixOf(2, 2, 1), matrixOf(8, 8, 2)}
	for _, bad := range notMatrices() {
		for _, other := range append(slices.Clone(goods), notMatrices()...) {
			m, ok := impl.MulMatrix(bad, other)
			noRows(t, "MulMatrix", m, ok)
			m, ok = impl.MulMatrix(other, bad)
			noRows(t, "MulMatrix", m, ok)
		}
		m, ok := impl.InvertMatrix(bad)
		noRows(t, "InvertMatrix", m, ok)
		n, ok := impl.RankOf(bad)
		isZero(t, "RankOf", n, ok)
		for _, l := range [][]int{nil, {}, {0}, {1}, {0, 0}, {1, 0, 1}, make([]int, 8), make([]int, 9), {-1}} {
			m, ok = impl.RowsOf(bad, l)
			noRows(t, "RowsOf", m, ok)
			if v, ok := impl.SolveBy(bad, l); len(v) != 0 || ok {
				t.Error("SolveBy", bad, l, v, ok)
			}
		}
	}
}

// heldMatrix has memory behind its rows and behind each of them, and a copy of all of it.
type heldMatrix struct {
	rows  [][]int
	heads [][]int
	each  []held
}

func holdMatrix(m [][]int, behind int) heldMatrix {
	h := heldMatrix{rows: make([][]int, 0, len(m)+2)}
	for _, row := range append(slices.Clone(m), []int{1, 2, behind}, []int{3, behind}) {
		h.each = append(h.each, hold(row, behind))
		h.heads = append(h.heads, h.each[len(h.each)-1].list)
	}
	h.rows = append(h.rows, h.heads[:len(m)]...)
	copy(h.rows[:cap(h.rows)][len(m):], h.heads[len(m):])
	return h
}

func (h heldMatrix) stays(t *testing.T) {
	t.Helper()
	for i, row := range h.rows[:len(h.heads)] {
		if len(row) != len(h.heads[i]) || len(row) > 0 && &row[0] != &h.heads[i][0] {
			t.Fatal("a row is another one", i, row, h.heads[i])
		}
		h.each[i].stays(t)
	}
}

func copyMatrix(m [][]int) [][]int {
	var rows [][]int
	for _, row := range m {
		rows = append(rows, slices.Clone(row))
	}
	return rows
}

// spoilRows writes over all memory that a matrix has, row by row, and looks whether the other rows stay.
func spoilRows(t *testing.T, m [][]int) {
	t.Helper()
	was := copyMatrix(m)
	for i := range m {
		spoil(m[i])
		for k := i + 1; k < len(m); k++ {
			if !slices.Equal(m[k], was[k]) {
				t.Fatal("rows share memory", i, k, was)
			}
		}
	}
	clear(m[:cap(m)])
}

func memoryMatrices() [][][]int {
	l := [][][]int{
		{{7}}, {{0}}, {{0, 1}, {1, 0}}, {{1, 2}, {2, 4}}, {{0, 3}, {0, 5}}, {{1, 2, 3}}, {{1}, {2}, {3}}, slowIdentity(4),
		matrixOf(3, 5, 1), matrixOf(5, 3, 2), matrixOf(8, 8, 3), slowIdentity(8),
	}
	return append(l, notMatrices()...)
}

func TestPromise19MatrixMemory(t *testing.T) {
	for _, m := range memoryMatrices() {
		for _, behind := range []int{0, 1, -9} {
			checkMatrixMemory(t, m, behind, impl.InvertMatrix)
			for _, rows := range [][]int{{0}, {0, 0}, {1, 1, 0, 1}, {7, 0, 7, 7}, {9}, nil} {
				list := hold(rows, behind)
				checkMatrixMemory(t, m, behind, func(m [][]int) ([][]int, bool) { return impl.RowsOf(m, list.list) })
				list.stays(t)
			}
			for _, other := range memoryMatrices() {
				held := holdMatrix(other, behind)
				checkMatrixMemory(t, m, behind, func(m [][]int) ([][]int, bool) { return impl.MulMatrix(m, held.rows) })
				checkMatrixMemory(t, m, behind, func(m [][]int) ([][]int, bool) { return impl.MulMatrix(held.rows, m) })
				held.stays(t)
			}
		}
	}
}

// checkMatrixMemory asks twice for the same: what the first answer becomes is not seen in the second, nor in what was handed in.
func checkMatrixMemory(t *testing.T, m [][]int, behind int, ask func(m [][]int) ([][]int, bool)) {
	t.Helper()
	want, wantOk := ask(slices.Clip(copyMatrix(m)))
	want = copyMatrix(want)
	h := holdMatrix(m, behind)
	first, ok := ask(h.rows)
	h.stays(t)
	if !sameMatrix(first, want) || ok != wantOk {
		t.Fatal("reads behind", m, first, ok, want, wantOk)
	}
	later, _ := ask(h.rows)
	spoilRows(t, first)
	h.stays(t)
	if !sameMatrix(later, want) {
		t.Fatal("two answers share memory", m)
	}
	if last, ok := ask(h.rows); !sameMatrix(last, want) || ok != wantOk {
		t.Fatal("a later answer is another one", m, last)
	}
}

func TestPromise19MatrixNumbersAndSolutions(t *testing.T) {
	for _, m := range memoryMatrices() {
		for _, behind := range []int{0, 1, -9} {
			h := holdMatrix(m, behind)
			good, rank, ok := impl.GoodMatrix(h.rows), 0, false
			h.stays(t)
			rank, ok = impl.RankOf(h.rows)
			h.stays(t)
			clipped := slices.Clip(copyMatrix(m))
			if wantRank, want := impl.RankOf(clipped); rank != wantRank || ok != want || good != want || impl.GoodMatrix(clipped) != want {
				t.Error("reads behind", m, good, rank, ok)
			}
			for _, v := range [][]int{{3}, {3, 4}, {1, 2, 3, 4}, {8, 7, 6, 5, 4, 3, 2, 1}, nil, {300}} {
				checkSolutionMemory(t, h, hold(v, behind))
			}
		}
	}
}

func checkSolutionMemory(t *testing.T, m heldMatrix, v held) {
	t.Helper()
	first, ok := impl.SolveBy(m.rows, v.list)
	was := slices.Clone(first)
	later, _ := impl.SolveBy(m.rows, v.list)
	spoil(first)
	m.stays(t)
	v.stays(t)
	if !slices.Equal(later, was) {
		t.Fatal("two answers share memory", m.rows, v.list)
	}
	if last, again := impl.SolveBy(m.rows, v.list); !slices.Equal(last, was) || again != ok {
		t.Fatal("a later answer is another one", m.rows, v.list)
	}
}

func TestPromise19MadeMatricesMemory(t *testing.T) {
	for n := range 10 {
		checkMatrixMemory(t, nil, 0, func([][]int) ([][]int, bool) { return impl.IdentityOf(n) })
		for long := range 10 {
			x := hold([]int{0, 1, 2, 3, 4, 5, 6, 7, 8}[:n], 3)
			y := hold([]int{10, 11, 12, 13, 14, 15, 16, 17, 18}[:long], 0)
			checkMatrixMemory(t, nil, 0, func([][]int) ([][]int, bool) { return impl.CauchyMatrix(x.list, y.list) })
			x.stays(t)
			y.stays(t)
		}
	}
}

// One list may be handed in at several places, and rows may share memory: the answers are those for copies.
func TestPromise19SharedArguments(t *testing.T) {
	whole := []int{1, 2, 3, 4, 5}
	shared := [][]int{whole[0:3], whole[1:4], whole[2:5]}
	row := []int{2, 1, 0}
	for _, m := range [][][]int{shared, {row, row, row}, {row, {1, 0, 0}, {0, 0, 7}}} {
		apart := copyMatrix(m)
		for _, x := range []struct {
			ask func(m [][]int) ([][]int, bool)
		}{
			{impl.InvertMatrix},
			{func(m [][]int) ([][]int, bool) { return impl.MulMatrix(m, m) }},
			{func(m [][]int) ([][]int, bool) { return impl.RowsOf(m, []int{2, 0, 2}) }},
			{func(m [][]int) ([][]int, bool) { return impl.RowsOf(m, m[0]) }},
			{func(m [][]int) ([][]int, bool) { v, ok := impl.SolveBy(m, m[0]); return [][]int{v}, ok }},
			{func(m [][]int) ([][]int, bool) { n, ok := impl.RankOf(m); return [][]int{{n}}, ok }},
		} {
			want, wantOk := x.ask(copyMatrix(apart))
			got, ok := x.ask(m)
			if !sameMatrix(got, want) || ok != wantOk || !sameMatrix(m, apart) {
				t.Error(m, got, ok, want, wantOk)
			}
			spoilRows(t, got)
			if !sameMatrix(m, apart) {
				t.Error("an answer shares memory", m)
			}
		}
	}
	if !slices.Equal(whole, []int{1, 2, 3, 4, 5}) || !slices.Equal(row, []int{2, 1, 0}) {
		t.Error(whole, row)
	}
}
