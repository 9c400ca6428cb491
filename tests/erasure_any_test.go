package tests

import (
	"slices"
	"testing"

	"loop.example/g00405/impl"
)

// memoryPieces has lists of pieces, good for some codes, and some that are good for none.
func memoryPieces() [][][]int {
	l := [][][]int{
		nil, {{7}}, {{0}}, {nil}, {{1}, {2}}, {nil, nil}, {{}, {}, {}}, matrixOf(2, 3, 1), matrixOf(3, 2, 2),
		matrixOf(3, 32, 3), matrixOf(6, 4, 4), matrixOf(10, 1, 5), matrixOf(10, 32, 6), slowEncode(matrixOf(6, 3, 7), 4),
	}
	bad := [][][]int{
		{{1}, {1, 2}}, {{1, 2}, {1}, {1}}, {{256}}, {{0}, {-1}}, {{1}, {2}, {300}}, matrixOf(2, 33, 1), matrixOf(3, 33, 1), matrixOf(11, 2, 1), matrixOf(7, 2, 1),
	}
	return append(l, bad...)
}

func memoryCodes() [][2]int {
	return [][2]int{{1, 1}, {2, 1}, {1, 2}, {6, 4}, {0, 1}, {2, 0}, {7, 3}, {6, 5}, {-1, 4}}
}

func TestPromise19CodeMemory(t *testing.T) {
	for data := -1; data <= 8; data++ {
		for parity := -1; parity <= 6; parity++ {
			checkMatrixMemory(t, nil, 0, func([][]int) ([][]int, bool) { return impl.CodeMatrix(data, parity) })
		}
	}
}

func TestPromise19EncodedMemory(t *testing.T) {
	for _, pieces := range memoryPieces() {
		for _, behind := range []int{0, 1, -9} {
			for parity := range 6 {
				checkMatrixMemory(t, pieces, behind, func(m [][]int) ([][]int, bool) { return impl.EncodePieces(m, parity) })
			}
		}
	}
}

func TestPromise19DecodedMemory(t *testing.T) {
	for _, pieces := range memoryPieces() {
		for _, x := range memoryCodes() {
			for _, lost := range [][]int{nil, {0}, {1}, {0, 1}, {2}, {0, 5, 6, 9}, {6, 7, 8, 9}, {0, 0}, {-1}, {9, 12}} {
				for _, behind := range []int{0, 2, -9} {
					list := hold(lost, behind)
					checkMatrixMemory(t, pieces, behind, func(m [][]int) ([][]int, bool) {
						return impl.DecodePieces(x[0], x[1], m, list.list)
					})
					list.stays(t)
				}
			}
		}
	}
}

func TestPromise19UpdatedMemory(t *testing.T) {
	for _, pieces := range memoryPieces() {
		for _, x := range memoryCodes() {
			for _, k := range []int{-1, 0, 1, 5, 9} {
				for _, piece := range [][]int{nil, {3}, {1, 2, 3}, {1, 2, 3, 4}, make([]int, 32), {256}} {
					list := hold(piece, k)
					checkMatrixMemory(t, pieces, k, func(m [][]int) ([][]int, bool) {
						return impl.UpdatePiece(x[0], x[1], m, k, list.list)
					})
					list.stays(t)
				}
			}
		}
	}
}

// What is told by a number or by yes and no hangs on nothing behind a list, and writes nowhere.
func TestPromise19ToldOfPieces(t *testing.T) {
	for _, pieces := range memoryPieces() {
		for _, behind := range []int{0, 1, -9} {
			h := holdMatrix(pieces, behind)
			for _, x := range memoryCodes() {
				is, ok := impl.CheckPieces(x[0], x[1], h.rows)
				h.stays(t)
				if want, wantOk := impl.CheckPieces(x[0], x[1], slices.Clip(copyMatrix(pieces))); is != want || ok != wantOk {
					t.Fatal("reads behind", pieces, x)
				}
			}
			for _, other := range memoryPieces() {
				o := holdMatrix(other, behind)
				n, ok := impl.DistanceOf(h.rows, o.rows)
				h.stays(t)
				o.stays(t)
				if want, wantOk := impl.DistanceOf(slices.Clip(copyMatrix(pieces)), slices.Clip(copyMatrix(other))); n != want || ok != wantOk {
					t.Fatal("reads behind", pieces, other)
				}
			}
		}
	}
}

func TestPromise19ToldOfLost(t *testing.T) {
	for _, x := range append(memoryCodes(), notCodes()...) {
		for _, lost := range append(notLosts(3), nil, []int{0}, []int{0, 1}, []int{6, 7, 8, 9}) {
			for _, behind := range []int{0, 1, 9, -9} {
				list := hold(lost, behind)
				able, ok := impl.CanDecode(x[0], x[1], list.list)
				list.stays(t)
				if want, wantOk := impl.CanDecode(x[0], x[1], slices.Clip(slices.Clone(lost))); able != want || ok != wantOk {
					t.Fatal("reads behind", x, lost)
				}
			}
		}
	}
}

// One list may be handed in at several places, and pieces may share memory: the answers are those for copies.
func TestPromise19SharedPieces(t *testing.T) {
	whole := []int{0, 1, 2, 3, 4}
	row := []int{1, 2}
	for _, m := range [][][]int{{whole[0:2], whole[1:3], whole[2:4]}, {row, row, row}, {row, whole[1:3], row}} {
		apart := copyMatrix(m)
		for _, ask := range []func(m [][]int) ([][]int, bool){
			func(m [][]int) ([][]int, bool) { return impl.EncodePieces(m, 2) },
			func(m [][]int) ([][]int, bool) { return impl.DecodePieces(1, 2, m, m[0]) },
			func(m [][]int) ([][]int, bool) { return impl.DecodePieces(1, 2, m, []int{0, 2}) },
			func(m [][]int) ([][]int, bool) { return impl.UpdatePiece(2, 1, m, 0, m[1]) },
			func(m [][]int) ([][]int, bool) { return impl.UpdatePiece(2, 1, m, 1, m[1]) },
			func(m [][]int) ([][]int, bool) { n, ok := impl.DistanceOf(m, m); return [][]int{{n}}, ok && n == 0 },
		} {
			want, wantOk := ask(copyMatrix(apart))
			got, ok := ask(m)
			if !sameMatrix(got, want) || ok != wantOk || !ok || !sameMatrix(m, apart) {
				t.Error(m, got, ok, want, wantOk)
			}
			spoilRows(t, got)
			if !sameMatrix(m, apart) {
				t.Error("an answer shares memory", m)
			}
		}
	}
	if !slices.Equal(whole, []int{0, 1, 2, 3, 4}) || !slices.Equal(row, []int{1, 2}) {
		t.Error(whole, row)
	}
}
