package tests

import (
	"math"
	"math/bits"
	"slices"
	"testing"

	"loop.example/g00405/impl"
)

// eachCode goes through all good numbers of data and parity pieces.
func eachCode(do func(data int, parity int)) {
	for data := 1; data <= 6; data++ {
		for parity := 1; parity <= 4; parity++ {
			do(data, parity)
		}
	}
}

// notCodes has numbers of data and parity pieces of which at least one is outside its bounds.
func notCodes() [][2]int {
	l := [][2]int{{0, 0}, {-1, -1}, {7, 5}, {5, 6}, {math.MaxInt, math.MaxInt}, {math.MinInt, math.MinInt}, {math.MaxInt, 1}}
	for _, n := range []int{0, -1, 7, 8, 10, math.MinInt, math.MaxInt} {
		l = append(l, [2]int{n, 1}, [2]int{n, 4})
	}
	for _, n := range []int{0, -1, 5, 6, 10, math.MinInt, math.MaxInt} {
		l = append(l, [2]int{1, n}, [2]int{2, n}, [2]int{6, n})
	}
	return l
}

func slowCode(data int, parity int) [][]int {
	all := []int{0, 1, 2, 3, 4, 5, 6, 7, 8, 9}
	return append(slowIdentity(data), slowCauchy(all[:parity], all[parity:parity+data])...)
}

// slowEncode is the chapter's own sentence: place by place what each row tells of the data.
func slowEncode(data [][]int, parity int) [][]int {
	pieces := make([][]int, len(data)+parity)
	for i, row := range slowCode(len(data), parity) {
		for at := range data[0] {
			sum := 0
			for k, a := range row {
				sum ^= slowProduct(a, data[k][at])
			}
			pieces[i] = append(pieces[i], sum)
		}
	}
	return pieces
}

// bitsOf has the numbers of the bits that are set, rising.
func bitsOf(set int) []int {
	var l []int
	for k := range 64 {
		if set>>k&1 == 1 {
			l = append(l, k)
		}
	}
	return l
}

// withJunk writes what is no element into the pieces that are lost, or just other elements.
func withJunk(pieces [][]int, lost []int, junk int) [][]int {
	spoilt := copyMatrix(pieces)
	for _, k := range lost {
		for at := range spoilt[k] {
			spoilt[k][at] = junk
		}
	}
	return spoilt
}

// notAsLong has each way in which n pieces are not as long as each other, or too long.
func notAsLong(n int) [][][]int {
	l := [][][]int{matrixOf(n, 33, 1), matrixOf(n, 100, 2)}
	for at := range n {
		for _, long := range []int{0, 1, 3, 32} {
			longer := matrixOf(n, long, 3)
			longer[at] = append(longer[at], 1)
			if n > 1 || long == 32 {
				l = append(l, longer)
			}
			if long > 0 && n > 1 {
				shorter := matrixOf(n, long, 4)
				shorter[at] = shorter[at][:long-1]
				l = append(l, shorter)
			}
		}
	}
	return l
}

// withNoElement has n pieces with what is no element, in each of them, at the first and at the last place.
func withNoElement(n int, long int) [][][]int {
	var l [][][]int
	for at := range n {
		for _, a := range notElements() {
			first, last := matrixOf(n, long, 5), matrixOf(n, long, 6)
			first[at][0], last[at][long-1] = a, a
			l = append(l, first, last)
		}
	}
	return l
}

func notPieces(n int) [][][]int {
	return slices.Concat(notAsLong(n), withNoElement(n, 1), withNoElement(n, 4), withNoElement(n, 32))
}

func TestPromise3Constants(t *testing.T) {
	if impl.MaxData != 6 || impl.MaxParity != 4 || impl.MaxPiece != 32 {
		t.Error(impl.MaxData, impl.MaxParity, impl.MaxPiece)
	}
}

func TestPromise3CodeMatrices(t *testing.T) {
	eachCode(func(data int, parity int) {
		if m, ok := impl.CodeMatrix(data, parity); !ok || !sameMatrix(m, slowCode(data, parity)) {
			t.Error(data, parity, m, ok)
		}
	})
	if m, ok := impl.CodeMatrix(1, 1); !ok || !sameMatrix(m, [][]int{{1}, {1}}) {
		t.Error(m, ok)
	}
	if m, ok := impl.CodeMatrix(2, 1); !ok || !sameMatrix(m, [][]int{{1, 0}, {0, 1}, {1, 142}}) {
		t.Error(m, ok)
	}
	for _, x := range notCodes() {
		m, ok := impl.CodeMatrix(x[0], x[1])
		noRows(t, "CodeMatrix", m, ok)
	}
}

// Any so many rows as there are data can be solved: no determinant of theirs is 0.
func TestPromise3AnyRowsTellAll(t *testing.T) {
	eachCode(func(data int, parity int) {
		m, _ := impl.CodeMatrix(data, parity)
		for rows := range 1 << len(m) {
			if bits.OnesCount(uint(rows)) == data && determinant(subMatrix(m, rows, 1<<data-1)) == 0 {
				t.Error(data, parity, bitsOf(rows))
			}
		}
	})
}

func TestPromise3Encoding(t *testing.T) {
	eachCode(func(data int, parity int) {
		for _, long := range []int{0, 1, 2, 7, 31, 32} {
			pieces := matrixOf(data, long, data*31+parity*7+long)
			if got, ok := impl.EncodePieces(pieces, parity); !ok || !sameMatrix(got, slowEncode(pieces, parity)) {
				t.Error(pieces, parity, got, ok)
			}
		}
	})
	if got, ok := impl.EncodePieces([][]int{{255, 0}}, 1); !ok || !sameMatrix(got, [][]int{{255, 0}, {255, 0}}) {
		t.Error(got, ok)
	}
	if got, ok := impl.EncodePieces([][]int{{1, 0}, {2, 0}}, 1); !ok || !sameMatrix(got, [][]int{{1, 0}, {2, 0}, {0, 0}}) {
		t.Error(got, ok)
	}
}

func TestPromise3EncodingOfWhatIsNotAsSaid(t *testing.T) {
	for data := range 10 {
		for parity := -1; parity <= 7; parity++ {
			want := data >= 1 && data <= 6 && parity >= 1 && parity <= 4
			got, ok := impl.EncodePieces(matrixOf(data, 3, 1), parity)
			if ok != want || (len(got) > 0) != want {
				t.Error(data, parity, got, ok)
			}
		}
		for _, parity := range []int{math.MinInt, math.MaxInt} {
			got, ok := impl.EncodePieces(matrixOf(data, 3, 1), parity)
			noRows(t, "EncodePieces", got, ok)
		}
	}
	for data := 1; data <= 6; data++ {
		for _, bad := range notPieces(data) {
			got, ok := impl.EncodePieces(bad, 2)
			noRows(t, "EncodePieces", got, ok)
		}
	}
}

// All that may be lost is: none of the pieces, data pieces, parity pieces, both.
func TestPromise3AnySoManyPiecesTellAll(t *testing.T) {
	eachCode(func(data int, parity int) {
		for _, long := range []int{0, 1, 3} {
			checkAllLost(t, slowEncode(matrixOf(data, long, data*9+parity+long), parity), data, parity)
		}
	})
	checkAllLost(t, slowEncode(matrixOf(6, 32, 8), 4), 6, 4)
	checkAllLost(t, slowEncode(matrixOf(1, 32, 9), 1), 1, 1)
}

func checkAllLost(t *testing.T, pieces [][]int, data int, parity int) {
	t.Helper()
	for set := range 1 << len(pieces) {
		lost := bitsOf(set)
		spoilt := withJunk(pieces, lost, []int{0, 255, -1, 256, math.MinInt}[set%5])
		got, ok := impl.DecodePieces(data, parity, spoilt, lost)
		able, good := impl.CanDecode(data, parity, lost)
		if able != (len(lost) <= parity) || !good || ok != able {
			t.Fatal(data, parity, lost, able, good, ok)
		}
		if ok && !sameMatrix(got, pieces) || !ok && len(got) != 0 {
			t.Fatal(data, parity, lost, got, ok)
		}
	}
}

// Where the pieces do not belong together the first ones that are not lost count, and what they tell is encoded.
func TestPromise3TheFirstOnesThatAreNotLostCount(t *testing.T) {
	eachCode(func(data int, parity int) {
		pieces := matrixOf(data+parity, 4, data*11+parity)
		for set := range 1 << len(pieces) {
			lost := bitsOf(set)
			if len(lost) > parity {
				continue
			}
			got, ok := impl.DecodePieces(data, parity, pieces, lost)
			if !ok || !sameMatrix(got, slowEncode(got[:data], parity)) {
				t.Fatal(data, parity, lost, got, ok)
			}
			first := bitsOf(1<<len(pieces) - 1 - set)[:data]
			if !sameMatrix(inOrder(got, first), inOrder(pieces, first)) {
				t.Fatal(data, parity, lost, got)
			}
		}
	})
	got, ok := impl.DecodePieces(2, 1, [][]int{{9}, {1}, {77}}, nil)
	if !ok || !sameMatrix(got, [][]int{{9}, {1}, {9 ^ 142}}) {
		t.Error(got, ok)
	}
}

// notLosts has lists that are no rising numbers of n pieces.
func notLosts(n int) [][]int {
	l := [][]int{
		{-1}, {n}, {n + 1}, {math.MinInt}, {math.MaxInt}, {0, 0}, {n - 1, n - 1}, {1, 0}, {n - 1, 0}, {-1, 0}, {0, -1}, {0, n}, {n, 0},
		{0, 1, 1}, {1, 1, 2}, {0, 2, 1}, {0, 1, math.MaxInt}, {math.MinInt, 0, 1}, slices.Repeat([]int{0}, n+1),
	}
	all := bitsOf(1<<n - 1)
	return append(l, append(slices.Clone(all), n), append(slices.Clone(all), n-1), append([]int{-1}, all...))
}

func TestPromise3WhatCanBeDecoded(t *testing.T) {
	eachCode(func(data int, parity int) {
		for _, lost := range notLosts(data + parity) {
			if able, ok := impl.CanDecode(data, parity, lost); able || ok {
				t.Error(data, parity, lost, able, ok)
			}
			got, ok := impl.DecodePieces(data, parity, matrixOf(data+parity, 2, 1), lost)
			noRows(t, "DecodePieces", got, ok)
		}
	})
	for _, x := range notCodes() {
		for _, lost := range [][]int{nil, {}, {0}, {0, 1}} {
			if able, ok := impl.CanDecode(x[0], x[1], lost); able || ok {
				t.Error(x, lost, able, ok)
			}
		}
	}
}

func TestPromise3DecodingOfWhatIsNotAsSaid(t *testing.T) {
	eachCode(func(data int, parity int) {
		for n := range 14 {
			got, ok := impl.DecodePieces(data, parity, matrixOf(n, 2, 3), []int{data})
			if ok != (n == data+parity) || (len(got) > 0) != ok {
				t.Error(data, parity, n, got, ok)
			}
		}
	})
	for _, x := range [][2]int{{1, 1}, {2, 1}, {2, 2}, {6, 4}} {
		n := x[0] + x[1]
		for _, bad := range notAsLong(n) {
			for _, lost := range [][]int{nil, {0}, {n - 1}} {
				got, ok := impl.DecodePieces(x[0], x[1], bad, lost)
				noRows(t, "DecodePieces", got, ok)
			}
		}
	}
	for _, x := range notCodes() {
		for n := range 14 {
			got, ok := impl.DecodePieces(x[0], x[1], matrixOf(n, 2, 3), nil)
			noRows(t, "DecodePieces", got, ok)
		}
	}
}

// What is no element matters in each piece that is not lost, also in one that is not needed.
func TestPromise3WhatIsNoElementMattersWhereItIsNotLost(t *testing.T) {
	eachCode(func(data int, parity int) {
		whole := slowEncode(matrixOf(data, 3, 6), parity)
		for set := range 1 << (data + parity) {
			lost := bitsOf(set)
			if len(lost) > parity {
				continue
			}
			for at := range data + parity {
				for _, a := range []int{-1, 256} {
					pieces := copyMatrix(whole)
					pieces[at][set%3] = a
					got, ok := impl.DecodePieces(data, parity, pieces, lost)
					if ok != slices.Contains(lost, at) || ok && !sameMatrix(got, whole) || !ok && len(got) != 0 {
						t.Fatal(data, parity, lost, at, got, ok)
					}
				}
			}
		}
	})
}

func TestPromise3Checks(t *testing.T) {
	eachCode(func(data int, parity int) {
		for _, long := range []int{0, 1, 5, 32} {
			pieces := slowEncode(matrixOf(data, long, data+parity*5+long), parity)
			if is, ok := impl.CheckPieces(data, parity, pieces); !is || !ok {
				t.Error(pieces, is, ok)
			}
			for i := range pieces {
				for at := range long {
					for _, change := range []int{1, 128, 255} {
						other := copyMatrix(pieces)
						other[i][at] ^= change
						if is, ok := impl.CheckPieces(data, parity, other); is || !ok {
							t.Error(other, is, ok)
						}
					}
				}
			}
		}
	})
}

func TestPromise3ChecksOfWhatIsNotAsSaid(t *testing.T) {
	eachCode(func(data int, parity int) {
		for n := range 14 {
			noughts := make([][]int, n)
			if is, ok := impl.CheckPieces(data, parity, noughts); ok != (n == data+parity) || is != ok {
				t.Error(data, parity, n, is, ok)
			}
		}
	})
	for _, x := range [][2]int{{1, 1}, {2, 1}, {6, 4}} {
		for _, bad := range notPieces(x[0] + x[1]) {
			if is, ok := impl.CheckPieces(x[0], x[1], bad); is || ok {
				t.Error(x, bad, is, ok)
			}
		}
	}
	for _, x := range notCodes() {
		for n := range 14 {
			if is, ok := impl.CheckPieces(x[0], x[1], make([][]int, n)); is || ok {
				t.Error(x, n, is, ok)
			}
		}
	}
}

func TestPromise3UpdatesOfACode(t *testing.T) {
	eachCode(func(data int, parity int) {
		for _, long := range []int{0, 1, 5, 32} {
			parts := matrixOf(data, long, data*3+parity+long)
			whole := slowEncode(parts, parity)
			for k := range data {
				for _, piece := range [][]int{matrixOf(1, long, k+50)[0], make([]int, long), parts[k], parts[data-1]} {
					changed := copyMatrix(parts)
					changed[k] = piece
					got, ok := impl.UpdatePiece(data, parity, whole, k, piece)
					if !ok || !sameMatrix(got, slowEncode(changed, parity)) {
						t.Fatal(parts, k, piece, got, ok)
					}
				}
			}
		}
	})
}

func TestPromise3UpdatesOfOnePlace(t *testing.T) {
	whole := slowEncode(matrixOf(6, 32, 2), 4)
	for k := range 6 {
		for _, at := range []int{0, 1, 31} {
			piece := slices.Clone(whole[k])
			piece[at] ^= 200
			got, ok := impl.UpdatePiece(6, 4, whole, k, piece)
			changed := copyMatrix(whole[:6])
			changed[k] = piece
			if !ok || !sameMatrix(got, slowEncode(changed, 4)) {
				t.Error(k, at, got, ok)
			}
			if n, ok := impl.DistanceOf(whole, got); n != 5 || !ok {
				t.Error(k, at, n, ok)
			}
		}
	}
}

// Parity pieces that did not belong to the data change by the difference all the same.
func TestPromise3UpdatesOfWhatIsNoCode(t *testing.T) {
	eachCode(func(data int, parity int) {
		pieces := matrixOf(data+parity, 3, data*17+parity)
		code := slowCode(data, parity)
		for k := range data {
			piece := matrixOf(1, 3, k+70)[0]
			want := copyMatrix(pieces)
			want[k] = piece
			for i := data; i < data+parity; i++ {
				for at := range piece {
					want[i][at] ^= slowProduct(code[i][k], piece[at]^pieces[k][at])
				}
			}
			if got, ok := impl.UpdatePiece(data, parity, pieces, k, piece); !ok || !sameMatrix(got, want) {
				t.Fatal(pieces, k, piece, got, ok)
			}
			if got, ok := impl.UpdatePiece(data, parity, pieces, k, pieces[k]); !ok || !sameMatrix(got, pieces) {
				t.Fatal("by the same one", pieces, k, got, ok)
			}
		}
	})
}

func TestPromise3UpdatesOfWhatIsNotAsSaid(t *testing.T) {
	eachCode(func(data int, parity int) {
		n := data + parity
		pieces := matrixOf(n, 4, 7)
		for _, k := range []int{-1, data, n - 1, n, math.MinInt, math.MaxInt} {
			got, ok := impl.UpdatePiece(data, parity, pieces, k, pieces[0])
			noRows(t, "UpdatePiece", got, ok)
		}
		for _, piece := range [][]int{nil, {}, {1}, {1, 2, 3}, {1, 2, 3, 4, 5}, make([]int, 32), make([]int, 33)} {
			got, ok := impl.UpdatePiece(data, parity, pieces, data-1, piece)
			noRows(t, "UpdatePiece", got, ok)
		}
		for _, bad := range withNoElement(1, 4) {
			got, ok := impl.UpdatePiece(data, parity, pieces, 0, bad[0])
			noRows(t, "UpdatePiece", got, ok)
		}
		for many := range 14 {
			got, ok := impl.UpdatePiece(data, parity, matrixOf(many, 4, 7), 0, []int{1, 2, 3, 4})
			if ok != (many == n) || (len(got) > 0) != ok {
				t.Error(data, parity, many, got, ok)
			}
		}
	})
}

func TestPromise3UpdatesOfNoPieces(t *testing.T) {
	for _, x := range [][2]int{{1, 1}, {2, 1}, {6, 4}} {
		for _, bad := range notPieces(x[0] + x[1]) {
			for _, piece := range [][]int{bad[0], bad[len(bad)-1], make([]int, len(bad[0]))} {
				got, ok := impl.UpdatePiece(x[0], x[1], bad, 0, piece)
				noRows(t, "UpdatePiece", got, ok)
			}
		}
	}
	for _, x := range notCodes() {
		for n := range 14 {
			got, ok := impl.UpdatePiece(x[0], x[1], make([][]int, n), 0, nil)
			noRows(t, "UpdatePiece", got, ok)
		}
	}
}

func TestPromise3Distances(t *testing.T) {
	for n := range 11 {
		for _, long := range []int{1, 3, 32} {
			a := matrixOf(n, long, n+long)
			for set := range 1 << n {
				b := copyMatrix(a)
				for _, k := range bitsOf(set) {
					b[k][[]int{0, long - 1, long / 2}[set%3]] ^= 1 + set%255
				}
				if got, ok := impl.DistanceOf(a, b); got != bits.OnesCount(uint(set)) || !ok {
					t.Fatal(a, b, got, ok)
				}
			}
		}
		for _, none := range [][][]int{make([][]int, n), matrixOf(n, 0, 1)} {
			if got, ok := impl.DistanceOf(none, make([][]int, n)); got != 0 || !ok {
				t.Error(n, got, ok)
			}
		}
	}
	if got, ok := impl.DistanceOf([][]int{{1}, {2}}, [][]int{{2}, {1}}); got != 2 || !ok {
		t.Error("place by place", got, ok)
	}
}

func TestPromise3DistancesOfWhatIsNotAsSaid(t *testing.T) {
	for n := range 14 {
		for m := range 14 {
			want := n == m && n <= 10
			if got, ok := impl.DistanceOf(matrixOf(n, 2, 1), matrixOf(m, 2, 1)); got != 0 || ok != want {
				t.Error(n, m, got, ok)
			}
		}
	}
	for n := 1; n <= 10; n++ {
		for _, bad := range notPieces(n) {
			for _, other := range [][][]int{bad, matrixOf(n, len(bad[0]), 1), matrixOf(n, 4, 1)} {
				got, ok := impl.DistanceOf(bad, other)
				isZero(t, "DistanceOf", got, ok)
				got, ok = impl.DistanceOf(other, bad)
				isZero(t, "DistanceOf", got, ok)
			}
		}
		for _, x := range [][2]int{{0, 1}, {1, 0}, {1, 2}, {32, 31}, {32, 33}} {
			got, ok := impl.DistanceOf(noughtPieces(n, x[0]), noughtPieces(n, x[1]))
			isZero(t, "DistanceOf", got, ok)
		}
	}
}

// noughtPieces has n pieces of noughts.
func noughtPieces(n int, long int) [][]int {
	pieces := make([][]int, n)
	for k := range pieces {
		pieces[k] = make([]int, long)
	}
	return pieces
}

// Unlike data have codes that are unlike in more pieces than there are parity ones: here all pairs of two elements.
func TestPromise3SingletonForAllPairs(t *testing.T) {
	none, _ := impl.EncodePieces([][]int{{0}, {0}}, 3)
	least := 5
	for a := range 256 {
		for b := range 256 {
			if a == 0 && b == 0 {
				continue
			}
			code, ok := impl.EncodePieces([][]int{{a}, {b}}, 3)
			n, good := impl.DistanceOf(none, code)
			if !ok || !good || n <= 3 {
				t.Fatal(a, b, code, n)
			}
			least = min(least, n)
		}
	}
	if least != 4 {
		t.Error("one data piece alone changes itself and the parity ones", least)
	}
}

func TestPromise3Singleton(t *testing.T) {
	eachCode(func(data int, parity int) {
		for seed := range 40 {
			a, b := matrixOf(data, 2, seed), matrixOf(data, 2, seed)
			for k := range data {
				if (seed+1)>>k&1 == 1 {
					b[k][seed%2] ^= 1 + seed*6
				}
			}
			same := sameMatrix(a, b)
			x, _ := impl.EncodePieces(a, parity)
			y, _ := impl.EncodePieces(b, parity)
			n, ok := impl.DistanceOf(x, y)
			if !ok || same != (n == 0) || !same && n <= parity {
				t.Error(data, parity, a, b, n, ok)
			}
		}
	})
}
