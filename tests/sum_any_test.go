package tests

import (
	"bytes"
	"math"
	"strings"
	"testing"
	"unsafe"

	"loop.example/g00405/impl"
)

// anyNumbers has sums, lengths, places and bits, good and not.
func anyNumbers() []int {
	l := []int{0, 1, 2, 3, 4, 7, 8, 9, 31, 32, 33, 399, 400, 401, 3199, 3200, 3201, -1, -2, -400, math.MinInt, math.MinInt + 1, math.MaxInt, math.MaxInt - 1}
	return append(l, 1<<31, allOnes, allOnes-1, allOnes+1, 1<<33, 1<<61, 1<<62, -1<<62, impl.SumPoly)
}

func anyTexts() []string {
	return []string{"", "a", "\x00", "\xff", "ab", "\xe2\x82\xac", "\xc3", textOf(4, 1), textOf(50, 2), textOf(399, 3), textOf(400, 4), textOf(401, 5), strings.Repeat("\x00", 401), textOf(5000, 6)}
}

func isGoodSum(n int) bool {
	return n >= 0 && n <= allOnes
}

func TestPromise19SumsOfAnything(t *testing.T) {
	for _, s := range anyTexts() {
		sum, ok := impl.SumOf(s)
		if ok != (len(s) <= 400) || !ok && sum != 0 || !isGoodSum(sum) {
			t.Error("SumOf", len(s), sum, ok)
		}
		for _, on := range anyNumbers() {
			sum, ok := impl.SumOn(on, s)
			if ok != (len(s) <= 400 && isGoodSum(on)) || !ok && sum != 0 || !isGoodSum(sum) {
				t.Error("SumOn", on, len(s), sum, ok)
			}
		}
	}
}

func TestPromise19JoinedSumsOfAnything(t *testing.T) {
	for _, long := range anyNumbers() {
		good := long >= 0 && long <= 400
		if sum, ok := impl.ZeroSum(long); ok != good || !ok && sum != 0 || !isGoodSum(sum) {
			t.Error("ZeroSum", long, sum, ok)
		}
		for _, a := range anyNumbers() {
			for _, b := range anyNumbers() {
				sum, ok := impl.JoinSums(a, b, long)
				if ok != (good && isGoodSum(a) && isGoodSum(b)) || !ok && sum != 0 || !isGoodSum(sum) {
					t.Error("JoinSums", a, b, long, sum, ok)
				}
			}
		}
	}
}

func TestPromise19BurstsOfAnything(t *testing.T) {
	for _, s := range anyTexts() {
		for _, at := range anyNumbers() {
			for _, bits := range anyNumbers() {
				got, ok := impl.BurstAt(s, at, bits)
				good := len(s) <= 400 && at >= 0 && at < 8*len(s) && isGoodSum(bits)
				if ok != good || !ok && got != "" || ok && len(got) != len(s) {
					t.Error("BurstAt", len(s), at, bits, len(got), ok)
				}
			}
		}
	}
}

func TestPromise19PatchesOfAnything(t *testing.T) {
	for _, s := range anyTexts() {
		for _, at := range anyNumbers() {
			for _, with := range anyTexts() {
				got, sum, ok := impl.PatchSum(s, at, with)
				good := len(s) <= 400 && at >= 0 && at <= len(s) && len(with) <= len(s)-at
				if ok != good || !ok && (got != "" || sum != 0) || ok && len(got) != len(s) {
					t.Error("PatchSum", len(s), at, len(with), len(got), sum, ok)
				}
			}
		}
	}
}

// heldText is a text that lies in memory which can be looked at, with more behind it.
type heldText struct {
	text  string
	bytes []byte
	whole []byte
}

func holdText(s string, behind string) heldText {
	l := append([]byte(s), behind...)
	return heldText{unsafe.String(unsafe.SliceData(l), len(s)), l, bytes.Clone(l)}
}

func (h heldText) stays(t *testing.T) {
	t.Helper()
	if !bytes.Equal(h.bytes, h.whole) {
		t.Fatalf("written into %q %q", h.bytes, h.whole)
	}
}

// bytesOf has the text's own memory: it is looked at only.
func bytesOf(s string) []byte {
	return unsafe.Slice(unsafe.StringData(s), len(s))
}

// isNew asks that an answer has no byte in this memory.
func (h heldText) isNew(t *testing.T, answer string) {
	t.Helper()
	if len(answer) == 0 {
		return
	}
	first := uintptr(unsafe.Pointer(unsafe.StringData(answer)))
	from := uintptr(unsafe.Pointer(unsafe.SliceData(h.bytes)))
	if first < from+uintptr(len(h.bytes)) && from < first+uintptr(len(answer)) {
		t.Fatalf("shares memory %q", answer)
	}
}

func TestPromise19SummedMemory(t *testing.T) {
	for _, s := range anyTexts() {
		for _, behind := range []string{"\x00", "\xff\x01", textOf(9, 9)} {
			h := holdText(s, behind)
			for _, sum := range []int{0, 1, allOnes, -1} {
				want, wantOk := impl.SumOn(sum, strings.Clone(s))
				if got, ok := impl.SumOn(sum, h.text); got != want || ok != wantOk {
					t.Error(len(s), sum, got, ok)
				}
			}
			impl.SumOf(h.text)
			h.stays(t)
		}
	}
}

func TestPromise19BurstMemory(t *testing.T) {
	for _, s := range anyTexts() {
		h := holdText(s, "behind it")
		for _, at := range []int{-1, 0, 1, 8*len(s) - 33, 8*len(s) - 2, 8*len(s) - 1, 8 * len(s)} {
			for _, bits := range []int{0, 1, 1 << 31, allOnes, -1} {
				want, wantOk := impl.BurstAt(strings.Clone(s), at, bits)
				got, ok := impl.BurstAt(h.text, at, bits)
				if got != want || ok != wantOk {
					t.Error(len(s), at, bits, got, ok)
				}
				h.isNew(t, got)
				h.stays(t)
			}
		}
	}
}

func TestPromise19PatchMemory(t *testing.T) {
	for _, s := range anyTexts() {
		h := holdText(s, "behind it")
		for _, with := range anyTexts() {
			w := holdText(with, "behind that")
			for _, at := range []int{-1, 0, 1, len(s) - len(with), len(s), len(s) + 1} {
				want, wantSum, wantOk := impl.PatchSum(strings.Clone(s), at, strings.Clone(with))
				got, sum, ok := impl.PatchSum(h.text, at, w.text)
				if got != want || sum != wantSum || ok != wantOk {
					t.Error(len(s), at, len(with), sum, ok)
				}
				h.isNew(t, got)
				w.isNew(t, got)
				h.stays(t)
				w.stays(t)
			}
		}
	}
}
