package tests

import (
	"encoding/binary"
	"hash/crc32"
	"math"
	"strings"
	"testing"

	"loop.example/g00405/impl"
)

const allOnes = 4294967295

// trueSum tells the sum as the library does; it is not bound to any length.
func trueSum(s string) int {
	return trueSumOn(0, s)
}

func trueSumOn(sum int, s string) int {
	return int(crc32.Update(uint32(sum), crc32.MakeTable(crc32.Castagnoli), []byte(s)))
}

// slowSumOn divides as on paper: all bits in their order, the turned ones of the sum laid over the first 32, less the multiples of the rule, till 32 are left.
func slowSumOn(sum int, s string) int {
	l := append(slowBits(s), make([]int, 32)...)
	for k := range 32 {
		l[k] ^= sum>>k&1 ^ 1
	}
	for at := range 8 * len(s) {
		if l[at] == 0 {
			continue
		}
		l[at] = 0
		for k := range 32 {
			l[at+1+k] ^= impl.SumPoly >> k & 1
		}
	}
	rest := 0
	for k, bit := range l[8*len(s):] {
		rest |= (bit ^ 1) << k
	}
	return rest
}

// slowBits has the bits of a text, of each byte the lowest first.
func slowBits(s string) []int {
	l := make([]int, 8*len(s))
	for k := range l {
		l[k] = int(s[k/8]) >> (k % 8) & 1
	}
	return l
}

func textOfBits(l []int) string {
	s := make([]byte, len(l)/8)
	for k, bit := range l {
		s[k/8] |= byte(bit << (k % 8))
	}
	return string(s)
}

// textOf has n bytes of all kinds.
func textOf(n int, seed int) string {
	s := make([]byte, n)
	for k := range s {
		seed = (seed*1103515245 + 12345) % 2147483648
		s[k] = byte(seed / 65536)
	}
	return string(s)
}

// textsOf has texts of n bytes: all 0, all 1, one bit at either end, and others.
func textsOf(n int) []string {
	l := []string{strings.Repeat("\x00", n), strings.Repeat("\xff", n), strings.Repeat("a", n), textOf(n, n), textOf(n, n+1000)}
	if n > 0 {
		l = append(l, "\x01"+strings.Repeat("\x00", n-1), strings.Repeat("\x00", n-1)+"\x80")
	}
	return l
}

// fourBytesFor goes back through the 32 steps: four bytes can bring any sum.
func fourBytesFor(sum int) string {
	rest := uint32(sum) ^ allOnes
	for range 32 {
		if rest>>31 == 1 {
			rest = (rest^impl.SumPoly)<<1 | 1
		} else {
			rest <<= 1
		}
	}
	return string(binary.LittleEndian.AppendUint32(nil, rest^allOnes))
}

func someSums() []int {
	return []int{0, 1, 2, 255, 256, 1 << 31, 1<<31 - 1, 1<<31 + 1, impl.SumPoly, 3808858755, allOnes - 1, allOnes}
}

func notSums() []int {
	return []int{-1, -2, -allOnes, -allOnes - 1, allOnes + 1, allOnes + 2, 1 << 33, 1 << 40, math.MinInt, math.MinInt + 1, math.MaxInt, math.MaxInt - 1}
}

// notSummed has numbers of bytes that are too few or too many.
func notSummed() []int {
	return []int{-1, -400, 401, 402, 800, 1 << 32, 1<<32 + 5, math.MinInt, math.MaxInt}
}

func someLengths() []int {
	return []int{0, 1, 2, 3, 4, 5, 7, 8, 9, 31, 32, 33, 255, 256, 257, 399, 400}
}

func TestPromise5Constants(t *testing.T) {
	if impl.SumPoly != 2197175160 || impl.MaxSummed != 400 {
		t.Error(impl.SumPoly, impl.MaxSummed)
	}
}

func TestPromise5KnownSums(t *testing.T) {
	for _, x := range []struct {
		text string
		sum  int
	}{
		{"", 0}, {"123456789", 0xE3069283}, {"a", 0xC1D04330}, {"\x00", 0x527D5351}, {"\xff", 0xFF000000}, {"\xff\xff\xff\xff", allOnes},
		{strings.Repeat("\x00", 32), 0x8A9136AA}, {strings.Repeat("\xff", 32), 0x62A8AB43},
	} {
		if sum, ok := impl.SumOf(x.text); sum != x.sum || !ok {
			t.Errorf("%q %x %v", x.text, sum, ok)
		}
	}
}

func checkSumOn(t *testing.T, sum int, s string) {
	t.Helper()
	if got, ok := impl.SumOn(sum, s); got != trueSumOn(sum, s) || !ok {
		t.Errorf("%x %q %x %v", sum, s, got, ok)
	}
}

func TestPromise5SumsOfAllLengths(t *testing.T) {
	for n := range 401 {
		for _, s := range textsOf(n) {
			if sum, ok := impl.SumOf(s); sum != trueSum(s) || !ok {
				t.Errorf("%q %x %v", s, sum, ok)
			}
		}
	}
	for _, n := range someLengths() {
		for _, s := range textsOf(n) {
			if sum, ok := impl.SumOf(s); sum != slowSumOn(0, s) || !ok {
				t.Errorf("%q %x %v", s, sum, ok)
			}
		}
	}
}

func TestPromise5SumsOfAllPairsOfBytes(t *testing.T) {
	for a := range 256 {
		checkSumOn(t, 0, string([]byte{byte(a)}))
		for b := range 256 {
			checkSumOn(t, 0, string([]byte{byte(a), byte(b)}))
		}
	}
}

func TestPromise5SumsOnAnySum(t *testing.T) {
	for _, sum := range someSums() {
		for _, n := range someLengths() {
			for _, s := range textsOf(n) {
				checkSumOn(t, sum, s)
				if got, ok := impl.SumOn(sum, s); got != slowSumOn(sum, s) || !ok {
					t.Errorf("%x %q %x %v", sum, s, got, ok)
				}
			}
		}
		for a := range 256 {
			checkSumOn(t, sum, string([]byte{byte(a)}))
		}
	}
}

// Bits that are turned at one end alone would tell another sum where there is nothing to sum.
func TestPromise5SumsOnNoByte(t *testing.T) {
	for _, sum := range someSums() {
		if got, ok := impl.SumOn(sum, ""); got != sum || !ok {
			t.Errorf("%x %x %v", sum, got, ok)
		}
	}
}

func TestPromise5AnySumIsBrought(t *testing.T) {
	for _, want := range someSums() {
		s := fourBytesFor(want)
		if sum, ok := impl.SumOf(s); sum != want || !ok {
			t.Errorf("%x %q %x %v", want, s, sum, ok)
		}
	}
}

func TestPromise5SumsGoOn(t *testing.T) {
	for _, n := range someLengths() {
		s := textOf(n, 3)
		for at := range n + 1 {
			first, _ := impl.SumOf(s[:at])
			if sum, ok := impl.SumOn(first, s[at:]); sum != trueSum(s) || !ok {
				t.Errorf("%q %d %x %v", s, at, sum, ok)
			}
		}
	}
}

func TestPromise5SumsOfTooManyBytes(t *testing.T) {
	for _, n := range []int{401, 402, 500, 800, 100000} {
		for _, s := range textsOf(n) {
			sum, ok := impl.SumOf(s)
			isZero(t, "SumOf", sum, ok, n)
			for _, on := range someSums() {
				sum, ok = impl.SumOn(on, s)
				isZero(t, "SumOn", sum, ok, on, n)
			}
		}
	}
}

func TestPromise5SumsOnWhatIsNoSum(t *testing.T) {
	for _, bad := range notSums() {
		for _, n := range append(someLengths(), 401) {
			sum, ok := impl.SumOn(bad, textOf(n, 1))
			isZero(t, "SumOn", sum, ok, bad, n)
		}
	}
}

func TestPromise5ZeroSums(t *testing.T) {
	for n := range 401 {
		if sum, ok := impl.ZeroSum(n); sum != trueSum(string(make([]byte, n))) || !ok {
			t.Errorf("%d %x %v", n, sum, ok)
		}
	}
	for _, n := range notSummed() {
		sum, ok := impl.ZeroSum(n)
		isZero(t, "ZeroSum", sum, ok, n)
	}
}

func checkJoin(t *testing.T, first string, second string) {
	t.Helper()
	want := trueSum(first + second)
	if sum, ok := impl.JoinSums(trueSum(first), trueSum(second), len(second)); sum != want || !ok {
		t.Errorf("%q %q %x %v", first, second, sum, ok)
	}
}

func TestPromise5JoinedSumsOfAllCuts(t *testing.T) {
	for _, n := range []int{0, 1, 2, 9, 64, 400} {
		for _, s := range textsOf(n) {
			for at := range n + 1 {
				checkJoin(t, s[:at], s[at:])
			}
		}
	}
}

// The first text's length does not matter: both together may have more than MaxSummed bytes.
func TestPromise5JoinedSums(t *testing.T) {
	for _, n := range someLengths() {
		for long := range 401 {
			checkJoin(t, textOf(n, 5), textOf(long, 6))
		}
		for _, long := range someLengths() {
			for _, first := range textsOf(n) {
				for _, second := range textsOf(long) {
					checkJoin(t, first, second)
				}
			}
		}
	}
}

func TestPromise5JoinedSumsOfAllBits(t *testing.T) {
	for _, a := range someSums() {
		for _, b := range someSums() {
			checkJoin(t, fourBytesFor(a), fourBytesFor(b))
		}
		if sum, ok := impl.JoinSums(a, 0, 0); sum != a || !ok {
			t.Errorf("%x %x %v", a, sum, ok)
		}
		checkJoin(t, fourBytesFor(a), strings.Repeat("\x00", 400))
		if sum, ok := impl.JoinSums(a, trueSum(textOf(400, 7)), 400); sum != trueSumOn(a, textOf(400, 7)) || !ok {
			t.Errorf("%x %x %v", a, sum, ok)
		}
	}
}

func TestPromise5JoinedSumsOfThree(t *testing.T) {
	for _, n := range someLengths() {
		a, b, c := textOf(n, 1), textOf(n/2, 2), textOf(n/3, 3)
		ab, _ := impl.JoinSums(trueSum(a), trueSum(b), len(b))
		bc, _ := impl.JoinSums(trueSum(b), trueSum(c), len(c))
		left, leftOk := impl.JoinSums(ab, trueSum(c), len(c))
		if left != trueSum(a+b+c) || !leftOk {
			t.Error(n, left, leftOk)
		}
		if len(b)+len(c) > 400 {
			continue
		}
		if right, ok := impl.JoinSums(trueSum(a), bc, len(b)+len(c)); right != left || !ok {
			t.Error(n, left, right, ok)
		}
	}
}

func TestPromise5JoinedSumsOfWhatIsNotAsSaid(t *testing.T) {
	for _, bad := range notSums() {
		for _, other := range append(someSums(), notSums()...) {
			for _, long := range []int{0, 1, 5, 400, 401, -1} {
				sum, ok := impl.JoinSums(bad, other, long)
				isZero(t, "JoinSums", sum, ok, bad, other, long)
				sum, ok = impl.JoinSums(other, bad, long)
				isZero(t, "JoinSums", sum, ok, other, bad, long)
			}
		}
	}
	for _, long := range notSummed() {
		for _, a := range someSums() {
			for _, b := range someSums() {
				sum, ok := impl.JoinSums(a, b, long)
				isZero(t, "JoinSums", sum, ok, a, b, long)
			}
		}
	}
}
