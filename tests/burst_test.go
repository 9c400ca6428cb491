package tests

import (
	"math"
	"strings"
	"testing"

	"loop.example/g00405/impl"
)

func slowBurst(s string, at int, bits int) string {
	l := slowBits(s)
	for k := range 32 {
		if at+k < len(l) {
			l[at+k] ^= bits >> k & 1
		}
	}
	return textOfBits(l)
}

// somePatterns has numbers of 32 bits: none, each alone, all up to one, and others.
func somePatterns() []int {
	l := []int{0, allOnes, allOnes - 1, 1<<31 + 1, 0xAAAAAAAA, 0x55555555, 0xDEADBEEF, impl.SumPoly, impl.SumPoly/2 + 1<<31, 0x80000000 + impl.SumPoly/4}
	for k := range 32 {
		l = append(l, 1<<k, 1<<k-1, allOnes-1<<k)
	}
	return l
}

func checkBurst(t *testing.T, s string, at int, bits int) {
	t.Helper()
	got, ok := impl.BurstAt(s, at, bits)
	if got != slowBurst(s, at, bits) || !ok {
		t.Errorf("%q %d %x %q %v", s, at, bits, got, ok)
	}
	if got != s {
		checkSumIsAnother(t, s, got)
	}
	if back, ok := impl.BurstAt(got, at, bits); back != s || !ok {
		t.Errorf("not undone: %q %d %x %q %v", s, at, bits, back, ok)
	}
}

func checkSumIsAnother(t *testing.T, s string, changed string) {
	t.Helper()
	was, wasOk := impl.SumOf(s)
	is, isOk := impl.SumOf(changed)
	if was == is || !wasOk || !isOk {
		t.Errorf("%q %q %x %x", s, changed, was, is)
	}
}

func TestPromise5KnownBursts(t *testing.T) {
	for _, x := range []struct {
		text string
		at   int
		bits int
		want string
	}{
		{"aa", 7, 3, "\xe1\x60"},
		{"a", 0, 1, "`"},
		{"a", 7, allOnes, "\xe1"},
		{"a", 7, 2, "a"},
		{"a", 0, 256, "a"},
		{"a", 0, 0, "a"},
		{"\x00\x00\x00\x00\x00", 0, allOnes, "\xff\xff\xff\xff\x00"},
		{"\x00\x00\x00\x00\x00", 4, allOnes, "\xf0\xff\xff\xff\x0f"},
		{"\x00\x00\x00\x00\x00", 8, allOnes, "\x00\xff\xff\xff\xff"},
		{"\x00\x00\x00\x00\x00", 9, allOnes, "\x00\xfe\xff\xff\xff"},
		{"\x00\x00\x00\x00\x00", 0, 1 << 31, "\x00\x00\x00\x80\x00"},
		{"\x00\x00", 1, 0x0104, "\x08\x02"},
	} {
		if s, ok := impl.BurstAt(x.text, x.at, x.bits); s != x.want || !ok {
			t.Errorf("%q %d %x %q %v", x.text, x.at, x.bits, s, ok)
		}
	}
}

func TestPromise5BurstsAtAllBits(t *testing.T) {
	for _, n := range []int{1, 2, 3, 4, 5, 6, 9} {
		for _, s := range textsOf(n) {
			for at := range 8 * n {
				for _, bits := range somePatterns() {
					checkBurst(t, s, at, bits)
				}
			}
		}
	}
}

func TestPromise5BurstsOfManyBytes(t *testing.T) {
	for _, n := range []int{32, 256, 399, 400} {
		s := textOf(n, n)
		for _, at := range []int{0, 1, 7, 8, 100, 4 * n, 8*n - 64, 8*n - 33, 8*n - 32, 8*n - 31, 8*n - 9, 8*n - 8, 8*n - 7, 8*n - 2, 8*n - 1} {
			for _, bits := range somePatterns() {
				checkBurst(t, s, at, bits)
			}
		}
	}
}

// independent tells whether no sum of some of the numbers, bit for bit unlike, is 0.
func independent(l []int) bool {
	heads := map[int]int{}
	for _, n := range l {
		for bit := 31; bit >= 0 && n != 0; bit-- {
			if n>>bit&1 == 0 {
				continue
			}
			if heads[bit] == 0 {
				heads[bit] = n
				break
			}
			n ^= heads[bit]
		}
		if n == 0 {
			return false
		}
	}
	return true
}

// A change of several bits changes the sum by what each of them does alone: where what 32 neighbours do is independent, no burst of these is left out.
func TestPromise5NoBurstLeavesTheSum(t *testing.T) {
	for _, n := range []int{1, 2, 4, 5, 9, 50, 400} {
		s := textOf(n, 11)
		changes := make([]int, 8*n)
		for at := range changes {
			changed, _ := impl.BurstAt(s, at, 1)
			sum, ok := impl.SumOf(changed)
			if changed != slowBurst(s, at, 1) || !ok {
				t.Fatal(n, at, ok)
			}
			changes[at] = sum ^ trueSum(s)
		}
		for at := range changes {
			if !independent(changes[at:min(at+32, len(changes))]) {
				t.Error(n, at)
			}
			checkChangesAdd(t, s, at, changes)
		}
	}
}

func checkChangesAdd(t *testing.T, s string, at int, changes []int) {
	t.Helper()
	for _, bits := range []int{allOnes, 0xDEADBEEF, (at*2654435761 + 1) % (1 << 32)} {
		want := trueSum(s)
		for _, k := range bitsOf(bits) {
			if at+k < len(changes) {
				want ^= changes[at+k]
			}
		}
		changed, _ := impl.BurstAt(s, at, bits)
		if sum, ok := impl.SumOf(changed); sum != want || !ok {
			t.Errorf("%q %d %x %x %v", s, at, bits, sum, ok)
		}
	}
}

func refusedBurst(t *testing.T, s string, at int, bits int) {
	t.Helper()
	if got, ok := impl.BurstAt(s, at, bits); got != "" || ok {
		t.Errorf("%q %d %x %q %v", s, at, bits, got, ok)
	}
}

func TestPromise5BurstsAtNoBit(t *testing.T) {
	for _, n := range someLengths() {
		for _, bits := range []int{0, 1, 255, 1 << 31, allOnes} {
			for _, at := range []int{-1, -2, -8, -8 * n, 8 * n, 8*n + 1, 8*n + 8, 3200, 3201, 1 << 32, math.MinInt, math.MinInt + 1, math.MaxInt, math.MaxInt - 7} {
				if at < 0 || at >= 8*n {
					refusedBurst(t, textOf(n, 1), at, bits)
				}
			}
		}
	}
}

func TestPromise5BurstsOfMoreBits(t *testing.T) {
	for _, bits := range notSums() {
		for _, n := range someLengths() {
			for _, at := range []int{-1, 0, 1, 7, 8*n - 1, 8 * n} {
				refusedBurst(t, textOf(n, 1), at, bits)
			}
		}
	}
}

// A burst beyond what can be summed could not be told.
func TestPromise5BurstsInTooManyBytes(t *testing.T) {
	for _, n := range []int{401, 402, 1000} {
		for _, at := range []int{0, 1, 3199, 3200, 8*n - 1} {
			for _, bits := range []int{0, 1, allOnes} {
				refusedBurst(t, textOf(n, 1), at, bits)
			}
		}
	}
}

func checkPatch(t *testing.T, s string, at int, with string) {
	t.Helper()
	want := s[:at] + with + s[at+len(with):]
	if got, sum, ok := impl.PatchSum(s, at, with); got != want || sum != trueSum(want) || !ok {
		t.Errorf("%q %d %q %q %x %v", s, at, with, got, sum, ok)
	}
}

func TestPromise5Patches(t *testing.T) {
	for _, n := range []int{0, 1, 2, 3, 5, 12} {
		for _, s := range textsOf(n) {
			for at := range n + 1 {
				for long := range n - at + 1 {
					for _, with := range textsOf(long) {
						checkPatch(t, s, at, with)
					}
				}
			}
		}
	}
}

func TestPromise5PatchesOfManyBytes(t *testing.T) {
	for _, n := range []int{255, 399, 400} {
		s := textOf(n, n)
		for at := range n + 1 {
			for _, long := range []int{0, 1, (n - at) / 2, n - at - 1, n - at} {
				if long >= 0 && long <= n-at {
					checkPatch(t, s, at, textOf(long, at))
				}
			}
		}
	}
}

func TestPromise5PatchesThatAreBursts(t *testing.T) {
	s := textOf(60, 4)
	for at := range len(s) - 3 {
		for _, bits := range []int{1, 1 << 31, 0x01020304, allOnes} {
			changed, _ := impl.BurstAt(s, 8*at, bits)
			got, sum, ok := impl.PatchSum(s, at, changed[at:at+4])
			if got != changed || sum != trueSum(changed) || sum == trueSum(s) || !ok {
				t.Errorf("%d %x %q %x %v", at, bits, got, sum, ok)
			}
		}
	}
}

func refusedPatch(t *testing.T, s string, at int, with string) {
	t.Helper()
	if got, sum, ok := impl.PatchSum(s, at, with); got != "" || sum != 0 || ok {
		t.Errorf("%q %d %q %q %x %v", s, at, with, got, sum, ok)
	}
}

func TestPromise5PatchesThatDoNotFit(t *testing.T) {
	for _, n := range someLengths() {
		s := textOf(n, 2)
		for _, long := range []int{0, 1, 2, n, n + 1, n + 2, 400, 401, 1000} {
			for _, at := range []int{-1, -2, -n - 1, -long - 1, 0, 1, n - long + 1, n - long + 2, n, n + 1, n + 2, math.MinInt, math.MinInt + long, math.MaxInt, math.MaxInt - long + 1, math.MaxInt - long} {
				if at < 0 || at > n || long > n-at {
					refusedPatch(t, s, at, textOf(long, 3))
				}
			}
		}
	}
}

func TestPromise5PatchesInTooManyBytes(t *testing.T) {
	for _, n := range []int{401, 402, 1000} {
		for _, at := range []int{0, 1, 200, 400, n - 1, n} {
			for _, with := range []string{"", "x", "xy", strings.Repeat("z", 400), strings.Repeat("z", 401), strings.Repeat("z", n)} {
				refusedPatch(t, textOf(n, 2), at, with)
			}
		}
	}
}
