package tests

import (
	"math/bits"
	"slices"
	"testing"

	"loop.example/g00405/impl"
)

const allFilterBits = 1<<64 - 1

// keyBitsEnd is where the bits end that keys have.
const keyBitsEnd = 61

// maskedFilter is a good one with the bits of a number, the lowest first.
func maskedFilter(mask uint64) impl.Filter {
	f := impl.Filter{Bits: make([]bool, 64)}
	for n := range f.Bits {
		f.Bits[n] = mask>>n&1 == 1
	}
	return f
}

func filterWith(numbers ...int) impl.Filter {
	f := maskedFilter(0)
	for _, n := range numbers {
		f.Bits[n] = true
	}
	return f
}

// maskIn takes a good filter.
func maskIn(f impl.Filter) uint64 {
	mask := uint64(0)
	for n, is := range f.Bits {
		mask |= uint64(bitOf(is)) << n
	}
	return mask
}

func cloneFilter(f impl.Filter) impl.Filter {
	return impl.Filter{Bits: slices.Clone(f.Bits)}
}

func sameFilter(a impl.Filter, b impl.Filter) bool {
	return slices.Equal(a.Bits, b.Bits)
}

func isSlowFilter(f impl.Filter) bool {
	return len(f.Bits) == 64
}

func isSlowKey(key int) bool {
	return key >= 0 && key <= 9999
}

// slowKeyMask takes a good key; numbers that are alike are one bit.
func slowKeyMask(key int) uint64 {
	return 1<<(7*key%61) | 1<<((9*key+13)%61) | 1<<((11*key+26)%61)
}

func checkBitsFor(t *testing.T, key int) {
	t.Helper()
	want, is := []int(nil), isSlowKey(key)
	if is {
		want = bitsOf(int(slowKeyMask(key)))
	}
	if l, ok := impl.BitsFor(key); !slices.Equal(l, want) || ok != is {
		t.Fatalf("BitsFor %d: %v %v, want %v %v", key, l, ok, want, is)
	}
}

func checkPutFilter(t *testing.T, f impl.Filter, key int) {
	t.Helper()
	want, is := impl.Filter{}, isSlowFilter(f) && isSlowKey(key)
	if is {
		want = maskedFilter(maskIn(f) | slowKeyMask(key))
	}
	x, ok := impl.PutFilter(f, key)
	if !sameFilter(x, want) || ok != is {
		t.Fatalf("PutFilter %v %d: %v %v, want %v %v", f, key, x, ok, want, is)
	}
	if is {
		isNotDenied(t, x, key)
	}
}

func checkMayHave(t *testing.T, f impl.Filter, key int) {
	t.Helper()
	want, is := false, isSlowFilter(f) && isSlowKey(key)
	if is {
		want = slowKeyMask(key)&^maskIn(f) == 0
	}
	if may, ok := impl.MayHave(f, key); may != want || ok != is {
		t.Fatalf("MayHave %v %d: %v %v, want %v %v", f, key, may, ok, want, is)
	}
}

func checkFilter(t *testing.T, f impl.Filter) {
	t.Helper()
	want, is := 0, isSlowFilter(f)
	if is {
		want = bits.OnesCount64(maskIn(f))
	}
	if impl.GoodFilter(f) != is {
		t.Fatalf("GoodFilter %v: %v", f, !is)
	}
	if n, ok := impl.OnesIn(f); n != want || ok != is {
		t.Fatalf("OnesIn %v: %v %v, want %v %v", f, n, ok, want, is)
	}
}

func isNotDenied(t *testing.T, f impl.Filter, keys ...int) {
	t.Helper()
	for _, key := range keys {
		if may, ok := impl.MayHave(f, key); !may || !ok {
			t.Fatalf("MayHave %v %d: %v %v", f, key, may, ok)
		}
	}
}

func isDenied(t *testing.T, f impl.Filter, keys ...int) {
	t.Helper()
	for _, key := range keys {
		if may, ok := impl.MayHave(f, key); may || !ok {
			t.Fatalf("MayHave %v %d: %v %v", f, key, may, ok)
		}
	}
}

func hasOnes(t *testing.T, f impl.Filter, want int) {
	t.Helper()
	if n, ok := impl.OnesIn(f); n != want || !ok {
		t.Fatalf("OnesIn %v: %v %v, want %v", f, n, ok, want)
	}
}

// isPutFilter asks for a filter that is known by its bits.
func isPutFilter(t *testing.T, f impl.Filter, key int, want ...int) {
	t.Helper()
	if x, ok := impl.PutFilter(f, key); !sameFilter(x, filterWith(want...)) || !ok {
		t.Fatalf("PutFilter %v %d: %v %v, want %v", f, key, x, ok, want)
	}
}

func refusedKey(t *testing.T, f impl.Filter, key int) {
	t.Helper()
	if x, ok := impl.PutFilter(f, key); len(x.Bits) != 0 || ok {
		t.Errorf("PutFilter %v %d: %v %v", f, key, x, ok)
	}
	if may, ok := impl.MayHave(f, key); may || ok {
		t.Errorf("MayHave %v %d: %v %v", f, key, may, ok)
	}
}

// someKeys has one of each rest, the edges, and some between.
func someKeys() []int {
	l := []int{61, 62, 85, 99, 100, 121, 255, 256, 4999, 5000, 9998, 9999}
	for key := range keyBitsEnd {
		l = append(l, key, key+61*(key+1))
	}
	return l
}

// someMasks has none, all, few and many bits, those of keys, those and others, and all of a key's but one.
func someMasks() []uint64 {
	l := []uint64{0, allFilterBits, 7 << 61, 1<<61 - 1, 0xaaaaaaaaaaaaaaaa, 0x5555555555555555, 1<<32 - 1, allFilterBits &^ (1<<32 - 1)}
	for n := range 64 {
		one := uint64(1) << n
		l = append(l, one, allFilterBits&^one, one|one>>1, one-1)
	}
	for key := range keyBitsEnd {
		of := slowKeyMask(key)
		l = append(l, of, allFilterBits&^of, of|7<<61)
		for _, n := range bitsOf(int(of)) {
			l = append(l, of&^(1<<n), allFilterBits&^(1<<n))
		}
	}
	for seed := range 60 {
		mask := uint64(0)
		for _, c := range []byte(textOf(8, seed)) {
			mask = mask<<8 | uint64(c)
		}
		l = append(l, mask, mask&(mask<<7), mask|mask>>9)
	}
	return l
}

// notLongFilters have not as many bits as said: none, too few, too many; unset, set, and with every other one set.
func notLongFilters() []impl.Filter {
	l := []impl.Filter{{}, {Bits: []bool{}}}
	for _, n := range []int{1, 2, 3, 8, 32, 60, 61, 62, 63, 65, 66, 127, 128, 129, 640, 5000} {
		unset, set, some := make([]bool, n), make([]bool, n), make([]bool, n)
		for k := range n {
			set[k], some[k] = true, k%2 == 0
		}
		l = append(l, impl.Filter{Bits: unset}, impl.Filter{Bits: set}, impl.Filter{Bits: some})
	}
	return l
}

func TestPromise13Constants(t *testing.T) {
	if impl.FilterBits != 64 || impl.FilterHashes != 3 {
		t.Error(impl.FilterBits, impl.FilterHashes)
	}
}

// Some are told in another order than that in which they rise; 24 has one bit alone.
func TestPromise13KnownBits(t *testing.T) {
	for _, x := range []struct {
		key  int
		want []int
	}{
		{0, []int{0, 13, 26}}, {1, []int{7, 22, 37}}, {2, []int{14, 31, 48}}, {4, []int{9, 28, 49}}, {8, []int{24, 53, 56}}, {9, []int{2, 3, 33}}, {23, []int{35, 37, 39}}, {24, []int{46}}, {25, []int{53, 55, 57}}, {46, []int{0, 17, 44}}, {60, []int{4, 15, 54}}, {61, []int{0, 13, 26}}, {85, []int{46}}, {9998, []int{19, 20, 21}}, {9999, []int{26, 29, 32}},
	} {
		if l, ok := impl.BitsFor(x.key); !slices.Equal(l, x.want) || !ok {
			t.Errorf("BitsFor %d: %v %v, want %v", x.key, l, ok, x.want)
		}
	}
}

func TestPromise13BitsOfEachKey(t *testing.T) {
	had := uint64(0)
	for key := range 10000 {
		checkBitsFor(t, key)
		l, _ := impl.BitsFor(key)
		for k, n := range l {
			if n < 0 || n >= keyBitsEnd || k > 0 && n <= l[k-1] {
				t.Fatal("not rising, or no bit of a key", key, l)
			}
			had |= 1 << n
		}
	}
	if had != 1<<keyBitsEnd-1 {
		t.Error("not all bits are had", bitsOf(int(had)))
	}
}

// As 61 is a prime, where two of a key's numbers are alike all three are: no key has just two bits.
func TestPromise13AlikeBitsCountOnce(t *testing.T) {
	alone := 0
	for key := range 10000 {
		l, ok := impl.BitsFor(key)
		want := 3
		if (2*key+13)%61 == 0 {
			want = 1
			alone++
		}
		if len(l) != want || !ok {
			t.Fatal(key, l, ok)
		}
		f, _ := impl.PutFilter(impl.NewFilter(), key)
		hasOnes(t, f, want)
	}
	if alone != 164 {
		t.Error(alone)
	}
	for key := 24; key < 10000; key += 61 {
		isPutFilter(t, impl.NewFilter(), key, 46)
		isNotDenied(t, filterWith(46), key)
		isDenied(t, maskedFilter(allFilterBits&^(1<<46)), key)
	}
}

func TestPromise13NewFilter(t *testing.T) {
	f := impl.NewFilter()
	if len(f.Bits) != 64 || slices.Contains(f.Bits, true) || !impl.GoodFilter(f) {
		t.Fatal(f)
	}
	hasOnes(t, f, 0)
	for key := range 10000 {
		isDenied(t, f, key)
	}
}

func TestPromise13AllSet(t *testing.T) {
	full, keysOnly := maskedFilter(allFilterBits), maskedFilter(1<<keyBitsEnd-1)
	hasOnes(t, full, 64)
	hasOnes(t, keysOnly, 61)
	for key := range 10000 {
		isNotDenied(t, full, key)
		isNotDenied(t, keysOnly, key)
		isPutFilter(t, full, key, bitsOf(-1)...)
		isPutFilter(t, keysOnly, key, bitsOf(1<<keyBitsEnd-1)...)
	}
}

func TestPromise13BitsOfNoKey(t *testing.T) {
	for _, set := range []int{1 << 61, 1 << 62, -1 << 63, 3 << 61, -1 << 62, 1<<61 | -1<<63, -1 << 61} {
		f := maskedFilter(uint64(set))
		checkFilter(t, f)
		if !impl.GoodFilter(f) {
			t.Fatal("not good", f)
		}
		for key := range 10000 {
			isDenied(t, f, key)
		}
		for _, key := range someKeys() {
			isPutFilter(t, f, key, bitsOf(set|int(slowKeyMask(key)))...)
		}
	}
	hasOnes(t, filterWith(61, 62, 63), 3)
}

func TestPromise13KnownPuts(t *testing.T) {
	for _, x := range []struct {
		was  []int
		key  int
		want []int
	}{
		{nil, 0, []int{0, 13, 26}},
		{nil, 9999, []int{26, 29, 32}},
		{[]int{13}, 0, []int{0, 13, 26}},
		{[]int{0, 26}, 0, []int{0, 13, 26}},
		{[]int{0, 13, 26}, 0, []int{0, 13, 26}},
		{[]int{0, 13, 26}, 61, []int{0, 13, 26}},
		{[]int{0, 13, 26}, 9999, []int{0, 13, 26, 29, 32}},
		{[]int{1, 12, 14, 60}, 0, []int{0, 1, 12, 13, 14, 26, 60}},
		{[]int{61, 63}, 24, []int{46, 61, 63}},
		{[]int{46}, 24, []int{46}},
	} {
		isPutFilter(t, filterWith(x.was...), x.key, x.want...)
	}
}

// Each filter with each key: where all its bits are set already, some, none.
func TestPromise13PutsAndAsks(t *testing.T) {
	all, some, none := 0, 0, 0
	for _, mask := range someMasks() {
		f := maskedFilter(mask)
		checkFilter(t, f)
		for _, key := range someKeys() {
			checkPutFilter(t, f, key)
			checkMayHave(t, f, key)
			of := slowKeyMask(key)
			all += bitOf(of&mask == of)
			none += bitOf(of&mask == 0)
			some += bitOf(of&mask != 0 && of&mask != of)
		}
	}
	if min(all, some, none) < 2000 {
		t.Error("too few of one kind", all, some, none)
	}
}

// Each two keys, the second one put behind the first: neither is denied, and each other one only where a bit of it is not set.
func TestPromise13TwoPuts(t *testing.T) {
	for first := range keyBitsEnd {
		f, _ := impl.PutFilter(impl.NewFilter(), first)
		for second := range keyBitsEnd {
			checkPutFilter(t, f, second)
			x, _ := impl.PutFilter(f, second)
			isNotDenied(t, x, first, second, first+61, second+61*100)
			for other := range keyBitsEnd {
				checkMayHave(t, x, other)
			}
		}
	}
}

func TestPromise13EachBitCounts(t *testing.T) {
	for _, key := range someKeys() {
		l, _ := impl.BitsFor(key)
		isNotDenied(t, filterWith(l...), key)
		for at := range l {
			isDenied(t, filterWith(slices.Delete(slices.Clone(l), at, at+1)...), key)
		}
	}
	for n := range 64 {
		f := maskedFilter(allFilterBits &^ (1 << n))
		hasOnes(t, f, 63)
		hasOnes(t, filterWith(n), 1)
		for key := range 10000 {
			if may, ok := impl.MayHave(f, key); may != (slowKeyMask(key)>>n&1 == 0) || !ok {
				t.Fatal(n, key, may, ok)
			}
		}
	}
}

// A key that was not put is not denied where others have set its bits.
func TestPromise13NotPutAndNotDenied(t *testing.T) {
	f := impl.NewFilter()
	for _, key := range []int{46, 28, 56} {
		isDenied(t, f, 0, 61)
		f, _ = impl.PutFilter(f, key)
	}
	isNotDenied(t, f, 46, 28, 56)
	isNotDenied(t, f, 0, 61)
	isDenied(t, f, 1, 24, 9998)
	hasOnes(t, f, 8)
	f, _ = impl.PutFilter(impl.NewFilter(), 1)
	isNotDenied(t, f, 62, 123, 1+61*163)
	isDenied(t, f, 0, 2, 63)
}

func TestPromise13OnesCounted(t *testing.T) {
	mask := uint64(0)
	for n := range 64 {
		hasOnes(t, maskedFilter(mask), n)
		mask |= 1 << (n * 37 % 64)
	}
	hasOnes(t, maskedFilter(mask), 64)
}

func TestPromise13WrongKeys(t *testing.T) {
	for _, key := range notKeys() {
		if l, ok := impl.BitsFor(key); len(l) != 0 || ok {
			t.Errorf("BitsFor %d: %v %v", key, l, ok)
		}
		for _, mask := range []uint64{0, allFilterBits, 1<<61 - 1, slowKeyMask(0)} {
			refusedKey(t, maskedFilter(mask), key)
		}
	}
}

func TestPromise13WrongFilters(t *testing.T) {
	for _, f := range notLongFilters() {
		if impl.GoodFilter(f) {
			t.Errorf("good %v", f)
		}
		if n, ok := impl.OnesIn(f); n != 0 || ok {
			t.Errorf("OnesIn %v: %v %v", f, n, ok)
		}
		for _, key := range append(someKeys(), notKeys()...) {
			refusedKey(t, f, key)
		}
	}
}
