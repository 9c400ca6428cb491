package tests

import (
	"slices"
	"testing"

	"loop.example/g00405/impl"
)

func checkJoinFilters(t *testing.T, a impl.Filter, b impl.Filter) {
	t.Helper()
	want, is := impl.Filter{}, isSlowFilter(a) && isSlowFilter(b)
	if is {
		want = maskedFilter(maskIn(a) | maskIn(b))
	}
	if x, ok := impl.JoinFilters(a, b); !sameFilter(x, want) || ok != is {
		t.Fatalf("JoinFilters %v %v: %v %v, want %v %v", a, b, x, ok, want, is)
	}
}

func checkMeetFilters(t *testing.T, a impl.Filter, b impl.Filter) {
	t.Helper()
	want, is := impl.Filter{}, isSlowFilter(a) && isSlowFilter(b)
	if is {
		want = maskedFilter(maskIn(a) & maskIn(b))
	}
	if x, ok := impl.MeetFilters(a, b); !sameFilter(x, want) || ok != is {
		t.Fatalf("MeetFilters %v %v: %v %v, want %v %v", a, b, x, ok, want, is)
	}
}

func slowFilterOf(l []int) (impl.Filter, bool) {
	mask := uint64(0)
	for _, key := range l {
		if !isSlowKey(key) {
			return impl.Filter{}, false
		}
		mask |= slowKeyMask(key)
	}
	if len(l) > 80 {
		return impl.Filter{}, false
	}
	return maskedFilter(mask), true
}

// checkFilterOf asks besides that none of the keys is denied, and that the filter is what it is when they are put one by one.
func checkFilterOf(t *testing.T, l []int) {
	t.Helper()
	want, is := slowFilterOf(l)
	f, ok := impl.FilterOf(l)
	if !sameFilter(f, want) || ok != is {
		t.Fatalf("FilterOf %v: %v %v, want %v %v", l, f, ok, want, is)
	}
	if !is {
		return
	}
	isNotDenied(t, f, l...)
	one := impl.NewFilter()
	for _, key := range l {
		one, _ = impl.PutFilter(one, key)
	}
	if !sameFilter(one, f) {
		t.Fatalf("FilterOf %v: %v, put one by one %v", l, f, one)
	}
}

// listOfKeys has as many as n, all below an end.
func listOfKeys(n int, end int, seed int) []int {
	l := []int{}
	for k := range n {
		b := []byte(textOf(2, seed+131*k))
		l = append(l, (int(b[0])*256+int(b[1]))%end)
	}
	return l
}

// someKeyLists are good ones.
func someKeyLists() [][]int {
	same, rising := make([]int, 80), make([]int, 80)
	for k := range 80 {
		same[k], rising[k] = 9999, k
	}
	l := [][]int{nil, {}, {0}, {9999}, {24}, {5, 5}, {24, 24}, {24, 85}, {0, 9999}, {9999, 0}, {1, 62}, make([]int, 80), same, rising, rising[:61], rising[19:], rising[:79]}
	for seed := range 200 {
		l = append(l, listOfKeys(seed%81, []int{10000, 61, 5, 300}[seed%4], seed))
	}
	return append(l, listOfKeys(80, 10000, 1), listOfKeys(79, 10000, 2))
}

// notKeyLists are too long, or have a number that is no key: the first one, one in the middle, the last one.
func notKeyLists() [][]int {
	l := [][]int{make([]int, 81), make([]int, 82), make([]int, 5000), listOfKeys(81, 10000, 3), listOfKeys(160, 61, 4)}
	for _, bad := range notKeys() {
		l = append(l, []int{bad}, []int{bad, bad})
		for _, n := range []int{2, 3, 10, 79, 80, 81} {
			for _, at := range []int{0, n / 2, n - 1} {
				keys := listOfKeys(n, 10000, n)
				keys[at] = bad
				l = append(l, keys)
			}
		}
	}
	return l
}

func isFilterOf(t *testing.T, l []int, want ...int) {
	t.Helper()
	if f, ok := impl.FilterOf(l); !sameFilter(f, filterWith(want...)) || !ok {
		t.Fatalf("FilterOf %v: %v %v, want %v", l, f, ok, want)
	}
}

func TestPromise13KnownFilters(t *testing.T) {
	isFilterOf(t, nil)
	isFilterOf(t, []int{})
	isFilterOf(t, []int{0}, 0, 13, 26)
	isFilterOf(t, []int{9999}, 26, 29, 32)
	isFilterOf(t, []int{0, 9999}, 0, 13, 26, 29, 32)
	isFilterOf(t, []int{1, 2}, 7, 14, 22, 31, 37, 48)
	isFilterOf(t, []int{2, 1}, 7, 14, 22, 31, 37, 48)
	isFilterOf(t, []int{1, 1}, 7, 22, 37)
	isFilterOf(t, []int{24}, 46)
	isFilterOf(t, []int{24, 24, 85}, 46)
	isFilterOf(t, []int{46, 28, 56}, 0, 13, 17, 21, 26, 29, 32, 44)
}

func TestPromise13FiltersOfLists(t *testing.T) {
	for _, l := range someKeyLists() {
		checkFilterOf(t, l)
		turned := slices.Clone(l)
		slices.Reverse(turned)
		f, _ := impl.FilterOf(l)
		if x, ok := impl.FilterOf(turned); !sameFilter(x, f) || !ok {
			t.Fatal("hangs on the order", l, x, f)
		}
	}
	for key := range 10000 {
		f, ok := impl.FilterOf([]int{key})
		if !ok || maskIn(f) != slowKeyMask(key) {
			t.Fatal(key, f, ok)
		}
	}
}

// Eighty keys may set all that keys can set, and then no key is denied.
func TestPromise13EightyKeys(t *testing.T) {
	l := []int{}
	for key := range 80 {
		l = append(l, key)
	}
	f, ok := impl.FilterOf(l)
	hasOnes(t, f, 61)
	if !ok || f.Bits[61] || f.Bits[62] || f.Bits[63] {
		t.Error(f, ok)
	}
	if f, ok := impl.FilterOf(append(l, 80)); len(f.Bits) != 0 || ok {
		t.Error("81 keys", f, ok)
	}
	if f, ok := impl.FilterOf(append(l, 0)); len(f.Bits) != 0 || ok {
		t.Error("81 keys, 80 unlike", f, ok)
	}
	if f, ok := impl.FilterOf(make([]int, 81)); len(f.Bits) != 0 || ok {
		t.Error("one key 81 times", f, ok)
	}
	if f, ok := impl.FilterOf(make([]int, 80)); !sameFilter(f, filterWith(0, 13, 26)) || !ok {
		t.Error("one key 80 times", f, ok)
	}
}

func TestPromise13WrongLists(t *testing.T) {
	for _, l := range notKeyLists() {
		if f, ok := impl.FilterOf(l); len(f.Bits) != 0 || ok {
			t.Errorf("FilterOf %v: %v %v", l, f, ok)
		}
	}
}

func TestPromise13KnownJoins(t *testing.T) {
	for _, x := range []struct {
		a, b, join, meet []int
	}{
		{nil, nil, nil, nil},
		{[]int{0}, nil, []int{0}, nil},
		{nil, []int{63}, []int{63}, nil},
		{[]int{0, 1}, []int{0, 2}, []int{0, 1, 2}, []int{0}},
		{[]int{61, 62, 63}, []int{60, 61, 63}, []int{60, 61, 62, 63}, []int{61, 63}},
		{[]int{7, 22, 37}, []int{7, 22, 37}, []int{7, 22, 37}, []int{7, 22, 37}},
		{[]int{7, 22, 37}, []int{14, 31, 48}, []int{7, 14, 22, 31, 37, 48}, nil},
	} {
		a, b := filterWith(x.a...), filterWith(x.b...)
		if f, ok := impl.JoinFilters(a, b); !sameFilter(f, filterWith(x.join...)) || !ok {
			t.Error("JoinFilters", x, f, ok)
		}
		if f, ok := impl.MeetFilters(a, b); !sameFilter(f, filterWith(x.meet...)) || !ok {
			t.Error("MeetFilters", x, f, ok)
		}
	}
}

func TestPromise13JoinsAndMeets(t *testing.T) {
	masks := someMasks()
	for k, mask := range masks {
		f := maskedFilter(mask)
		checkJoinFilters(t, f, f)
		checkMeetFilters(t, f, f)
		for _, edge := range []uint64{0, allFilterBits, 7 << 61, 1<<61 - 1, ^mask, masks[(k*7+3)%len(masks)], masks[(k*31+8)%len(masks)]} {
			other := maskedFilter(edge)
			checkJoinFilters(t, f, other)
			checkJoinFilters(t, other, f)
			checkMeetFilters(t, f, other)
			checkMeetFilters(t, other, f)
		}
	}
	for n := range 64 {
		for m := range 64 {
			checkJoinFilters(t, filterWith(n), filterWith(m))
			checkMeetFilters(t, filterWith(n), filterWith(m))
			checkMeetFilters(t, filterWith(n, m), filterWith(m, (n+m)%64))
		}
	}
}

// A filter of two lists put together is the joined one; the met one denies nothing that is in both.
func TestPromise13JoinedLists(t *testing.T) {
	lists := slices.DeleteFunc(someKeyLists(), func(l []int) bool { return len(l) > 40 })
	for k, a := range lists {
		for _, b := range [][]int{a, lists[(k+1)%len(lists)], lists[(5*k+2)%len(lists)], lists[(9*k+4)%len(lists)], nil, {24}} {
			x, _ := impl.FilterOf(a)
			y, _ := impl.FilterOf(b)
			both, ok := impl.FilterOf(slices.Concat(a, b))
			joined, isJoined := impl.JoinFilters(x, y)
			if !sameFilter(both, joined) || !ok || !isJoined {
				t.Fatal(a, b, both, joined)
			}
			isNotDenied(t, joined, a...)
			isNotDenied(t, joined, b...)
			met, _ := impl.MeetFilters(x, y)
			for _, key := range a {
				if slices.Contains(b, key) {
					isNotDenied(t, met, key)
				}
			}
		}
	}
}

func TestPromise13WrongJoins(t *testing.T) {
	for k, bad := range notLongFilters() {
		others := append(notLongFilters()[k%3:k%3+4], bad, maskedFilter(0), maskedFilter(allFilterBits), filterWith(0, 13, 26))
		for _, other := range others {
			for _, x := range [][2]impl.Filter{{bad, other}, {other, bad}} {
				if f, ok := impl.JoinFilters(x[0], x[1]); len(f.Bits) != 0 || ok {
					t.Errorf("JoinFilters %v: %v %v", x, f, ok)
				}
				if f, ok := impl.MeetFilters(x[0], x[1]); len(f.Bits) != 0 || ok {
					t.Errorf("MeetFilters %v: %v %v", x, f, ok)
				}
			}
		}
	}
}

// knownKeys is a filter, and keys that it must not deny.
type knownKeys struct {
	filter impl.Filter
	keys   map[int]int
}

func (k knownKeys) put(key int) knownKeys {
	next := knownKeys{keys: map[int]int{key: 1}}
	next.filter, _ = impl.PutFilter(k.filter, key)
	for old := range k.keys {
		next.keys[old] = 1
	}
	return next
}

func (k knownKeys) join(other knownKeys) knownKeys {
	next := knownKeys{keys: map[int]int{}}
	next.filter, _ = impl.JoinFilters(k.filter, other.filter)
	for _, from := range []knownKeys{k, other} {
		for key := range from.keys {
			next.keys[key] = 1
		}
	}
	return next
}

func (k knownKeys) meet(other knownKeys) knownKeys {
	next := knownKeys{keys: map[int]int{}}
	next.filter, _ = impl.MeetFilters(k.filter, other.filter)
	for key := range k.keys {
		if other.keys[key] == 1 {
			next.keys[key] = 1
		}
	}
	return next
}

// Filters that are put to, joined and met in any order never deny what must be in them, nor do those that they were made from.
func TestPromise13NeverDenied(t *testing.T) {
	asked, met := 0, 0
	for seed := range 100 {
		all := []knownKeys{{filter: impl.NewFilter()}}
		for step := range 60 {
			b := []byte(textOf(5, seed+977*step))
			one, other := all[int(b[0])%len(all)], all[len(all)-1-int(b[1])%min(len(all), 9)]
			next := one.put((int(b[2])*256 + int(b[3])) % []int{10000, 61, 9}[seed%3])
			switch b[4] % 8 {
			case 0:
				next = one.join(other)
			case 1:
				next = one.meet(other)
				met += len(next.keys)
			}
			all = append(all, next)
		}
		for _, one := range all {
			isNotDenied(t, one.filter, keysOf(one.keys)...)
			asked += len(one.keys)
		}
	}
	if asked < 10000 || met < 200 {
		t.Error("too few keys", asked, met)
	}
}
