package tests

import (
	"slices"
	"testing"

	"loop.example/g00405/impl"
)

func anyFilters() []impl.Filter {
	l := notLongFilters()
	for _, mask := range someMasks() {
		l = append(l, maskedFilter(mask))
	}
	return l
}

// fewFilters leaves most of the good ones out.
func fewFilters() []impl.Filter {
	l := notLongFilters()
	for k, mask := range someMasks() {
		if k < 8 || k%29 == 0 {
			l = append(l, maskedFilter(mask))
		}
	}
	return l
}

func TestPromise19FiltersOfAnything(t *testing.T) {
	for _, f := range anyFilters() {
		checkFilter(t, f)
		for _, n := range anyTableNumbers() {
			checkPutFilter(t, f, n)
			checkMayHave(t, f, n)
		}
		for _, other := range fewFilters() {
			checkJoinFilters(t, f, other)
			checkMeetFilters(t, f, other)
			checkJoinFilters(t, other, f)
			checkMeetFilters(t, other, f)
		}
	}
}

func TestPromise19FilterNumbersOfAnything(t *testing.T) {
	for _, n := range anyTableNumbers() {
		checkBitsFor(t, n)
		checkFilterOf(t, []int{n})
		for _, m := range anyTableNumbers() {
			checkFilterOf(t, []int{n, m})
			checkFilterOf(t, []int{24, n, 0, m, 9999})
		}
		checkFilterOf(t, append(make([]int, 79), n))
		checkFilterOf(t, append([]int{n}, make([]int, 80)...))
	}
	checkFilterOf(t, anyTableNumbers())
	for _, l := range slices.Concat(someKeyLists(), notKeyLists()) {
		checkFilterOf(t, l)
	}
}

// heldFilter is a filter with memory behind its bits, and a copy of all of it.
type heldFilter struct {
	filter impl.Filter
	whole  []bool
}

func holdFilter(f impl.Filter, behind ...bool) heldFilter {
	whole := append(slices.Clone(f.Bits), behind...)
	return heldFilter{impl.Filter{Bits: whole[:len(f.Bits)]}, slices.Clone(whole)}
}

func (h heldFilter) stays(t *testing.T) {
	t.Helper()
	if !slices.Equal(h.filter.Bits[:len(h.whole)], h.whole) {
		t.Fatal("written into", h.filter.Bits[:len(h.whole)], h.whole)
	}
}

// spoilFilter turns each bit in all memory that an answer has.
func spoilFilter(f impl.Filter) {
	all := f.Bits[:cap(f.Bits)]
	for k := range all {
		all[k] = !all[k]
	}
}

// checkFilterMemory asks for the same answer of two filters with anything behind their bits, all of it new.
func checkFilterMemory(t *testing.T, a impl.Filter, b impl.Filter, ask func(a impl.Filter, b impl.Filter) (impl.Filter, int, bool)) {
	t.Helper()
	x, wantNumber, wantOk := ask(cloneFilter(a), cloneFilter(b))
	want := cloneFilter(x)
	for _, behind := range [][]bool{{false, false, true}, {true, true}, make([]bool, 64), {true}} {
		h, o := holdFilter(a, behind...), holdFilter(b, behind...)
		for range 2 {
			x, n, ok := ask(h.filter, o.filter)
			later, _, _ := ask(h.filter, o.filter)
			h.stays(t)
			o.stays(t)
			if !sameFilter(x, want) || n != wantNumber || ok != wantOk {
				t.Fatalf("reads behind %v %v, or is another one later: %v %v %v, want %v %v", a, b, x, n, ok, want, wantNumber)
			}
			spoilFilter(x)
			h.stays(t)
			o.stays(t)
			if !sameFilter(later, want) {
				t.Fatalf("two answers share memory %v %v: %v", a, b, later)
			}
		}
	}
}

func TestPromise19FilterMemory(t *testing.T) {
	for _, f := range fewFilters() {
		checkFilterMemory(t, f, f, func(f impl.Filter, _ impl.Filter) (impl.Filter, int, bool) {
			return impl.Filter{}, 0, impl.GoodFilter(f)
		})
		checkFilterMemory(t, f, f, func(f impl.Filter, _ impl.Filter) (impl.Filter, int, bool) {
			n, ok := impl.OnesIn(f)
			return impl.Filter{}, n, ok
		})
		for _, key := range []int{-1, 0, 1, 24, 62, 5000, 9999, 10000} {
			checkFilterMemory(t, f, f, func(f impl.Filter, _ impl.Filter) (impl.Filter, int, bool) {
				x, ok := impl.PutFilter(f, key)
				return x, 0, ok
			})
			checkFilterMemory(t, f, f, func(f impl.Filter, _ impl.Filter) (impl.Filter, int, bool) {
				may, ok := impl.MayHave(f, key)
				return impl.Filter{}, bitOf(may), ok
			})
		}
		for _, other := range fewFilters() {
			checkTwoFilters(t, f, other)
		}
	}
}

func checkTwoFilters(t *testing.T, a impl.Filter, b impl.Filter) {
	t.Helper()
	checkFilterMemory(t, a, b, func(a impl.Filter, b impl.Filter) (impl.Filter, int, bool) {
		x, ok := impl.JoinFilters(a, b)
		return x, 0, ok
	})
	checkFilterMemory(t, a, b, func(a impl.Filter, b impl.Filter) (impl.Filter, int, bool) {
		x, ok := impl.MeetFilters(a, b)
		return x, 0, ok
	})
}

// Two filters may lie in one memory, wholly or in part.
func TestPromise19FiltersShareMemory(t *testing.T) {
	for seed := range 40 {
		memory := make([]bool, 128)
		for k, c := range []byte(textOf(128, seed)) {
			memory[k] = c%3 == 0
		}
		was := slices.Clone(memory)
		for _, on := range []int{0, 1, 13, 63, 64} {
			a, b := impl.Filter{Bits: memory[:64]}, impl.Filter{Bits: memory[on : on+64]}
			for _, x := range [][2]impl.Filter{{a, b}, {b, a}} {
				checkJoinFilters(t, x[0], x[1])
				checkMeetFilters(t, x[0], x[1])
				f, _ := impl.JoinFilters(x[0], x[1])
				spoilFilter(f)
				f, _ = impl.MeetFilters(x[0], x[1])
				spoilFilter(f)
			}
			checkPutFilter(t, b, seed*7)
			f, _ := impl.PutFilter(b, seed*7)
			spoilFilter(f)
			if !slices.Equal(memory, was) {
				t.Fatal("written into", memory, was)
			}
		}
	}
}

// NewFilter and BitsFor hand out memory of their own each time.
func TestPromise19NewFilterMemory(t *testing.T) {
	for range 3 {
		f, other := impl.NewFilter(), impl.NewFilter()
		spoilFilter(f)
		if !sameFilter(other, maskedFilter(0)) || !sameFilter(impl.NewFilter(), maskedFilter(0)) {
			t.Fatal("written into", other, impl.NewFilter())
		}
	}
	for _, key := range []int{0, 1, 24, 9999} {
		l, _ := impl.BitsFor(key)
		other, _ := impl.BitsFor(key)
		spoil(l)
		if !slices.Equal(other, bitsOf(int(slowKeyMask(key)))) {
			t.Fatal("two answers share memory", key, other)
		}
		checkBitsFor(t, key)
	}
}

func TestPromise19FilterListMemory(t *testing.T) {
	lists := slices.Concat(someKeyLists(), notKeyLists())
	for _, list := range lists {
		want, wantOk := slowFilterOf(list)
		for _, behind := range []int{0, 24, -1, 10000} {
			h := hold(list, behind)
			for range 2 {
				f, ok := impl.FilterOf(h.list)
				later, _ := impl.FilterOf(h.list)
				h.stays(t)
				if !sameFilter(f, want) || ok != wantOk {
					t.Fatal("reads behind, or is another one later", list, f, ok)
				}
				spoilFilter(f)
				h.stays(t)
				if !sameFilter(later, want) {
					t.Fatal("two answers share memory", list, later)
				}
			}
		}
	}
}
