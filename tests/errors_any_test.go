package tests

import (
	"slices"
	"testing"

	"loop.example/g00405/impl"
)

// memoryWords has messages, words and syndromes, good for some numbers of wrong bytes, and some that are good for none.
func memoryWords() [][]int {
	l := [][]int{
		nil, {1}, {0}, {1, 0}, {0, 7}, {2, 3, 1}, {2, 9, 1}, {0, 0, 0}, {1, 1, 0}, {1, 2, 4, 8}, {0, 0, 0, 5}, {1, 0, 0, 0},
		{64, 120, 54, 15, 1}, {64, 0, 54, 0, 1}, {38, 227, 32, 218, 1, 63, 1}, {38, 0, 32, 0, 1, 0, 1}, {0, 0, 0, 0, 0, 9},
		valuesOf(6, 1), valuesOf(18, 2), valuesOf(20, 3), valuesOf(22, 4), valuesOf(24, 5), make([]int, 24), make([]int, 7),
	}
	bad := [][]int{{256}, {1, -1}, {-1, 1, 1}, {1, 2, 256, 4}, {0, 0, 0, 0, 0, 300}, append(valuesOf(23, 6), 256), valuesOf(25, 7), make([]int, 25), valuesOf(60, 8)}
	return append(l, bad...)
}

// checkListMemory asks with memory behind a list's length, spoils what is answered, and asks again.
func checkListMemory(t *testing.T, list []int, behind int, ask func(l []int) ([]int, bool)) {
	t.Helper()
	want, wantOk := ask(slices.Clip(slices.Clone(list)))
	want = slices.Clone(want)
	h := hold(list, behind)
	got, ok := ask(h.list)
	h.stays(t)
	if !slices.Equal(got, want) || ok != wantOk || !ok && len(got) != 0 {
		t.Fatal("reads behind", list, behind, got, ok)
	}
	other, _ := ask(h.list)
	spoil(got)
	h.stays(t)
	if !slices.Equal(other, want) {
		t.Fatal("two answers share memory", list)
	}
	if later, _ := ask(h.list); !slices.Equal(later, want) {
		t.Fatal("a later answer is another one", list)
	}
}

func TestPromise19WordMemory(t *testing.T) {
	for _, list := range memoryWords() {
		for _, behind := range []int{0, 1, -9} {
			for wrong := -1; wrong <= 5; wrong++ {
				for _, ask := range []func(l []int) ([]int, bool){
					func(l []int) ([]int, bool) { return impl.EncodeWord(l, wrong) },
					func(l []int) ([]int, bool) { return impl.SyndromesOf(l, wrong) },
					func(l []int) ([]int, bool) { w, _, ok := impl.DecodeWord(l, wrong); return w, ok },
					func(l []int) ([]int, bool) { is, ok := impl.IsWord(l, wrong); return bitsOf(bitOf(is)), ok },
					func(l []int) ([]int, bool) { _, n, ok := impl.DecodeWord(l, wrong); return bitsOf(n), ok },
				} {
					checkListMemory(t, list, behind, ask)
				}
			}
			checkListMemory(t, list, behind, impl.LocatorOf)
		}
	}
}

func bitOf(is bool) int {
	if is {
		return 1
	}
	return 0
}

func TestPromise19GeneratorMemory(t *testing.T) {
	for wrong := -1; wrong <= 5; wrong++ {
		checkListMemory(t, nil, 0, func([]int) ([]int, bool) { return impl.GeneratorOf(wrong) })
	}
	g, _ := impl.GeneratorOf(2)
	spoil(g)
	if w, ok := impl.EncodeWord([]int{1}, 2); !slices.Equal(w, []int{64, 120, 54, 15, 1}) || !ok {
		t.Error("a word hangs on what was handed out", w, ok)
	}
}

func TestPromise19PlacesMemory(t *testing.T) {
	for _, list := range memoryWords() {
		for _, other := range memoryWords() {
			for _, behind := range []int{0, 1, -9} {
				h := hold(other, behind+1)
				checkListMemory(t, list, behind, func(l []int) ([]int, bool) { return impl.WrongPlaces(l, h.list) })
				checkListMemory(t, list, behind, func(l []int) ([]int, bool) { return impl.WrongPlaces(h.list, l) })
				h.stays(t)
			}
		}
		checkListMemory(t, list, 3, func(l []int) ([]int, bool) { return impl.WrongPlaces(l, l) })
	}
}
