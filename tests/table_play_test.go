package tests

import (
	"math"
	"slices"
	"testing"

	"loop.example/g00405/impl"
)

func isPlayed(t *testing.T, seed int, l []int, want impl.Table, done ...bool) {
	t.Helper()
	if x, did, ok := impl.PlayTable(seed, l); !sameTable(x, want) || !slices.Equal(did, done) || !ok {
		t.Errorf("PlayTable %d %v: %v %v %v, want %v %v", seed, l, x, did, ok, want, done)
	}
}

func TestPromise12KnownPlays(t *testing.T) {
	none := emptyTable(0)
	isPlayed(t, 0, nil, none)
	isPlayed(t, 0, []int{}, none)
	isPlayed(t, 99, nil, emptyTable(99))
	isPlayed(t, 0, []int{0}, withLeft(none, 0, 0), true)
	isPlayed(t, 99, []int{9999}, withLeft(emptyTable(99), 9999, 0), true)
	isPlayed(t, 0, []int{-1}, none, false)
	isPlayed(t, 0, []int{-10000}, none, false)
	isPlayed(t, 0, []int{0, -1}, none, true, true)
	isPlayed(t, 0, []int{9999, -10000}, none, true, true)
	isPlayed(t, 0, []int{9999, -1, -9999, -10000, -10000}, none, true, false, false, true, false)
	// A value is the place in the list, also where a key is put again, or dropped and put again.
	isPlayed(t, 0, []int{5, 5}, withLeft(none, 5, 1), true, true)
	isPlayed(t, 0, []int{5, -6, 5}, withLeft(none, 5, 2), true, true, true)
	isPlayed(t, 0, []int{-6, 5, -7}, withLeft(none, 5, 1), false, true, false)
	// What has no room is not put, and what follows is done as if it had not been there.
	both := withRight(withLeft(none, 121, 1), 0, 0)
	isPlayed(t, 0, []int{0, 121, 242}, both, true, true, false)
	isPlayed(t, 0, []int{0, 121, 242, -243, 12}, withLeft(both, 12, 4), true, true, false, false, true)
	isPlayed(t, 0, []int{0, 121, 242, -1, 242}, withRight(withLeft(none, 242, 4), 121, 1), true, true, false, true, true)
	isPlayed(t, 0, []int{0, 121, 242, 0, 121}, withRight(withLeft(none, 121, 4), 0, 3), true, true, false, true, true)
}

func refusedPlay(t *testing.T, seed int, l []int) {
	t.Helper()
	if x, done, ok := impl.PlayTable(seed, l); !isNoTable(x) || len(done) != 0 || ok {
		t.Errorf("PlayTable %d %v: %v %v %v", seed, l, x, done, ok)
	}
}

func TestPromise12PlaysThatAreNotAsSaid(t *testing.T) {
	for _, seed := range notSeeds() {
		refusedPlay(t, seed, nil)
		refusedPlay(t, seed, []int{0})
		refusedPlay(t, seed, []int{seed})
	}
	for _, n := range []int{10000, 10001, 65536, 1 << 32, math.MaxInt, -10001, -10002, -1 << 32, math.MinInt + 1, math.MinInt} {
		for _, seed := range []int{0, 50, 99} {
			refusedPlay(t, seed, []int{n})
			for at := range 4 {
				refusedPlay(t, seed, slices.Insert([]int{1, -2, 12}, at, n))
			}
			// Also where it stands last of 80, and behind a put without room.
			refusedPlay(t, seed, append(make([]int, 79), n))
			refusedPlay(t, seed, []int{0, 121, 242, n})
		}
	}
}

func TestPromise12LongPlays(t *testing.T) {
	for _, n := range []int{79, 80, 81, 82, 160, 5000} {
		for _, of := range []int{0, 9999, -1, -10000} {
			l := slices.Repeat([]int{of}, n)
			if n > 80 {
				refusedPlay(t, 0, l)
				refusedPlay(t, 99, l)
				continue
			}
			want, told := emptyTable(0), of >= 0
			if told {
				want = withLeft(want, of, n-1)
			}
			isPlayed(t, 0, l, want, slices.Repeat([]bool{told}, n)...)
		}
	}
}

// Each list of at most 5 of some numbers: keys that share both places, one of them, and none.
func TestPromise12EveryShortPlay(t *testing.T) {
	for _, of := range [][]int{{0, 121, 242, 11, -1, -122, -243}, {0, 11, 1, 12, 133, -12, -2}, {9999, 9878, 9989, 7, -10000, -9879, -8}} {
		for n := range 6 {
			eachList(n, of, func(l []int) { checkPlayTable(t, 0, l) })
		}
		for _, seed := range []int{1, 98, 99} {
			eachList(4, of, func(l []int) { checkPlayTable(t, seed, l) })
		}
	}
}

// someNumbers are puts and drops of keys below an end, as many as n.
func someNumbers(n int, end int, seed int) []int {
	l := []int{}
	for k := range n {
		b := []byte(textOf(3, seed+131*k))
		key := (int(b[0])*256 + int(b[1])) % end
		if int(b[2])%8 < seed%4 {
			key = -1 - key
		}
		l = append(l, key)
	}
	return l
}

func TestPromise12ManyPlays(t *testing.T) {
	noRoom, dropped := 0, 0
	for seed := range 1000 {
		l := someNumbers(seed%81, []int{10000, 25, 40, 121, 300}[seed%5], seed)
		checkPlayTable(t, seed%100, l)
		_, done, _ := impl.PlayTable(seed%100, l)
		for k, n := range l {
			noRoom += bitOf(n >= 0 && !done[k])
			dropped += bitOf(n < 0 && done[k])
		}
	}
	if noRoom < 500 || dropped < 500 {
		t.Error("too few of one kind", noRoom, dropped)
	}
}

// In a walk keys are put, put again, dropped and rehashed; a map tells what is there, and nothing else is found.
func TestPromise12Walks(t *testing.T) {
	noRoom, anew, moved := 0, 0, 0
	for seed := range 150 {
		x, values := emptyTable(seed%100), map[int]int{}
		for step, c := range []byte(textOf(120, seed)) {
			b := []byte(textOf(4, seed+97*step))
			key, value := (int(b[0])*256+int(b[1]))%(60+70*(seed%5)), int(b[2])*39+int(b[3])%39
			checkPutKey(t, x, key, value)
			checkDropKey(t, x, key)
			switch {
			case c%16 == 0:
				checkRehash(t, x, int(b[3])%100)
				if y, ok := impl.RehashTo(x, int(b[3])%100); ok {
					x, anew = y, anew+1
				}
			case int(c)%16 < 2+seed%5:
				_, was := values[key]
				y, ok := impl.DropKey(x, key)
				if ok != was {
					t.Fatal("DropKey", x, key, ok)
				}
				if ok {
					x = y
					delete(values, key)
				}
			default:
				y, n, ok := impl.PutKey(x, key, value)
				noRoom, moved = noRoom+bitOf(!ok), moved+bitOf(n > 3)
				if ok {
					x, values[key] = y, value
				}
			}
			tellsAll(t, x, values)
		}
		for key := range 400 {
			value, is := values[key]
			if n, ok := impl.FindKey(x, key); n != value || ok != is {
				t.Fatal("FindKey", x, key, n, ok)
			}
		}
	}
	if noRoom < 500 || anew < 500 || moved < 500 {
		t.Error("too few of one kind", noRoom, anew, moved)
	}
}

// Each key of a table that was played is at just one of its two places.
func TestPromise12TwoLooks(t *testing.T) {
	for seed := range 100 {
		x, _, ok := impl.PlayTable(seed, someNumbers(80, 300, 4*seed))
		if !ok || x.Many < 10 {
			t.Fatal(seed, x, ok)
		}
		for key, value := range valuesIn(x) {
			first, second, _ := impl.PlacesOf(seed, key)
			if (x.Left[first] == usedSlot(key, value)) == (x.Right[second] == usedSlot(key, value)) {
				t.Fatal(seed, key, x)
			}
			// Without what is there it is not found.
			y := cloneTable(x)
			y.Left[first], y.Right[second] = impl.Slot{}, impl.Slot{}
			y.Many = len(valuesIn(y))
			isNotIn(t, y, key)
		}
		tellsAll(t, x, valuesIn(x))
	}
}
