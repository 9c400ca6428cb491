package tests

import (
	"slices"
	"testing"

	"loop.example/g00405/impl"
)

// slowSettle works in the table's own rows; most is how many moves it may need.
func slowSettle(x impl.Table, slot impl.Slot, isLeft bool, moves int, most int) (int, bool) {
	if moves > most {
		return 0, false
	}
	row, at := x.Right, slowSecond(x.Seed, slot.Key)
	if isLeft {
		row, at = x.Left, slowFirst(x.Seed, slot.Key)
	}
	was := row[at]
	row[at] = slot
	if !was.Used {
		return moves, true
	}
	return slowSettle(x, was, !isLeft, moves+1, most)
}

// slowPutUpTo is a put that may need so many moves.
func slowPutUpTo(most int, x impl.Table, key int, value int) (impl.Table, int, bool) {
	if !isSlowTable(x) || key < 0 || key > 9999 || value < 0 || value > 9999 {
		return impl.Table{}, 0, false
	}
	y := cloneTable(x)
	for _, row := range [][]impl.Slot{y.Left, y.Right} {
		for at, slot := range row {
			if slot.Used && slot.Key == key {
				row[at].Value = value
				return y, 0, true
			}
		}
	}
	moves, ok := slowSettle(y, usedSlot(key, value), true, 0, most)
	if !ok {
		return impl.Table{}, 0, false
	}
	y.Many++
	return y, moves, true
}

func slowPutKey(x impl.Table, key int, value int) (impl.Table, int, bool) {
	return slowPutUpTo(24, x, key, value)
}

func slowRehash(x impl.Table, seed int) (impl.Table, bool) {
	if !isSlowTable(x) || seed < 0 || seed > 99 {
		return impl.Table{}, false
	}
	y, values := emptyTable(seed), valuesIn(x)
	for _, key := range keysOf(values) {
		next, _, ok := slowPutKey(y, key, values[key])
		if !ok {
			return impl.Table{}, false
		}
		y = next
	}
	return y, true
}

func slowPlayTable(seed int, l []int) (impl.Table, []bool, bool) {
	isNone := func(n int) bool { return n < -10000 || n > 9999 }
	if seed < 0 || seed > 99 || len(l) > 80 || slices.ContainsFunc(l, isNone) {
		return impl.Table{}, nil, false
	}
	x, done := emptyTable(seed), []bool{}
	for k, n := range l {
		next, ok := slowDropKey(x, -n-1)
		if n >= 0 {
			next, _, ok = slowPutKey(x, n, k)
		}
		if ok {
			x = next
		}
		done = append(done, ok)
	}
	return x, done, true
}

// tellsAll looks whether a table tells just these.
func tellsAll(t *testing.T, x impl.Table, values map[int]int) {
	t.Helper()
	if !impl.GoodTable(x) || x.Many != len(values) {
		t.Fatalf("not good, or not so many: %v, want %v", x, values)
	}
	if l, ok := impl.KeysIn(x); !slices.Equal(l, keysOf(values)) || !ok {
		t.Fatalf("KeysIn %v: %v %v, want %v", x, l, ok, values)
	}
	for key, value := range values {
		if n, ok := impl.FindKey(x, key); n != value || !ok {
			t.Fatalf("FindKey %v %d: %v %v, want %v", x, key, n, ok, value)
		}
		// Others of the same places, and one beside it.
		for _, other := range []int{key + 121, key - 121, key + 1, key + 1331} {
			if _, is := values[other]; is {
				continue
			}
			if n, ok := impl.FindKey(x, other); n != 0 || ok {
				t.Fatalf("FindKey %v %d: %v %v", x, other, n, ok)
			}
		}
	}
}

// checkPutKey holds a put against the model, and looks whether all that was there is found.
func checkPutKey(t *testing.T, x impl.Table, key int, value int) {
	t.Helper()
	want, wantMoves, wantOk := slowPutKey(x, key, value)
	y, moves, ok := impl.PutKey(x, key, value)
	if !sameTable(y, want) || moves != wantMoves || ok != wantOk {
		t.Fatalf("PutKey %v %d %d: %v %v %v, want %v %v %v", x, key, value, y, moves, ok, want, wantMoves, wantOk)
	}
	if ok {
		values := valuesIn(x)
		values[key] = value
		tellsAll(t, y, values)
	}
}

func checkDropKey(t *testing.T, x impl.Table, key int) {
	t.Helper()
	want, wantOk := slowDropKey(x, key)
	y, ok := impl.DropKey(x, key)
	if !sameTable(y, want) || ok != wantOk {
		t.Fatalf("DropKey %v %d: %v %v, want %v %v", x, key, y, ok, want, wantOk)
	}
	if ok {
		values := valuesIn(x)
		delete(values, key)
		tellsAll(t, y, values)
	}
}

func checkRehash(t *testing.T, x impl.Table, seed int) {
	t.Helper()
	want, wantOk := slowRehash(x, seed)
	y, ok := impl.RehashTo(x, seed)
	if !sameTable(y, want) || ok != wantOk {
		t.Fatalf("RehashTo %v %d: %v %v, want %v %v", x, seed, y, ok, want, wantOk)
	}
	if ok {
		tellsAll(t, y, valuesIn(x))
	}
}

func checkPlayTable(t *testing.T, seed int, l []int) {
	t.Helper()
	want, wantDone, wantOk := slowPlayTable(seed, l)
	x, done, ok := impl.PlayTable(seed, l)
	if !sameTable(x, want) || !slices.Equal(done, wantDone) || ok != wantOk {
		t.Fatalf("PlayTable %d %v: %v %v %v, want %v %v %v", seed, l, x, done, ok, want, wantDone, wantOk)
	}
}

func isPutIn(t *testing.T, x impl.Table, key int, value int, want impl.Table, moves int) {
	t.Helper()
	if y, n, ok := impl.PutKey(x, key, value); !sameTable(y, want) || n != moves || !ok {
		t.Errorf("PutKey %v %d %d: %v %v %v, want %v %v", x, key, value, y, n, ok, want, moves)
	}
}

func TestPromise12KnownPuts(t *testing.T) {
	none := emptyTable(0)
	isPutIn(t, none, 0, 0, withLeft(none, 0, 0), 0)
	isPutIn(t, none, 9999, 9999, withLeft(none, 9999, 9999), 0)
	one := withLeft(none, 11, 5)
	isPutIn(t, one, 0, 6, withRight(withLeft(none, 0, 6), 11, 5), 1)
	// Its second place is free, but it goes to the first one all the same.
	isPutIn(t, one, 22, 7, withRight(withLeft(none, 22, 7), 11, 5), 1)
	isPutIn(t, one, 12, 7, withLeft(one, 12, 7), 0)
	two := withRight(withLeft(none, 11, 5), 12, 6)
	isPutIn(t, two, 0, 7, withRight(withLeft(withLeft(none, 0, 7), 12, 6), 11, 5), 2)
	three := withLeft(two, 1, 8)
	isPutIn(t, three, 0, 7, withRight(withRight(withLeft(withLeft(none, 0, 7), 12, 6), 11, 5), 1, 8), 3)
	// What comes goes away again, to its second place: 0 and 121 have the same two.
	both := withRight(withLeft(none, 0, 1), 121, 2)
	isPutIn(t, both, 11, 3, withRight(withRight(withLeft(none, 121, 2), 0, 1), 11, 3), 3)
	refusedPutKey(t, both, 242, 3)
	isPutIn(t, withLeft(emptyTable(99), 0, 1), 121, 2, withRight(withLeft(emptyTable(99), 121, 2), 0, 1), 1)
}

// Of a key that is there its value alone changes, in its row.
func TestPromise12PutsOfWhatIsThere(t *testing.T) {
	x := knownTable()
	for key, was := range valuesIn(x) {
		for _, value := range []int{0, 1, was, 4711, 9999} {
			want := cloneTable(x)
			for _, row := range [][]impl.Slot{want.Left, want.Right} {
				for at, slot := range row {
					if slot.Used && slot.Key == key {
						row[at].Value = value
					}
				}
			}
			isPutIn(t, x, key, value, want, 0)
		}
	}
	// In Right, its first place being free, taken by another one, and in a table that has no room.
	right := withRight(emptyTable(0), 11, 1)
	isPutIn(t, right, 11, 2, withRight(emptyTable(0), 11, 2), 0)
	taken := withLeft(right, 22, 3)
	isPutIn(t, taken, 11, 2, withLeft(withRight(emptyTable(0), 11, 2), 22, 3), 0)
	full := withRight(withLeft(emptyTable(0), 0, 1), 121, 2)
	isPutIn(t, full, 0, 9, withRight(withLeft(emptyTable(0), 0, 9), 121, 2), 0)
	isPutIn(t, full, 121, 9, withRight(withLeft(emptyTable(0), 0, 1), 121, 9), 0)
}

func TestPromise12PutsThatAreNotAsSaid(t *testing.T) {
	for _, x := range []impl.Table{emptyTable(0), emptyTable(99), knownTable()} {
		for _, key := range notKeys() {
			refusedPutKey(t, x, key, 0)
			refusedPutKey(t, x, key, 9999)
			refusedPutKey(t, x, key, key)
		}
		for _, value := range notSlotValues() {
			for _, key := range []int{0, 5, 22, 121, 9998, 9999} {
				refusedPutKey(t, x, key, value)
			}
		}
	}
}

// keyBetween is one of the keys of a seed whose places are a slot of a path and the next one: Left at 0, Right at 0, Left at 1, Right at 1 and so on round.
func keyBetween(seed int, slot int, nth int) int {
	return keyWith(seed, (slot+1)/2%11, slot/2, nth)
}

func keyWith(seed int, first int, second int, nth int) int {
	for key := range 10000 {
		if slowFirst(seed, key) == first && slowSecond(seed, key) == second {
			if nth == 0 {
				return key
			}
			nth--
		}
	}
	return -1
}

// withPath has the slots of a path from one on up to another one, each with a key that goes on to the next one.
func withPath(x impl.Table, from int, to int, nth int) impl.Table {
	for slot := from; slot < to; slot++ {
		key := keyBetween(x.Seed, slot, nth)
		if slot%2 == 0 {
			x = withLeft(x, key, slot)
		} else {
			x = withRight(x, key, slot)
		}
	}
	return x
}

// turningTable makes a key that is put go so many slots to where two keys have the same places, come back from there, go to its second place, and on from there by so many slots.
func turningTable(seed int, there int, on int) (impl.Table, int, int) {
	x := withPath(emptyTable(seed), 0, there+1, 0)
	x = withTurn(x, there)
	second := (there + 2) / 2
	x = withPath(x, 2*second+1, 2*second+1+on, 0)
	return x, keyWith(seed, 0, second, 9), 2*there + 3 + on
}

func withTurn(x impl.Table, slot int) impl.Table {
	key := keyBetween(x.Seed, slot, 1)
	if slot%2 == 0 {
		return withRight(x, key, 99)
	}
	return withLeft(x, key, 99)
}

// fullTable has all 22 slots Used.
func fullTable(seed int) impl.Table {
	return withPath(emptyTable(seed), 0, 22, 0)
}

func TestPromise12PathsOfMoves(t *testing.T) {
	for _, seed := range []int{0, 1, 42, 99} {
		for moves := range 22 {
			x := withPath(emptyTable(seed), 0, moves, 2)
			key := keyWith(seed, 0, 7, 9)
			if y, n, ok := impl.PutKey(x, key, 4); n != moves || !ok || y.Many != moves+1 || y.Left[0] != usedSlot(key, 4) {
				t.Fatal(seed, moves, x, y, n, ok)
			}
			checkPutKey(t, x, key, 4)
		}
		x := fullTable(seed)
		if !impl.GoodTable(x) || x.Many != 22 {
			t.Fatal(x)
		}
		refusedPutKey(t, x, keyWith(seed, 0, 7, 9), 4)
	}
}

// As many moves as there may be, one more, and others.
func TestPromise12TurnsOfMoves(t *testing.T) {
	met := map[int]int{}
	for _, seed := range []int{0, 1, 42, 99} {
		for there := range 18 {
			for on := range 20 - 2*((there+2)/2) {
				x, key, moves := turningTable(seed, there, on)
				y, n, ok := slowPutUpTo(100, x, key, 4)
				if !impl.GoodTable(x) || n != moves || !ok {
					t.Fatal("not what it should be", seed, there, on, x, n, ok)
				}
				if moves > 24 {
					refusedPutKey(t, x, key, 4)
				} else {
					isPutIn(t, x, key, 4, y, moves)
				}
				checkPutKey(t, x, key, 4)
				met[moves]++
			}
		}
	}
	for moves := 3; moves <= 30; moves++ {
		if met[moves] == 0 {
			t.Error("no table of so many moves", moves)
		}
	}
}

// A table without a free slot tells all it has, takes new values, and takes a key again where one was dropped.
func TestPromise12FullTables(t *testing.T) {
	for _, seed := range []int{0, 7, 99} {
		x := fullTable(seed)
		tellsAll(t, x, valuesIn(x))
		for key, value := range valuesIn(x) {
			checkPutKey(t, x, key, 9999-value)
			checkDropKey(t, x, key)
			y, ok := impl.DropKey(x, key)
			if !ok {
				t.Fatal(x, key)
			}
			checkPutKey(t, y, key, 1234)
		}
		for key := 0; key < 10000; key += 7 {
			checkPutKey(t, x, key, 0)
			checkDropKey(t, x, key)
		}
	}
}

func TestPromise12DroppedAndPutAgain(t *testing.T) {
	x := withRight(withLeft(emptyTable(0), 0, 1), 11, 2)
	y, ok := impl.DropKey(x, 11)
	if !sameTable(y, withLeft(emptyTable(0), 0, 1)) || !ok {
		t.Fatal(y, ok)
	}
	// It was in Right, and comes back in Left.
	isPutIn(t, y, 11, 3, withRight(withLeft(emptyTable(0), 11, 3), 0, 1), 1)
	y, ok = impl.DropKey(x, 0)
	if !sameTable(y, withRight(emptyTable(0), 11, 2)) || !ok {
		t.Fatal(y, ok)
	}
	isPutIn(t, y, 0, 0, withRight(withLeft(emptyTable(0), 0, 0), 11, 2), 0)
}

func isRehashed(t *testing.T, x impl.Table, seed int, want impl.Table) {
	t.Helper()
	if y, ok := impl.RehashTo(x, seed); !sameTable(y, want) || !ok {
		t.Errorf("RehashTo %v %d: %v %v, want %v", x, seed, y, ok, want)
	}
}

func TestPromise12KnownRehashes(t *testing.T) {
	for seed := range 100 {
		isRehashed(t, emptyTable(5), seed, emptyTable(seed))
		isRehashed(t, withLeft(emptyTable(5), 9999, 7), seed, withLeft(emptyTable(seed), 9999, 7))
		// To its own seed too what was in Right comes to Left.
		isRehashed(t, withRight(emptyTable(seed), 0, 9999), seed, withLeft(emptyTable(seed), 0, 9999))
		// The least key is put first, and so goes away.
		for _, x := range []impl.Table{withRight(withLeft(emptyTable(5), 0, 1), 11, 2), withRight(withLeft(emptyTable(5), 11, 2), 0, 1)} {
			isRehashed(t, x, seed, withRight(withLeft(emptyTable(seed), 11, 2), 0, 1))
		}
	}
	for _, x := range []impl.Table{emptyTable(0), knownTable(), fullTable(3)} {
		for _, seed := range notSeeds() {
			refusedRehash(t, x, seed)
		}
		for seed := range 100 {
			checkRehash(t, x, seed)
		}
	}
}

// tableOfKeys puts keys one after the other, however many moves that needs; those without room are left out.
func tableOfKeys(seed int, keys []int) impl.Table {
	x := emptyTable(seed)
	for k, key := range keys {
		if next, _, ok := slowPutUpTo(200, x, key, k); ok {
			x = next
		}
	}
	return x
}

// The last keys of these need 23 moves when all are put rising.
func TestPromise12RehashesThatJustFit(t *testing.T) {
	for _, keys := range [][]int{
		{4, 8, 10, 20, 25, 37, 49, 61, 97, 134, 139, 147, 154, 155, 170, 179, 200, 203, 221, 229, 234},
		{6, 7, 13, 54, 55, 71, 74, 86, 100, 106, 125, 153, 156, 170, 179, 181, 207, 211, 218, 219, 223, 237},
	} {
		x := tableOfKeys(7, keys)
		if !impl.GoodTable(x) || x.Many != len(keys) {
			t.Fatal("not what it should be", x)
		}
		for seed := range 100 {
			if y, ok := impl.RehashTo(x, seed); y.Many != len(keys) || y.Seed != seed || !ok {
				t.Fatal(seed, y, ok)
			}
			checkRehash(t, x, seed)
		}
	}
}

// All these are in one table, but when they are put rising some need 25 moves, or 27.
func TestPromise12RehashesWithoutRoom(t *testing.T) {
	for _, keys := range [][]int{
		{13, 14, 16, 40, 47, 54, 59, 68, 84, 97, 114, 118, 125, 148, 163, 166, 176, 184, 202, 214, 221, 237},
		{4, 6, 11, 20, 23, 53, 74, 102, 110, 125, 148, 153, 156, 159, 173, 177, 189, 203, 209, 215, 225, 238},
		{2, 8, 14, 19, 22, 23, 35, 43, 54, 64, 73, 78, 126, 141, 168, 180, 193, 204, 221, 224, 238},
	} {
		x := tableOfKeys(7, keys)
		if !impl.GoodTable(x) || x.Many != len(keys) {
			t.Fatal("not what it should be", x)
		}
		tellsAll(t, x, valuesIn(x))
		for seed := range 100 {
			refusedRehash(t, x, seed)
		}
	}
}
