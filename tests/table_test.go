package tests

import (
	"maps"
	"math"
	"slices"
	"testing"

	"loop.example/g00405/impl"
)

func emptyTable(seed int) impl.Table {
	return impl.Table{Seed: seed, Left: make([]impl.Slot, 11), Right: make([]impl.Slot, 11)}
}

func cloneTable(t impl.Table) impl.Table {
	t.Left, t.Right = slices.Clone(t.Left), slices.Clone(t.Right)
	return t
}

func sameTable(a impl.Table, b impl.Table) bool {
	return a.Seed == b.Seed && a.Many == b.Many && slices.Equal(a.Left, b.Left) && slices.Equal(a.Right, b.Right)
}

func isNoTable(t impl.Table) bool {
	return t.Seed == 0 && t.Many == 0 && len(t.Left) == 0 && len(t.Right) == 0
}

func slowFirst(seed int, key int) int {
	return (key%11 + seed%11) % 11
}

func slowSecond(seed int, key int) int {
	return (key/11%11 + seed + seed + seed) % 11
}

func usedSlot(key int, value int) impl.Slot {
	return impl.Slot{Used: true, Key: key, Value: value}
}

// withLeft lays a key down by hand, whatever was there.
func withLeft(t impl.Table, key int, value int) impl.Table {
	t = cloneTable(t)
	t.Left[slowFirst(t.Seed, key)] = usedSlot(key, value)
	t.Many++
	return t
}

func withRight(t impl.Table, key int, value int) impl.Table {
	t = cloneTable(t)
	t.Right[slowSecond(t.Seed, key)] = usedSlot(key, value)
	t.Many++
	return t
}

func isSlowSlot(slot impl.Slot, place int, at int) bool {
	if !slot.Used {
		return slot.Key == 0 && slot.Value == 0
	}
	return slot.Key >= 0 && slot.Key <= 9999 && slot.Value >= 0 && slot.Value <= 9999 && place == at
}

func isSlowTable(t impl.Table) bool {
	if t.Seed < 0 || t.Seed > 99 || len(t.Left) != 11 || len(t.Right) != 11 {
		return false
	}
	used, keys := 0, map[int]int{}
	for at := range 11 {
		left, right := t.Left[at], t.Right[at]
		if !isSlowSlot(left, slowFirst(t.Seed, left.Key), at) || !isSlowSlot(right, slowSecond(t.Seed, right.Key), at) {
			return false
		}
		for _, slot := range []impl.Slot{left, right} {
			if slot.Used {
				keys[slot.Key]++
				used++
			}
		}
	}
	return used == t.Many && len(keys) == used
}

// valuesIn takes a good table: what it tells by keys, wherever they are.
func valuesIn(t impl.Table) map[int]int {
	values := map[int]int{}
	for _, slot := range slices.Concat(t.Left, t.Right) {
		if slot.Used {
			values[slot.Key] = slot.Value
		}
	}
	return values
}

func keysOf(values map[int]int) []int {
	return slices.Sorted(maps.Keys(values))
}

func slowDropKey(t impl.Table, key int) (impl.Table, bool) {
	if !isSlowTable(t) {
		return impl.Table{}, false
	}
	x := cloneTable(t)
	for _, row := range [][]impl.Slot{x.Left, x.Right} {
		for at, slot := range row {
			if slot.Used && slot.Key == key {
				row[at] = impl.Slot{}
				x.Many--
				return x, true
			}
		}
	}
	return impl.Table{}, false
}

func notSeeds() []int {
	return []int{-1, -2, -11, -99, -100, 100, 101, 110, 111, 1 << 32, -1 << 32, math.MinInt, math.MaxInt}
}

func notKeys() []int {
	return []int{-1, -2, -11, -9999, -10000, -10001, 10000, 10001, 10010, 1 << 32, -1 << 32, math.MinInt, math.MaxInt}
}

func notSlotValues() []int {
	return []int{-1, -2, -9999, 10000, 10001, 65536, 1 << 32, -1 << 32, math.MinInt, math.MaxInt}
}

func TestPromise12Constants(t *testing.T) {
	if impl.TableSize != 11 || impl.MaxKicks != 24 || impl.MaxKey != 9999 {
		t.Error(impl.TableSize, impl.MaxKicks, impl.MaxKey)
	}
}

func TestPromise12KnownPlaces(t *testing.T) {
	for _, x := range [][4]int{
		{0, 0, 0, 0}, {0, 10, 10, 0}, {0, 11, 0, 1}, {0, 120, 10, 10}, {0, 121, 0, 0}, {0, 9999, 0, 7}, {1, 11, 1, 4}, {1, 10, 0, 3}, {4, 0, 4, 1}, {10, 1, 0, 8}, {11, 0, 0, 0}, {99, 0, 0, 0}, {99, 9999, 0, 7}, {98, 9999, 10, 4},
	} {
		if a, b, ok := impl.PlacesOf(x[0], x[1]); a != x[2] || b != x[3] || !ok {
			t.Error(x, a, b, ok)
		}
	}
}

// Key by key the first place goes on by one, the second one at each eleventh key.
func TestPromise12EachPlace(t *testing.T) {
	first := 0
	for seed := range 100 {
		a, b := first, (seed*3)%11
		for key := range 10000 {
			if x, y, ok := impl.PlacesOf(seed, key); x != a || y != b || !ok {
				t.Fatal(seed, key, x, y, ok, a, b)
			}
			a = (a + 1) % 11
			if key%11 == 10 {
				b = (b + 1) % 11
			}
		}
		first = (first + 1) % 11
	}
}

func TestPromise12NoPlaces(t *testing.T) {
	refused := func(seed int, key int) {
		t.Helper()
		if a, b, ok := impl.PlacesOf(seed, key); a != 0 || b != 0 || ok {
			t.Error(seed, key, a, b, ok)
		}
	}
	for _, key := range notKeys() {
		for seed := range 100 {
			refused(seed, key)
		}
	}
	for _, seed := range notSeeds() {
		for _, key := range append(notKeys(), 0, 1, 11, 121, 5000, 9999) {
			refused(seed, key)
		}
	}
}

func TestPromise12NewTable(t *testing.T) {
	for seed := range 100 {
		x, ok := impl.NewTable(seed)
		if !sameTable(x, emptyTable(seed)) || !ok || !impl.GoodTable(x) {
			t.Fatal(seed, x, ok)
		}
		if l, ok := impl.KeysIn(x); len(l) != 0 || !ok {
			t.Fatal(seed, l, ok)
		}
		for key := range 10000 {
			if n, ok := impl.FindKey(x, key); n != 0 || ok {
				t.Fatal(seed, key, n, ok)
			}
		}
		refusedDropKey(t, x, 0)
		refusedDropKey(t, x, 9999)
	}
	for _, seed := range notSeeds() {
		if x, ok := impl.NewTable(seed); !isNoTable(x) || ok {
			t.Error(seed, x, ok)
		}
	}
}

func isFoundIn(t *testing.T, x impl.Table, key int, value int) {
	t.Helper()
	if n, ok := impl.FindKey(x, key); n != value || !ok {
		t.Errorf("FindKey %v %d: %v %v, want %v", x, key, n, ok, value)
	}
}

func isNotIn(t *testing.T, x impl.Table, key int) {
	t.Helper()
	if n, ok := impl.FindKey(x, key); n != 0 || ok {
		t.Errorf("FindKey %v %d: %v %v", x, key, n, ok)
	}
}

func refusedDropKey(t *testing.T, x impl.Table, key int) {
	t.Helper()
	if y, ok := impl.DropKey(x, key); !isNoTable(y) || ok {
		t.Errorf("DropKey %v %d: %v %v", x, key, y, ok)
	}
}

func refusedPutKey(t *testing.T, x impl.Table, key int, value int) {
	t.Helper()
	if y, n, ok := impl.PutKey(x, key, value); !isNoTable(y) || n != 0 || ok {
		t.Errorf("PutKey %v %d %d: %v %v %v", x, key, value, y, n, ok)
	}
}

func refusedRehash(t *testing.T, x impl.Table, seed int) {
	t.Helper()
	if y, ok := impl.RehashTo(x, seed); !isNoTable(y) || ok {
		t.Errorf("RehashTo %v %d: %v %v", x, seed, y, ok)
	}
}

// refusedTable asks everything of a table that is not good.
func refusedTable(t *testing.T, x impl.Table) {
	t.Helper()
	if impl.GoodTable(x) {
		t.Errorf("good %v", x)
	}
	if l, ok := impl.KeysIn(x); len(l) != 0 || ok {
		t.Errorf("KeysIn %v: %v %v", x, l, ok)
	}
	for _, key := range []int{0, 1, 11, 12, 22, 33, 121, 9999, -1, 10000} {
		isNotIn(t, x, key)
		refusedDropKey(t, x, key)
		refusedPutKey(t, x, key, 0)
		refusedPutKey(t, x, key, 9999)
	}
	for _, seed := range []int{0, 1, 7, 99, x.Seed, -1, 100} {
		refusedRehash(t, x, seed)
	}
}

// knownTable hands out a good one of its own: 0, 5, 17 and 9998 in Left, 22, 121 and 9999 in Right.
func knownTable() impl.Table {
	x := emptyTable(3)
	for k, key := range []int{0, 9998, 5, 17} {
		x = withLeft(x, key, []int{0, 9999, 1, 77}[k])
	}
	for k, key := range []int{22, 121, 9999} {
		x = withRight(x, key, []int{9999, 0, 5}[k])
	}
	return x
}

func TestPromise12KnownTable(t *testing.T) {
	x := knownTable()
	if !isSlowTable(x) || !impl.GoodTable(x) || x.Many != 7 {
		t.Fatal("not good", x)
	}
	if l, ok := impl.KeysIn(x); !slices.Equal(l, []int{0, 5, 17, 22, 121, 9998, 9999}) || !ok {
		t.Error(l, ok)
	}
	want := map[int]int{0: 0, 5: 1, 17: 77, 22: 9999, 121: 0, 9998: 9999, 9999: 5}
	for key := range 10000 {
		if value, is := want[key]; is {
			isFoundIn(t, x, key, value)
		} else {
			isNotIn(t, x, key)
			refusedDropKey(t, x, key)
		}
	}
	for _, key := range notKeys() {
		isNotIn(t, x, key)
		refusedDropKey(t, x, key)
		refusedPutKey(t, x, key, 1)
	}
}

// A key may be Used in either row, whatever it and its value are; 0 with 0 is not the same as nothing.
func TestPromise12EitherRow(t *testing.T) {
	for _, seed := range []int{0, 1, 10, 11, 50, 98, 99} {
		for _, key := range []int{0, 1, 10, 11, 12, 120, 121, 122, 5000, 9988, 9998, 9999} {
			for _, value := range []int{0, 1, 9998, 9999} {
				for _, x := range []impl.Table{withLeft(emptyTable(seed), key, value), withRight(emptyTable(seed), key, value)} {
					if !impl.GoodTable(x) {
						t.Fatal("not good", x)
					}
					isFoundIn(t, x, key, value)
					if l, ok := impl.KeysIn(x); !slices.Equal(l, []int{key}) || !ok {
						t.Error(l, ok, key)
					}
					// Another key of the same places is not there.
					isNotIn(t, x, (key+121)%9922)
					refusedDropKey(t, x, (key+121)%9922)
					if y, ok := impl.DropKey(x, key); !sameTable(y, emptyTable(seed)) || !ok {
						t.Error(seed, key, value, y, ok)
					}
				}
			}
		}
	}
}

func TestPromise12KnownDrops(t *testing.T) {
	x := knownTable()
	for _, key := range keysOf(valuesIn(x)) {
		want, _ := slowDropKey(x, key)
		y, ok := impl.DropKey(x, key)
		if !sameTable(y, want) || !ok || y.Many != 6 || !impl.GoodTable(y) {
			t.Error(key, y, ok)
		}
		isNotIn(t, y, key)
		refusedDropKey(t, y, key)
		for other, value := range valuesIn(x) {
			if other != key {
				isFoundIn(t, y, other, value)
			}
		}
	}
	for k, key := range []int{9999, 0, 17, 22, 9998, 121, 5} {
		y, ok := impl.DropKey(x, key)
		if !ok || y.Many != 6-k {
			t.Fatal(key, y, ok)
		}
		x = y
	}
	if !sameTable(x, emptyTable(3)) {
		t.Error(x)
	}
}

func spoiltTable(spoil func(x *impl.Table)) impl.Table {
	x := knownTable()
	spoil(&x)
	return x
}

// notShapeTables have a wrong seed, count or length of a row.
func notShapeTables() []impl.Table {
	l := []impl.Table{{}, {Many: 1}, {Left: make([]impl.Slot, 11)}, {Right: make([]impl.Slot, 11)}, {Left: make([]impl.Slot, 10), Right: make([]impl.Slot, 12)}, {Left: make([]impl.Slot, 22)}}
	for _, n := range []int{0, 1, 10, 12, 13, 22, 5000} {
		l = append(l, impl.Table{Left: make([]impl.Slot, n), Right: make([]impl.Slot, 11)}, impl.Table{Left: make([]impl.Slot, 11), Right: make([]impl.Slot, n)}, impl.Table{Left: make([]impl.Slot, n), Right: make([]impl.Slot, n)})
	}
	for _, seed := range append(notSeeds(), 4, 2, 99, 0) {
		l = append(l, spoiltTable(func(x *impl.Table) { x.Seed = seed }))
	}
	for _, seed := range notSeeds() {
		l = append(l, emptyTable(seed))
	}
	for _, many := range []int{0, 1, 6, 8, 11, 22, 23, -1, -7, math.MinInt, math.MaxInt, 7 + 1<<32} {
		l = append(l, spoiltTable(func(x *impl.Table) { x.Many = many }))
	}
	for _, many := range []int{1, -1, 2, 22, math.MaxInt} {
		x := emptyTable(7)
		x.Many = many
		l = append(l, x)
	}
	l = append(l, spoiltTable(func(x *impl.Table) { x.Left = x.Left[:10] }), spoiltTable(func(x *impl.Table) { x.Right = x.Right[:10] }), spoiltTable(func(x *impl.Table) { x.Left = nil }), spoiltTable(func(x *impl.Table) { x.Right = nil }))
	l = append(l, spoiltTable(func(x *impl.Table) { x.Left = append(x.Left, impl.Slot{}) }), spoiltTable(func(x *impl.Table) { x.Right = append(x.Right, impl.Slot{}) }), spoiltTable(func(x *impl.Table) { x.Left, x.Right = x.Right, x.Left }))
	return l
}

// notSlots are such as no place of a table of the seed 3 may have.
func notSlots() []impl.Slot {
	l := []impl.Slot{{Key: 1}, {Value: 1}, {Key: 5, Value: 9}, {Key: -1}, {Value: -1}, {Key: 9999}, {Value: 9999}, {Key: math.MinInt}, {Value: math.MaxInt}}
	for _, key := range notKeys() {
		l = append(l, usedSlot(key, 0), usedSlot(key, 5))
	}
	return l
}

// notSlotTables have one slot each that is not as said.
func notSlotTables() []impl.Table {
	l := []impl.Table{}
	for at := range 11 {
		for _, slot := range notSlots() {
			for _, many := range []int{7, 8, 6} {
				l = append(l, spoiltTable(func(x *impl.Table) { x.Left[at], x.Many = slot, many }), spoiltTable(func(x *impl.Table) { x.Right[at], x.Many = slot, many }))
			}
		}
		// A key that is Used at a place that is not its own.
		for _, key := range []int{1, 2, 300, 9000} {
			left, right := emptyTable(3), emptyTable(3)
			left.Left[at], right.Right[at] = usedSlot(key, 5), usedSlot(key, 5)
			left.Many, right.Many = 1, 1
			if slowFirst(3, key) != at {
				l = append(l, left)
			}
			if slowSecond(3, key) != at {
				l = append(l, right)
			}
		}
	}
	return l
}

// notOnceTables have a key that is Used twice, and values that are none.
func notOnceTables() []impl.Table {
	l := []impl.Table{}
	for seed := range 12 {
		for _, key := range []int{0, 1, 12, 500, 9999} {
			x := withRight(withLeft(emptyTable(seed), key, 5), key, 5)
			y := withRight(withLeft(emptyTable(seed), key, 5), key, 6)
			y.Many = 1
			l = append(l, x, y, withRight(withLeft(emptyTable(seed), key, 0), key, 9999))
			for _, value := range notSlotValues() {
				l = append(l, withLeft(emptyTable(seed), key, value), withRight(emptyTable(seed), key, value))
			}
		}
	}
	for _, key := range []int{0, 5, 17, 9998} {
		l = append(l, spoiltTable(func(x *impl.Table) { *x = withRight(*x, key, 1) }))
	}
	for _, key := range []int{22, 121, 9999} {
		l = append(l, spoiltTable(func(x *impl.Table) { *x = withLeft(*x, key, 1) }))
	}
	return l
}

func notTables() []impl.Table {
	return slices.Concat(notShapeTables(), notSlotTables(), notOnceTables())
}

func TestPromise12TablesThatAreNotGood(t *testing.T) {
	for _, x := range notTables() {
		if isSlowTable(x) {
			t.Fatalf("good %v", x)
		}
		refusedTable(t, x)
	}
}
