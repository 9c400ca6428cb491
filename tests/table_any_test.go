package tests

import (
	"math"
	"slices"
	"testing"

	"loop.example/g00405/impl"
)

// goodTables are empty, with few keys, with many, and full.
func goodTables() []impl.Table {
	l := []impl.Table{emptyTable(0), emptyTable(99), knownTable(), fullTable(0), fullTable(99), withRight(withLeft(emptyTable(0), 0, 1), 121, 2)}
	for _, there := range []int{0, 3, 10} {
		for on := range 3 {
			x, _, _ := turningTable(there, there, on)
			l = append(l, x)
		}
	}
	for seed := range 20 {
		x, _, _ := slowPlayTable(5*seed, someNumbers(80, 300, seed))
		l = append(l, x)
	}
	return append(l, tableOfKeys(0, []int{13, 14, 16, 40, 47, 54, 59, 68, 84, 97, 114, 118, 125, 148, 163, 166, 176, 184, 202, 214, 221, 237}))
}

// oddTables have anything in their slots, mostly not as said.
func oddTables() []impl.Table {
	numbers := []int{0, 1, 11, 12, 121, 9999, 10000, -1, -12, 1 << 32, math.MinInt, math.MaxInt}
	l := []impl.Table{}
	for seed := range 80 {
		b := []byte(textOf(120, seed))
		x := impl.Table{Seed: numbers[int(b[0])%(2+seed%11)], Many: int(b[1]) % 4}
		for k, c := range b[2 : 24+seed%2] {
			slot := impl.Slot{}
			if c%8 == 0 {
				slot = impl.Slot{Used: b[25+k]%4 != 0, Key: numbers[int(b[50+k])%len(numbers)], Value: numbers[int(b[75+k])%len(numbers)]}
			}
			if k < 11 {
				x.Left = append(x.Left, slot)
			} else {
				x.Right = append(x.Right, slot)
			}
		}
		l = append(l, x)
	}
	return l
}

func anyTables() []impl.Table {
	return slices.Concat(goodTables(), notShapeTables(), notOnceTables(), oddTables())
}

// fewTables leaves most of those out that are not good for one reason.
func fewTables() []impl.Table {
	l := slices.Concat(goodTables(), notShapeTables(), oddTables())
	for k, x := range slices.Concat(notSlotTables(), notOnceTables()) {
		if k%37 == 0 {
			l = append(l, x)
		}
	}
	return l
}

func anyTableNumbers() []int {
	return append(anyNumbers(), 5, 10, 11, 12, 22, 99, 100, 121, 9998, 9999, 10000, 10001, -10, -99, -122, -9999, -10000, -10001)
}

func checkFindKey(t *testing.T, x impl.Table, key int) {
	t.Helper()
	want, is := 0, isSlowTable(x)
	if is {
		want, is = valuesIn(x)[key], slices.Contains(keysOf(valuesIn(x)), key)
	}
	if n, ok := impl.FindKey(x, key); n != want || ok != is {
		t.Fatalf("FindKey %v %d: %v %v, want %v %v", x, key, n, ok, want, is)
	}
}

func checkGoodTable(t *testing.T, x impl.Table) {
	t.Helper()
	is, keys := isSlowTable(x), []int(nil)
	if is {
		keys = keysOf(valuesIn(x))
	}
	if impl.GoodTable(x) != is {
		t.Fatalf("GoodTable %v: %v", x, !is)
	}
	if l, ok := impl.KeysIn(x); !slices.Equal(l, keys) || ok != is {
		t.Fatalf("KeysIn %v: %v %v, want %v %v", x, l, ok, keys, is)
	}
}

func TestPromise19TablesOfAnything(t *testing.T) {
	good := 0
	for _, x := range anyTables() {
		good += bitOf(isSlowTable(x))
		checkGoodTable(t, x)
		for _, n := range anyTableNumbers() {
			checkFindKey(t, x, n)
			checkDropKey(t, x, n)
			checkRehash(t, x, n)
			for _, value := range []int{0, 9999, -1, 10000, n} {
				checkPutKey(t, x, n, value)
			}
			checkPutKey(t, x, 0, n)
			checkPutKey(t, x, 9999, n)
		}
	}
	if good < 35 {
		t.Error("too few good ones", good)
	}
}

func TestPromise19TableNumbersOfAnything(t *testing.T) {
	for _, n := range anyTableNumbers() {
		for _, m := range anyTableNumbers() {
			is := n >= 0 && n <= 99 && m >= 0 && m <= 9999
			first, second := 0, 0
			if is {
				first, second = slowFirst(n, m), slowSecond(n, m)
			}
			if a, b, ok := impl.PlacesOf(n, m); a != first || b != second || ok != is {
				t.Fatal("PlacesOf", n, m, a, b, ok)
			}
			checkPlayTable(t, n, []int{m})
			checkPlayTable(t, n, []int{m, n, 5, m})
			checkPlayTable(t, 0, []int{5, n, m})
		}
		checkPlayTable(t, n, nil)
		checkPlayTable(t, n, anyTableNumbers())
		checkPlayTable(t, n, make([]int, 81))
		want := impl.Table{}
		if n >= 0 && n <= 99 {
			want = emptyTable(n)
		}
		if x, ok := impl.NewTable(n); !sameTable(x, want) || ok == isNoTable(want) {
			t.Fatal("NewTable", n, x, ok)
		}
	}
}

// heldTable is a table with memory behind each of its rows, and a copy of all of it.
type heldTable struct {
	table impl.Table
	left  []impl.Slot
	right []impl.Slot
}

func holdTable(x impl.Table, behind impl.Slot) heldTable {
	left := append(slices.Clone(x.Left), behind, impl.Slot{}, behind)
	right := append(slices.Clone(x.Right), behind, behind, impl.Slot{})
	h := heldTable{x, slices.Clone(left), slices.Clone(right)}
	h.table.Left, h.table.Right = left[:len(x.Left)], right[:len(x.Right)]
	return h
}

func (h heldTable) stays(t *testing.T) {
	t.Helper()
	if !slices.Equal(h.table.Left[:len(h.left)], h.left) || !slices.Equal(h.table.Right[:len(h.right)], h.right) {
		t.Fatal("written into", h.table.Left[:len(h.left)], h.table.Right[:len(h.right)], h.left, h.right)
	}
}

// spoilTable writes over all memory that an answer has, list by list, and looks whether the others stay.
func spoilTable(t *testing.T, x impl.Table) {
	t.Helper()
	was := cloneTable(x)
	overwrite(x.Left, usedSlot(-77, -77))
	if !slices.Equal(x.Right, was.Right) {
		t.Fatal("rows of an answer share memory", was)
	}
	overwrite(x.Right, usedSlot(-78, -78))
	if len(x.Left) > 0 && x.Left[0] != usedSlot(-77, -77) {
		t.Fatal("rows of an answer share memory", was)
	}
}

// checkTableMemory asks for the same answer of a table with anything behind its rows, all of it new.
func checkTableMemory(t *testing.T, x impl.Table, ask func(x impl.Table) (impl.Table, []int, bool)) {
	t.Helper()
	want, wantList, wantOk := ask(cloneTable(x))
	want, wantList = cloneTable(want), slices.Clone(wantList)
	for _, behind := range []impl.Slot{{}, usedSlot(0, 0), usedSlot(121, 9), {Key: -1}} {
		h := holdTable(x, behind)
		for range 2 {
			y, l, ok := ask(h.table)
			h.stays(t)
			if !sameTable(y, want) || !slices.Equal(l, wantList) || ok != wantOk {
				t.Fatalf("reads behind %v, or is another one later: %v %v %v, want %v %v", x, y, l, ok, want, wantList)
			}
			later, last, _ := ask(h.table)
			spoilTable(t, y)
			spoil(l)
			h.stays(t)
			if !sameTable(later, want) || !slices.Equal(last, wantList) {
				t.Fatalf("two answers share memory %v: %v %v", x, later, last)
			}
		}
	}
}

func TestPromise19SlotMemory(t *testing.T) {
	for _, x := range fewTables() {
		checkTableMemory(t, x, func(x impl.Table) (impl.Table, []int, bool) { return impl.Table{}, nil, impl.GoodTable(x) })
		checkTableMemory(t, x, func(x impl.Table) (impl.Table, []int, bool) {
			l, ok := impl.KeysIn(x)
			return impl.Table{}, l, ok
		})
		for _, seed := range []int{-1, 0, 7, x.Seed, 100} {
			checkTableMemory(t, x, func(x impl.Table) (impl.Table, []int, bool) {
				y, ok := impl.RehashTo(x, seed)
				return y, nil, ok
			})
		}
		for _, key := range []int{-1, 0, 5, 22, 33, 121, 242, 9999, 10000, keyWith(max(x.Seed%100, 0), 0, 6, 9)} {
			checkKeyMemory(t, x, key)
		}
	}
}

func checkKeyMemory(t *testing.T, x impl.Table, key int) {
	t.Helper()
	checkTableMemory(t, x, func(x impl.Table) (impl.Table, []int, bool) {
		n, ok := impl.FindKey(x, key)
		return impl.Table{}, []int{n}, ok
	})
	checkTableMemory(t, x, func(x impl.Table) (impl.Table, []int, bool) {
		y, ok := impl.DropKey(x, key)
		return y, nil, ok
	})
	for _, value := range []int{0, 9999, 10000} {
		checkTableMemory(t, x, func(x impl.Table) (impl.Table, []int, bool) {
			y, n, ok := impl.PutKey(x, key, value)
			return y, []int{n}, ok
		})
	}
}

// NewTable hands out memory of its own each time.
func TestPromise19NewTableMemory(t *testing.T) {
	for _, seed := range []int{0, 0, 99} {
		x, _ := impl.NewTable(seed)
		other, _ := impl.NewTable(seed)
		spoilTable(t, x)
		later, _ := impl.NewTable(seed)
		if !sameTable(other, emptyTable(seed)) || !sameTable(later, emptyTable(seed)) {
			t.Fatal("written into", other, later)
		}
	}
}

func TestPromise19TablePlayMemory(t *testing.T) {
	lists := [][]int{nil, {0}, {-1}, {10000}, {0, 121, 242, -1}, someNumbers(80, 300, 1), someNumbers(79, 40, 2), make([]int, 81)}
	for _, list := range lists {
		want, wantDone, wantOk := slowPlayTable(5, list)
		for _, behind := range []int{0, -1, 7, 10000} {
			h := hold(list, behind)
			for range 2 {
				x, done, ok := impl.PlayTable(5, h.list)
				later, last, _ := impl.PlayTable(5, h.list)
				h.stays(t)
				if !sameTable(x, want) || !slices.Equal(done, wantDone) || ok != wantOk {
					t.Fatal("reads behind, or is another one later", list, x, done, ok)
				}
				spoilTable(t, x)
				if !slices.Equal(done, wantDone) {
					t.Fatal("an answer's lists share memory", list, done)
				}
				for k := range done[:cap(done)] {
					done[:cap(done)][k] = !done[:cap(done)][k]
				}
				h.stays(t)
				if !sameTable(later, want) || !slices.Equal(last, wantDone) {
					t.Fatal("two answers share memory", list, later, last)
				}
			}
		}
	}
}

// sharedRows are memory in which both rows of a table lie: Left from its front on, Right up to its end; some are one list, some share some slots, some lie one behind the other.
func sharedRows() [][]impl.Slot {
	one, twice, some := make([]impl.Slot, 11), make([]impl.Slot, 16), make([]impl.Slot, 16)
	twice[5] = usedSlot(5, 1)
	some[3], some[15] = usedSlot(3, 1), usedSlot(119, 2)
	full := fullTable(0)
	return [][]impl.Slot{one, slices.Clone(full.Left), twice, some, slices.Concat(full.Left, full.Right)}
}

// What is answered is what it is for copies, and none is written into.
func TestPromise19SharedRows(t *testing.T) {
	good := 0
	for _, memory := range sharedRows() {
		was := slices.Clone(memory)
		x := impl.Table{Left: memory[:11], Right: memory[len(memory)-11:]}
		for _, slot := range slices.Concat(x.Left, x.Right) {
			x.Many += bitOf(slot.Used)
		}
		good += bitOf(isSlowTable(x))
		checkGoodTable(t, x)
		for key := range 150 {
			checkPutKey(t, x, key, 3)
			checkDropKey(t, x, key)
			checkFindKey(t, x, key)
			y, _, _ := impl.PutKey(x, key, 8)
			spoilTable(t, y)
			y, _ = impl.DropKey(x, key)
			spoilTable(t, y)
		}
		for _, seed := range []int{0, 3, 99} {
			checkRehash(t, x, seed)
			y, _ := impl.RehashTo(x, seed)
			spoilTable(t, y)
		}
		if !slices.Equal(memory, was) {
			t.Fatal("written into", memory, was)
		}
	}
	if good != 3 {
		t.Error("not as many good ones", good)
	}
}
