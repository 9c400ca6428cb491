package tests

import (
	"math"
	"math/bits"
	"slices"
	"testing"

	"loop.example/g00405/impl"
)

func heldAt(at int, order int) impl.Held {
	return impl.Held{At: at, Order: order}
}

// roomsOf has the free places order by order, from 0 on; the rows that are not told are empty.
func roomsOf(free [][]int, held ...impl.Held) impl.Rooms {
	rows := make([][]int, 6)
	copy(rows, free)
	return impl.Rooms{Free: rows, Held: held}
}

func oneRoom() impl.Rooms {
	return roomsOf([][]int{5: {0}})
}

func cloneRooms(r impl.Rooms) impl.Rooms {
	return impl.Rooms{Free: copyMatrix(r.Free), Held: slices.Clone(r.Held)}
}

func sameRooms(a impl.Rooms, b impl.Rooms) bool {
	return sameMatrix(a.Free, b.Free) && slices.Equal(a.Held, b.Held)
}

func isNoRooms(r impl.Rooms) bool {
	return len(r.Free) == 0 && len(r.Held) == 0
}

// roomMask has a bit for each place of a room; it tells false where there is none such.
func roomMask(at int, order int) (uint64, bool) {
	for _, first := range slowPlaces(order) {
		if first == at {
			return (1<<(1<<order) - 1) << first, true
		}
	}
	return 0, false
}

// slowPlaces are those of all rooms of an order.
func slowPlaces(order int) []int {
	l := []int{}
	if order < 0 || order > 5 {
		return l
	}
	for at := 0; at < 32; at += 1 << order {
		l = append(l, at)
	}
	return l
}

// isSlowRooms adds up masks: each place has to come, and none twice; no two free rooms that lie beside each other make one that there could be.
func isSlowRooms(r impl.Rooms) bool {
	if len(r.Free) != 6 {
		return false
	}
	all, seen := uint64(0), map[[2]int]int{}
	put := func(at int, order int) bool {
		mask, ok := roomMask(at, order)
		ok = ok && all&mask == 0
		all |= mask
		return ok
	}
	for order, row := range r.Free {
		for k, at := range row {
			if !put(at, order) || k > 0 && row[k-1] > at {
				return false
			}
			seen[[2]int{at >> (order + 1), order}]++
			if seen[[2]int{at >> (order + 1), order}] == 2 {
				return false
			}
		}
	}
	for k, held := range r.Held {
		if !put(held.At, held.Order) || k > 0 && r.Held[k-1].At > held.At {
			return false
		}
	}
	return all == math.MaxUint32
}

func slowOrder(size int) int {
	return bits.Len(uint(size - 1))
}

func notSizes() []int {
	return []int{0, -1, -2, -8, -31, -32, -33, 33, 34, 63, 64, 65, 1 << 32, 1<<32 + 8, -1 << 32, math.MinInt, math.MinInt + 1, math.MaxInt - 1, math.MaxInt}
}

func notPlaces() []int {
	return []int{-1, -2, -4, -8, -16, -31, -32, -64, 32, 33, 40, 48, 63, 64, 1 << 32, 1<<32 + 8, -1 << 32, math.MinInt, math.MinInt + 1, math.MaxInt - 1, math.MaxInt}
}

func notOrders() []int {
	return []int{-1, -2, -5, -63, -64, 6, 7, 31, 32, 33, 62, 63, 64, 65, 1 << 32, 1<<32 + 2, -1 << 32, math.MinInt, math.MaxInt}
}

func TestPromise14Constants(t *testing.T) {
	if impl.RoomBits != 5 || impl.RoomSize != 32 || impl.MaxRoomSteps != 60 {
		t.Error(impl.RoomBits, impl.RoomSize, impl.MaxRoomSteps)
	}
}

func TestPromise14Orders(t *testing.T) {
	want := []int{0, 1, 2, 2, 3, 3, 3, 3, 4, 4, 4, 4, 4, 4, 4, 4, 5, 5, 5, 5, 5, 5, 5, 5, 5, 5, 5, 5, 5, 5, 5, 5}
	for k, order := range want {
		if o, ok := impl.OrderFor(k + 1); o != order || !ok || slowOrder(k+1) != order {
			t.Error(k+1, o, ok, order)
		}
	}
	for _, size := range notSizes() {
		if o, ok := impl.OrderFor(size); o != 0 || ok {
			t.Error(size, o, ok)
		}
	}
}

func TestPromise14KnownBuddies(t *testing.T) {
	for _, x := range [][3]int{
		{0, 0, 1}, {1, 0, 0}, {30, 0, 31}, {31, 0, 30}, {0, 1, 2}, {2, 1, 0}, {4, 1, 6}, {28, 1, 30}, {30, 1, 28}, {0, 2, 4}, {4, 2, 0}, {12, 2, 8}, {28, 2, 24}, {0, 3, 8}, {8, 3, 0}, {16, 3, 24}, {24, 3, 16}, {0, 4, 16}, {16, 4, 0},
	} {
		if b, ok := impl.BuddyOf(x[0], x[1]); b != x[2] || !ok {
			t.Error(x, b, ok)
		}
	}
}

func checkBuddyOf(t *testing.T, at int, order int) {
	t.Helper()
	want, is := 0, false
	for k, place := range slowPlaces(order) {
		if place == at && order < 5 {
			// Rooms of an order go in twos from the front on.
			want, is = slowPlaces(order)[k+1-2*(k%2)], true
		}
	}
	if b, ok := impl.BuddyOf(at, order); b != want || ok != is {
		t.Fatal("BuddyOf", at, order, b, ok, want, is)
	}
}

func TestPromise14EachBuddy(t *testing.T) {
	for order := -3; order < 70; order++ {
		for at := -70; at < 140; at++ {
			checkBuddyOf(t, at, order)
		}
	}
	for _, order := range append(notOrders(), 0, 1, 2, 3, 4, 5) {
		for _, at := range append(notPlaces(), 0, 1, 2, 4, 8, 16, 31) {
			checkBuddyOf(t, at, order)
		}
	}
}

// The buddy of a buddy is the room itself, and both are just the room of the next order.
func TestPromise14BuddiesMakeOne(t *testing.T) {
	for order := range 5 {
		for _, at := range slowPlaces(order) {
			b, ok := impl.BuddyOf(at, order)
			back, isBack := impl.BuddyOf(b, order)
			one, _ := roomMask(at, order)
			other, _ := roomMask(b, order)
			both, isRoom := roomMask(min(at, b), order+1)
			if !ok || !isBack || back != at || !isRoom || one|other != both || one&other != 0 {
				t.Error(at, order, b, back)
			}
		}
	}
}

func isCountedFree(t *testing.T, r impl.Rooms, free int, most int) {
	t.Helper()
	if !impl.GoodRooms(r) || !isSlowRooms(r) {
		t.Errorf("not good %v", r)
	}
	if n, ok := impl.FreeIn(r); n != free || !ok {
		t.Errorf("FreeIn %v: %v %v, want %v", r, n, ok, free)
	}
	if n, ok := impl.MostFree(r); n != most || !ok {
		t.Errorf("MostFree %v: %v %v, want %v", r, n, ok, most)
	}
}

// knownRooms is good: of 3 places one is held, and of 8, and of 2.
func knownRooms() impl.Rooms {
	return roomsOf([][]int{{1}, {2}, {4, 28}, {16}, nil, nil}, heldAt(0, 0), heldAt(8, 3), heldAt(24, 2))
}

// allHeld has all places in held rooms of one order.
func allHeld(order int) impl.Rooms {
	r := roomsOf(nil)
	for _, at := range slowPlaces(order) {
		r.Held = append(r.Held, heldAt(at, order))
	}
	return r
}

// everyOther has a free room and a held one of an order by turns; first tells which of two is held.
func everyOther(order int, first int) impl.Rooms {
	r := roomsOf(nil)
	for k, at := range slowPlaces(order) {
		if k%2 == first {
			r.Held = append(r.Held, heldAt(at, order))
		} else {
			r.Free[order] = append(r.Free[order], at)
		}
	}
	return r
}

func TestPromise14KnownCounts(t *testing.T) {
	isCountedFree(t, impl.NewRooms(), 32, 5)
	isCountedFree(t, oneRoom(), 32, 5)
	isCountedFree(t, knownRooms(), 19, 3)
	for order := range 6 {
		isCountedFree(t, allHeld(order), 0, -1)
	}
	for order := range 5 {
		isCountedFree(t, everyOther(order, 0), 16, order)
		isCountedFree(t, everyOther(order, 1), 16, order)
	}
	isCountedFree(t, roomsOf([][]int{{1}, {2}, {4}, {8}, {16}}, heldAt(0, 0)), 31, 4)
	isCountedFree(t, roomsOf([][]int{{30}, {28}, {24}, {16}, {0}}, heldAt(31, 0)), 31, 4)
	isCountedFree(t, roomsOf([][]int{{30}}, heldAt(0, 4), heldAt(16, 3), heldAt(24, 2), heldAt(28, 1), heldAt(31, 0)), 1, 0)
	isCountedFree(t, roomsOf([][]int{1: {28}}, heldAt(0, 4), heldAt(16, 3), heldAt(24, 2), heldAt(30, 0), heldAt(31, 0)), 2, 1)
	// Neighbours that are not buddies may be free in one order, and buddies' places in two.
	isCountedFree(t, roomsOf([][]int{3: {8, 16}}, heldAt(0, 3), heldAt(24, 3)), 16, 3)
	isCountedFree(t, roomsOf([][]int{2: {4}, 3: {8}}, heldAt(0, 2), heldAt(16, 4)), 12, 3)
}

func TestPromise14NewRooms(t *testing.T) {
	if r := impl.NewRooms(); !sameRooms(r, oneRoom()) {
		t.Error(r)
	}
	for at := -1; at < 33; at++ {
		refusedGive(t, impl.NewRooms(), at)
	}
}

func refusedTake(t *testing.T, r impl.Rooms, size int) {
	t.Helper()
	if x, at, ok := impl.TakeRoom(r, size); !isNoRooms(x) || at != 0 || ok {
		t.Errorf("TakeRoom %v %d: %v %v %v", r, size, x, at, ok)
	}
}

func refusedGive(t *testing.T, r impl.Rooms, at int) {
	t.Helper()
	if x, ok := impl.GiveRoom(r, at); !isNoRooms(x) || ok {
		t.Errorf("GiveRoom %v %d: %v %v", r, at, x, ok)
	}
}

// refusedRooms asks everything of rooms that are not good.
func refusedRooms(t *testing.T, r impl.Rooms) {
	t.Helper()
	if impl.GoodRooms(r) {
		t.Errorf("good %v", r)
	}
	if n, ok := impl.FreeIn(r); n != 0 || ok {
		t.Errorf("FreeIn %v: %v %v", r, n, ok)
	}
	if n, ok := impl.MostFree(r); n != 0 || ok {
		t.Errorf("MostFree %v: %v %v", r, n, ok)
	}
	for _, size := range []int{1, 2, 4, 8, 32, 0, 33} {
		refusedTake(t, r, size)
	}
	for _, at := range []int{0, 1, 2, 4, 8, 16, 24, 31, -1, 32} {
		refusedGive(t, r, at)
	}
	for _, held := range r.Held[:min(len(r.Held), 3)] {
		refusedGive(t, r, held.At)
	}
}

func spoiltRooms(spoil func(r *impl.Rooms)) impl.Rooms {
	r := knownRooms()
	spoil(&r)
	return r
}

// notOrderedRooms have too few or too many orders, or lists that do not rise.
func notOrderedRooms() []impl.Rooms {
	l := []impl.Rooms{{}, {Held: allHeld(5).Held}, {Held: allHeld(0).Held}, {Free: make([][]int, 6)}, {Free: [][]int{5: {0}}, Held: []impl.Held{{}}}}
	for _, n := range []int{0, 1, 4, 5, 7, 8, 12, 5000} {
		free := make([][]int, n)
		copy(free, oneRoom().Free)
		l = append(l, impl.Rooms{Free: free}, impl.Rooms{Free: make([][]int, n), Held: allHeld(5).Held}, impl.Rooms{Free: make([][]int, n), Held: allHeld(2).Held})
	}
	l = append(l, impl.Rooms{Free: [][]int{5: {0}, 6: {0}}}, impl.Rooms{Free: [][]int{6: {0}}}, impl.Rooms{Free: [][]int{5: {0}, 6: nil}}, impl.Rooms{Free: [][]int{4: {}}, Held: allHeld(3).Held})
	for order := range 4 {
		free, held := everyOther(order, 1), everyOther(order, 0)
		slices.Reverse(free.Free[order])
		slices.Reverse(held.Held)
		l = append(l, free, held)
	}
	l = append(l, spoiltRooms(func(r *impl.Rooms) { r.Free[2] = []int{28, 4} }), spoiltRooms(func(r *impl.Rooms) { r.Held[0], r.Held[1] = r.Held[1], r.Held[0] }), spoiltRooms(func(r *impl.Rooms) { r.Held[1], r.Held[2] = r.Held[2], r.Held[1] }), spoiltRooms(func(r *impl.Rooms) { slices.Reverse(r.Held) }), spoiltRooms(func(r *impl.Rooms) { slices.Reverse(r.Free) }))
	return append(l, impl.Rooms{Free: [][]int{make([]int, 5000), nil, nil, nil, nil, nil}}, impl.Rooms{Free: make([][]int, 6), Held: make([]impl.Held, 5000)}, impl.Rooms{Free: [][]int{{0}, {0}, {0}, {0}, {0}, {0}}})
}

// notTilingRooms have a place in two rooms, one in none, or two buddies that are free.
func notTilingRooms() []impl.Rooms {
	l := []impl.Rooms{spoiltRooms(func(r *impl.Rooms) { r.Held = nil }), spoiltRooms(func(r *impl.Rooms) { r.Free = make([][]int, 6) })}
	for order := range 6 {
		for _, at := range slowPlaces(order) {
			// Each room once more, free or held, of its order or another one.
			l = append(l, spoiltRooms(func(r *impl.Rooms) { r.Free[order] = risingWith(r.Free[order], at) }), spoiltRooms(func(r *impl.Rooms) { r.Held = heldWith(r.Held, heldAt(at, order)) }))
			whole := oneRoom()
			whole.Held = []impl.Held{heldAt(at, order)}
			l = append(l, whole)
		}
	}
	for k := range 3 {
		l = append(l, spoiltRooms(func(r *impl.Rooms) { r.Held = slices.Delete(r.Held, k, k+1) }), spoiltRooms(func(r *impl.Rooms) { r.Held = slices.Insert(r.Held, k, r.Held[k]) }))
	}
	for order := range 4 {
		l = append(l, spoiltRooms(func(r *impl.Rooms) { r.Free[order] = r.Free[order][1:] }), spoiltRooms(func(r *impl.Rooms) { r.Free[order] = slices.Insert(r.Free[order], 0, r.Free[order][0]) }))
	}
	for order := range 5 {
		all, r := allHeld(order), roomsOf(nil)
		r.Free[order] = slowPlaces(order)
		l = append(l, r)
		for k := 0; k+1 < len(all.Held); k += 2 {
			r = allHeld(order)
			r.Free[order] = []int{all.Held[k].At, all.Held[k+1].At}
			r.Held = slices.Delete(r.Held, k, k+2)
			l = append(l, r)
		}
	}
	return l
}

func risingWith(row []int, at int) []int {
	return slices.Sorted(slices.Values(append(slices.Clone(row), at)))
}

func heldWith(l []impl.Held, room impl.Held) []impl.Held {
	l = append(slices.Clone(l), room)
	slices.SortStableFunc(l, func(a impl.Held, b impl.Held) int { return a.At - b.At })
	return l
}

// notPlacedRooms have a room at a place that is none of its order, or of an order that there is not.
func notPlacedRooms() []impl.Rooms {
	l := []impl.Rooms{}
	for order := range 6 {
		for at := range 32 {
			if _, ok := roomMask(at, order); !ok {
				r := roomsOf(nil)
				r.Free[order] = []int{at}
				l = append(l, r, roomsOf(nil, heldAt(at, order)), spoiltRooms(func(r *impl.Rooms) { r.Held[1] = heldAt(at, order) }))
			}
		}
		for _, at := range notPlaces() {
			r, front, behind := everyOther(order, 0), everyOther(order, 0), everyOther(order, 1)
			r.Free[order] = []int{at}
			front.Free[order] = slices.Insert(front.Free[order], 0, at)
			behind.Held = append(behind.Held, heldAt(at, order))
			l = append(l, r, front, behind, spoiltRooms(func(r *impl.Rooms) { r.Free[order] = append(r.Free[order], at) }))
		}
	}
	for _, at := range notPlaces() {
		l = append(l, spoiltRooms(func(r *impl.Rooms) { r.Held[0].At = at }), spoiltRooms(func(r *impl.Rooms) { r.Held[2].At = at }), roomsOf([][]int{5: {at}}), roomsOf(nil, heldAt(at, 5)))
	}
	for _, order := range notOrders() {
		l = append(l, roomsOf(nil, heldAt(0, order)), spoiltRooms(func(r *impl.Rooms) { r.Held[0].Order = order }), spoiltRooms(func(r *impl.Rooms) { r.Held[1].Order = order }), spoiltRooms(func(r *impl.Rooms) { r.Held[2].Order = order }))
	}
	// Two rooms that cover all places together, but lie across those of their order.
	return append(l, roomsOf([][]int{2: {14}, 3: {0}, 4: {16}}, heldAt(8, 2), heldAt(12, 1)), roomsOf([][]int{3: {0, 24}}, heldAt(8, 4)), roomsOf([][]int{4: {8}}, heldAt(0, 3), heldAt(24, 3)), roomsOf([][]int{1: {1}}, heldAt(0, 0), heldAt(3, 0), heldAt(4, 2), heldAt(8, 3), heldAt(16, 4)))
}

func notRooms() []impl.Rooms {
	return slices.Concat(notOrderedRooms(), notTilingRooms(), notPlacedRooms())
}

func TestPromise14RoomsThatAreNotGood(t *testing.T) {
	for _, r := range notRooms() {
		if isSlowRooms(r) {
			t.Fatalf("good %v", r)
		}
		refusedRooms(t, r)
	}
}

// Of four places each room is there or not, free, held or both; beside them all is held. Just 26 of these are good, wherever the four lie, as there are 26 rooms of four places in halves.
func TestPromise14EachRoomOfFourPlaces(t *testing.T) {
	for first := 0; first < 32; first += 4 {
		good := 0
		for code := range 1 << 14 {
			r := allHeld(2)
			r.Held = slices.Delete(r.Held, first/4, first/4+1)
			for k, room := range []impl.Held{{At: 0}, {At: 1}, {At: 2}, {At: 3}, {At: 0, Order: 1}, {At: 2, Order: 1}, {At: 0, Order: 2}} {
				room.At += first
				if code>>(2*k)&1 == 1 {
					r.Free[room.Order] = append(r.Free[room.Order], room.At)
				}
				if code>>(2*k)&2 == 2 {
					r.Held = heldWith(r.Held, room)
				}
			}
			is := isSlowRooms(r)
			good += bitOf(is)
			if impl.GoodRooms(r) != is {
				t.Fatalf("GoodRooms %v, want %v", r, is)
			}
		}
		if good != 26 {
			t.Error(first, good)
		}
	}
}
