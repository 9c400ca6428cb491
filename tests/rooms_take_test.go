package tests

import (
	"slices"
	"testing"

	"loop.example/g00405/impl"
)

// roomTree is a room of the model: in halves, or else held or free.
type roomTree struct {
	held   bool
	halves []roomTree
}

func (x roomTree) isFree() bool {
	return !x.held && len(x.halves) == 0
}

// joinedTrees is halved, but where both are free.
func joinedTrees(left roomTree, right roomTree) roomTree {
	if left.isFree() && right.isFree() {
		return roomTree{}
	}
	return roomTree{halves: []roomTree{left, right}}
}

func (x roomTree) lay(r *impl.Rooms, at int, order int) {
	switch {
	case x.isFree():
		r.Free[order] = append(r.Free[order], at)
	case x.held:
		r.Held = append(r.Held, heldAt(at, order))
	default:
		x.halves[0].lay(r, at, order-1)
		x.halves[1].lay(r, at+1<<(order-1), order-1)
	}
}

func (x roomTree) rooms() impl.Rooms {
	r := roomsOf(nil)
	x.lay(&r, 0, 5)
	return r
}

// find has the place and the order of the free room that is taken, and order 6 where there is none.
func (x roomTree) find(at int, order int, least int) (int, int) {
	switch {
	case order < least || x.held:
		return 0, 6
	case x.isFree():
		return at, order
	}
	left, leftOrder := x.halves[0].find(at, order-1, least)
	right, rightOrder := x.halves[1].find(at+1<<(order-1), order-1, least)
	if rightOrder < leftOrder {
		return right, rightOrder
	}
	return left, leftOrder
}

// holding has a room held that begins at a place, within a free one.
func (x roomTree) holding(at int, order int, least int) roomTree {
	if x.isFree() && order == least {
		return roomTree{held: true}
	}
	halves := []roomTree{{}, {}}
	copy(halves, x.halves)
	half := 1 << (order - 1)
	halves[at/half] = halves[at/half].holding(at%half, order-1, least)
	return roomTree{halves: halves}
}

func (x roomTree) take(size int) (roomTree, int, bool) {
	if size < 1 || size > 32 {
		return x, 0, false
	}
	at, order := x.find(0, 5, slowOrder(size))
	if order == 6 {
		return x, 0, false
	}
	return x.holding(at, 5, slowOrder(size)), at, true
}

func (x roomTree) giveIn(at int, order int) (roomTree, bool) {
	if len(x.halves) == 0 {
		return roomTree{}, x.held && at == 0
	}
	halves, half := slices.Clone(x.halves), 1<<(order-1)
	given, ok := halves[at/half].giveIn(at%half, order-1)
	halves[at/half] = given
	return joinedTrees(halves[0], halves[1]), ok
}

func (x roomTree) give(at int) (roomTree, bool) {
	if at < 0 || at > 31 {
		return x, false
	}
	if next, ok := x.giveIn(at, 5); ok {
		return next, true
	}
	return x, false
}

func (x roomTree) countFree(order int) (int, int) {
	if len(x.halves) == 0 {
		if x.held {
			return 0, -1
		}
		return 1 << order, order
	}
	left, leftMost := x.halves[0].countFree(order - 1)
	right, rightMost := x.halves[1].countFree(order - 1)
	return left + right, max(leftMost, rightMost)
}

// treesOf has each tree of an order.
func treesOf(order int) []roomTree {
	l := []roomTree{{}, {held: true}}
	if order == 0 {
		return l
	}
	for _, left := range treesOf(order - 1) {
		for _, right := range treesOf(order - 1) {
			if !left.isFree() || !right.isFree() {
				l = append(l, roomTree{halves: []roomTree{left, right}})
			}
		}
	}
	return l
}

// someTree is halved, held or free by the bytes of a text.
func someTree(order int, seed int) roomTree {
	s, k := textOf(128, seed), 0
	var grow func(order int) roomTree
	grow = func(order int) roomTree {
		c := int(s[k])
		k++
		if order == 0 || c%(6+seed%5) < 3 && order < 5 {
			return roomTree{held: c/16%(2+seed%3) > 0}
		}
		left := grow(order - 1)
		return joinedTrees(left, grow(order-1))
	}
	return grow(order)
}

func checkTake(t *testing.T, x roomTree, size int) {
	t.Helper()
	next, at, ok := x.take(size)
	want := impl.Rooms{}
	if ok {
		want = next.rooms()
	}
	if r, place, is := impl.TakeRoom(x.rooms(), size); !sameRooms(r, want) || place != at || is != ok {
		t.Fatalf("TakeRoom %v %d: %v %v %v, want %v %v %v", x.rooms(), size, r, place, is, want, at, ok)
	}
}

func checkGive(t *testing.T, x roomTree, at int) {
	t.Helper()
	next, ok := x.give(at)
	want := impl.Rooms{}
	if ok {
		want = next.rooms()
	}
	if r, is := impl.GiveRoom(x.rooms(), at); !sameRooms(r, want) || is != ok {
		t.Fatalf("GiveRoom %v %d: %v %v, want %v %v", x.rooms(), at, r, is, want, ok)
	}
}

func checkTree(t *testing.T, x roomTree) {
	t.Helper()
	r := x.rooms()
	if !impl.GoodRooms(r) || !isSlowRooms(r) {
		t.Fatalf("not good %v", r)
	}
	free, most := x.countFree(5)
	if n, ok := impl.FreeIn(r); n != free || !ok {
		t.Fatalf("FreeIn %v: %v %v, want %v", r, n, ok, free)
	}
	if n, ok := impl.MostFree(r); n != most || !ok {
		t.Fatalf("MostFree %v: %v %v, want %v", r, n, ok, most)
	}
}

func isTaken(t *testing.T, r impl.Rooms, size int, want impl.Rooms, at int) {
	t.Helper()
	if x, place, ok := impl.TakeRoom(r, size); !sameRooms(x, want) || place != at || !ok {
		t.Errorf("TakeRoom %v %d: %v %v %v, want %v %v", r, size, x, place, ok, want, at)
	}
}

func isGiven(t *testing.T, r impl.Rooms, at int, want impl.Rooms) {
	t.Helper()
	if x, ok := impl.GiveRoom(r, at); !sameRooms(x, want) || !ok {
		t.Errorf("GiveRoom %v %d: %v %v, want %v", r, at, x, ok, want)
	}
}

func TestPromise14KnownTakes(t *testing.T) {
	// Halved not at all, once, several times, as often as can be.
	for _, size := range []int{17, 31, 32} {
		isTaken(t, oneRoom(), size, allHeld(5), 0)
	}
	for _, size := range []int{9, 15, 16} {
		isTaken(t, oneRoom(), size, roomsOf([][]int{4: {16}}, heldAt(0, 4)), 0)
	}
	for _, size := range []int{5, 7, 8} {
		isTaken(t, oneRoom(), size, roomsOf([][]int{3: {8}, 4: {16}}, heldAt(0, 3)), 0)
	}
	isTaken(t, oneRoom(), 2, roomsOf([][]int{1: {2}, 2: {4}, 3: {8}, 4: {16}}, heldAt(0, 1)), 0)
	isTaken(t, oneRoom(), 1, roomsOf([][]int{{1}, {2}, {4}, {8}, {16}}, heldAt(0, 0)), 0)
	// Of two free rooms of one order the first one.
	isTaken(t, knownRooms(), 4, roomsOf([][]int{{1}, {2}, {28}, {16}}, heldAt(0, 0), heldAt(4, 2), heldAt(8, 3), heldAt(24, 2)), 4)
	isTaken(t, knownRooms(), 3, roomsOf([][]int{{1}, {2}, {28}, {16}}, heldAt(0, 0), heldAt(4, 2), heldAt(8, 3), heldAt(24, 2)), 4)
	isTaken(t, everyOther(3, 0), 8, roomsOf([][]int{3: {24}}, heldAt(0, 3), heldAt(8, 3), heldAt(16, 3)), 8)
	isTaken(t, everyOther(3, 0), 4, roomsOf([][]int{2: {12}, 3: {24}}, heldAt(0, 3), heldAt(8, 2), heldAt(16, 3)), 8)
	isTaken(t, everyOther(0, 1), 1, roomsOf([][]int{slowPlaces(1)[1:]}, heldWith(everyOther(0, 1).Held, heldAt(0, 0))...), 0)
	// The least order that is enough, also where it lies behind.
	isTaken(t, knownRooms(), 1, roomsOf([][]int{nil, {2}, {4, 28}, {16}}, heldAt(0, 0), heldAt(1, 0), heldAt(8, 3), heldAt(24, 2)), 1)
	isTaken(t, knownRooms(), 2, roomsOf([][]int{{1}, nil, {4, 28}, {16}}, heldAt(0, 0), heldAt(2, 1), heldAt(8, 3), heldAt(24, 2)), 2)
	isTaken(t, knownRooms(), 8, roomsOf([][]int{{1}, {2}, {4, 28}}, heldAt(0, 0), heldAt(8, 3), heldAt(16, 3), heldAt(24, 2)), 16)
	isTaken(t, roomsOf([][]int{2: {24}, 4: {0}}, heldAt(16, 3), heldAt(28, 2)), 1, roomsOf([][]int{{25}, {26}, nil, nil, {0}}, heldAt(16, 3), heldAt(24, 0), heldAt(28, 2)), 24)
	isTaken(t, roomsOf([][]int{{31}, {28}, {24}, {16}, {0}}, heldAt(30, 0)), 1, roomsOf([][]int{1: {28}, 2: {24}, 3: {16}, 4: {0}}, heldAt(30, 0), heldAt(31, 0)), 31)
	// None of the least order, one of a greater: what is halved joins those that are there.
	isTaken(t, roomsOf([][]int{{1}, nil, {4}, {8}, {16}}, heldAt(0, 0), heldAt(2, 1)), 2, roomsOf([][]int{{1}, {6}, nil, {8}, {16}}, heldAt(0, 0), heldAt(2, 1), heldAt(4, 1)), 4)
	isTaken(t, roomsOf([][]int{2: {4}, 4: {16}}, heldAt(0, 2), heldAt(8, 3)), 5, roomsOf([][]int{2: {4}, 3: {24}}, heldAt(0, 2), heldAt(8, 3), heldAt(16, 3)), 16)
	isTaken(t, roomsOf([][]int{{29}, nil, nil, nil, {0}}, heldAt(16, 3), heldAt(24, 2), heldAt(28, 0), heldAt(30, 1)), 2, roomsOf([][]int{{29}, {2}, {4}, {8}}, heldAt(0, 1), heldAt(16, 3), heldAt(24, 2), heldAt(28, 0), heldAt(30, 1)), 0)
}

func TestPromise14TakesWithoutRoom(t *testing.T) {
	for order := range 6 {
		for size := 1; size < 33; size++ {
			refusedTake(t, allHeld(order), size)
		}
	}
	for size := 9; size < 33; size++ {
		refusedTake(t, knownRooms(), size)
	}
	for order := range 5 {
		for size := 1<<order + 1; size < 33; size++ {
			// As many places are free, but not in one room.
			refusedTake(t, everyOther(order, 0), size)
			refusedTake(t, everyOther(order, 1), size)
		}
	}
	for size := 17; size < 33; size++ {
		refusedTake(t, roomsOf([][]int{{1}, {2}, {4}, {8}, {16}}, heldAt(0, 0)), size)
	}
	for _, size := range notSizes() {
		refusedTake(t, oneRoom(), size)
		refusedTake(t, knownRooms(), size)
		refusedTake(t, allHeld(0), size)
	}
}

func TestPromise14KnownGives(t *testing.T) {
	// All go together, from either end.
	for order := range 6 {
		x := roomTree{}.holding(0, 5, order)
		isGiven(t, x.rooms(), 0, oneRoom())
	}
	isGiven(t, roomsOf([][]int{{30}, {28}, {24}, {16}, {0}}, heldAt(31, 0)), 31, oneRoom())
	isGiven(t, roomsOf([][]int{3: {24}, 4: {0}}, heldAt(16, 3)), 16, oneRoom())
	isGiven(t, roomsOf([][]int{{10}, {8}, {12}, {0}, {16}}, heldAt(11, 0)), 11, oneRoom())
	// The buddy is held.
	isGiven(t, allHeld(4), 0, roomsOf([][]int{4: {0}}, heldAt(16, 4)))
	isGiven(t, allHeld(4), 16, roomsOf([][]int{4: {16}}, heldAt(0, 4)))
	isGiven(t, knownRooms(), 8, roomsOf([][]int{{1}, {2}, {4, 28}, {8, 16}}, heldAt(0, 0), heldAt(24, 2)))
	// The buddy is halved, and a part of it is held.
	isGiven(t, roomsOf([][]int{2: {4}, 4: {16}}, heldAt(0, 2), heldAt(8, 3)), 8, roomsOf([][]int{2: {4}, 3: {8}, 4: {16}}, heldAt(0, 2)))
	// The buddy's place is free, but in another order.
	isGiven(t, roomsOf([][]int{2: {8}, 4: {16}}, heldAt(0, 3), heldAt(12, 2)), 0, roomsOf([][]int{2: {8}, 3: {0}, 4: {16}}, heldAt(12, 2)))
	isGiven(t, roomsOf([][]int{{0}, {2}, {4}, {8}}, heldAt(1, 0), heldAt(16, 4)), 16, roomsOf([][]int{{0}, {2}, {4}, {8}, {16}}, heldAt(1, 0)))
	isGiven(t, roomsOf([][]int{{6}, {4}}, heldAt(0, 2), heldAt(7, 0), heldAt(8, 3), heldAt(16, 4)), 0, roomsOf([][]int{{6}, {4}, {0}}, heldAt(7, 0), heldAt(8, 3), heldAt(16, 4)))
	// They go together for a while, and no further.
	isGiven(t, knownRooms(), 0, roomsOf([][]int{2: {28}, 3: {0, 16}}, heldAt(8, 3), heldAt(24, 2)))
	isGiven(t, knownRooms(), 24, roomsOf([][]int{{1}, {2}, {4}, nil, {16}}, heldAt(0, 0), heldAt(8, 3)))
	isGiven(t, roomsOf([][]int{{3}, nil, {4}}, heldAt(0, 1), heldAt(2, 0), heldAt(8, 3), heldAt(16, 4)), 2, roomsOf([][]int{1: {2}, 2: {4}}, heldAt(0, 1), heldAt(8, 3), heldAt(16, 4)))
	// A neighbour that is free in the same order, and is not the buddy.
	isGiven(t, roomsOf([][]int{3: {16}}, heldAt(0, 3), heldAt(8, 3), heldAt(24, 3)), 8, roomsOf([][]int{3: {8, 16}}, heldAt(0, 3), heldAt(24, 3)))
	isGiven(t, roomsOf([][]int{{2}, nil, {4}}, heldAt(0, 0), heldAt(1, 0), heldAt(3, 0), heldAt(8, 3), heldAt(16, 4)), 1, roomsOf([][]int{{1, 2}, nil, {4}}, heldAt(0, 0), heldAt(3, 0), heldAt(8, 3), heldAt(16, 4)))
}

func TestPromise14GivesOfWhatIsNotHeld(t *testing.T) {
	for at := -40; at < 80; at++ {
		if at != 0 && at != 8 && at != 24 {
			refusedGive(t, knownRooms(), at)
		}
		if at != 0 {
			refusedGive(t, allHeld(5), at)
		}
		if at < 0 || at > 31 || at%4 != 0 {
			refusedGive(t, allHeld(2), at)
		}
	}
	for _, at := range notPlaces() {
		refusedGive(t, knownRooms(), at)
		refusedGive(t, allHeld(0), at)
		refusedGive(t, allHeld(5), at)
	}
	// A room that was given back is not held any more.
	r, ok := impl.GiveRoom(knownRooms(), 8)
	if !ok {
		t.Fatal(r)
	}
	refusedGive(t, r, 8)
}

// Each good tree of 8 places, at each place, beside others: what is told of it, each size that is taken, each place that is given back.
func TestPromise14EachTreeOfEightPlaces(t *testing.T) {
	held, free := roomTree{held: true}, roomTree{}
	beside := []roomTree{held, free, {halves: []roomTree{free, held}}}
	for k, x := range treesOf(3) {
		for n, other := range beside {
			for _, whole := range []roomTree{
				joinedTrees(joinedTrees(x, other), beside[(n+k)%3]),
				joinedTrees(joinedTrees(other, x), beside[(n+k+1)%3]),
				joinedTrees(beside[(n+k+2)%3], joinedTrees(x, other)),
				joinedTrees(beside[(n+k)%3], joinedTrees(other, x)),
			} {
				checkTree(t, whole)
				for _, size := range []int{1, 2, 3, 4, 8, 9, 17} {
					checkTake(t, whole, size)
				}
				for at := range 32 {
					if at%8 < 4 || n == 0 {
						checkGive(t, whole, at)
					}
				}
			}
		}
	}
}

func TestPromise14ManyTrees(t *testing.T) {
	taken, given, joined := 0, 0, 0
	for seed := range 2000 {
		x := someTree(5, seed)
		checkTree(t, x)
		for size := range 34 {
			checkTake(t, x, size)
			_, _, ok := x.take(size)
			taken += bitOf(ok)
		}
		for at := -1; at < 33; at++ {
			checkGive(t, x, at)
			next, ok := x.give(at)
			given += bitOf(ok)
			_, most := x.countFree(5)
			_, later := next.countFree(5)
			joined += bitOf(later > most)
		}
	}
	if taken < 10000 || given < 10000 || joined < 3000 {
		t.Error("too few of one kind", taken, given, joined)
	}
}

// What was taken and is given back at once leaves all as it was.
func TestPromise14TakenAndGivenBack(t *testing.T) {
	for seed := range 2000 {
		r := someTree(5, seed).rooms()
		for _, size := range []int{1, 2, 3, 5, 8, 9, 16, 17, 32} {
			x, at, ok := impl.TakeRoom(r, size)
			if !ok {
				continue
			}
			if back, ok := impl.GiveRoom(x, at); !sameRooms(back, r) || !ok {
				t.Fatal(r, size, x, at, back, ok)
			}
		}
	}
}

// A size is taken just where a free room is great enough.
func TestPromise14MostFreeIsTold(t *testing.T) {
	for seed := range 2000 {
		r := someTree(5, seed).rooms()
		most, ok := impl.MostFree(r)
		if !ok {
			t.Fatal(r)
		}
		for size := 1; size < 33; size++ {
			order, _ := impl.OrderFor(size)
			if _, _, ok := impl.TakeRoom(r, size); ok != (order <= most) {
				t.Fatal(r, size, most, ok)
			}
		}
	}
}
