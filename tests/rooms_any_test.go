package tests

import (
	"math"
	"slices"
	"testing"

	"loop.example/g00405/impl"
)

// someRooms are good ones.
func someRooms() []impl.Rooms {
	l := []impl.Rooms{impl.NewRooms(), knownRooms(), allHeld(0), allHeld(3), allHeld(5), everyOther(0, 0), everyOther(4, 1), roomsOf([][]int{{1}, {2}, {4}, {8}, {16}}, heldAt(0, 0)), roomsOf([][]int{{30}, {28}, {24}, {16}, {0}}, heldAt(31, 0))}
	for seed := range 40 {
		l = append(l, someTree(5, seed).rooms())
	}
	return l
}

// oddRooms have anything in their lists, mostly not as said.
func oddRooms() []impl.Rooms {
	numbers := []int{0, 16, 8, 1, 2, 4, 31, 5, 32, -1, 1 << 32, math.MinInt, math.MaxInt}
	l := []impl.Rooms{{Free: [][]int{numbers}}, {Free: [][]int{numbers, numbers, numbers, numbers, numbers, numbers}}}
	for seed := range 80 {
		b := []byte(textOf(80, seed))
		r := impl.Rooms{Free: make([][]int, 6+int(b[0])/64*(seed%3-1))}
		for k := range r.Free {
			for _, c := range b[1+5*k : 1+5*k+int(b[40+k])%4] {
				r.Free[k] = append(r.Free[k], numbers[int(c)%(3+seed%11)])
			}
		}
		for k := range int(b[60]) % 4 {
			r.Held = append(r.Held, heldAt(numbers[int(b[61+k])%(3+seed%11)], numbers[int(b[71+k])%(3+seed%11)]))
		}
		l = append(l, r)
	}
	return l
}

func anyRooms() []impl.Rooms {
	return slices.Concat(someRooms(), notRooms(), oddRooms())
}

// fewRooms leaves most of those out that are not good for one reason, and those of which many copies take long.
func fewRooms() []impl.Rooms {
	l := slices.Concat(someRooms(), oddRooms())
	for k, r := range slices.Concat(notTilingRooms(), notPlacedRooms()) {
		if k%29 == 0 {
			l = append(l, r)
		}
	}
	return append(l, notOrderedRooms()[:30]...)
}

func anyRoomNumbers() []int {
	return slices.Concat(anyNumbers(), notSizes(), notPlaces(), []int{5, 6, 15, 16, 17, 24, 30})
}

// treeIn takes good rooms: the tree that they are.
func treeIn(r impl.Rooms, at int, order int) roomTree {
	if slices.Contains(r.Held, heldAt(at, order)) {
		return roomTree{held: true}
	}
	if slices.Contains(r.Free[order], at) {
		return roomTree{}
	}
	return roomTree{halves: []roomTree{treeIn(r, at, order-1), treeIn(r, at+1<<(order-1), order-1)}}
}

func TestPromise19RoomsOfAnything(t *testing.T) {
	good := 0
	for _, r := range anyRooms() {
		if !isSlowRooms(r) {
			refusedRooms(t, r)
			for _, n := range anyRoomNumbers() {
				refusedTake(t, r, n)
				refusedGive(t, r, n)
			}
			continue
		}
		good++
		x := treeIn(r, 0, 5)
		if !sameRooms(x.rooms(), r) {
			t.Fatal("not the tree of them", r, x)
		}
		checkTree(t, x)
		for _, n := range anyRoomNumbers() {
			checkTake(t, x, n)
			checkGive(t, x, n)
		}
	}
	if good < 49 {
		t.Error("too few good ones", good)
	}
}

func TestPromise19RoomNumbersOfAnything(t *testing.T) {
	for _, n := range anyRoomNumbers() {
		want, is := 0, n >= 1 && n <= 32
		if is {
			want = slowOrder(n)
		}
		if o, ok := impl.OrderFor(n); o != want || ok != is {
			t.Fatal("OrderFor", n, o, ok)
		}
		for _, m := range anyRoomNumbers() {
			checkBuddyOf(t, n, m)
			checkPlayRooms(t, []int{n, m})
			checkPlayRooms(t, []int{8, n, m, 0})
		}
	}
	checkPlayRooms(t, slices.Repeat([]int{math.MinInt}, 60))
	refusedRoomPlay(t, slices.Repeat([]int{math.MinInt}, 61))
}

// laidRooms are rooms with memory behind each of their lists, and a copy of all of it.
type laidRooms struct {
	rooms impl.Rooms
	free  heldMatrix
	held  []impl.Held
}

func layRooms(r impl.Rooms, behind int) laidRooms {
	held := append(slices.Clone(r.Held), heldAt(behind, 0), heldAt(8, behind), impl.Held{})
	h := laidRooms{free: holdMatrix(r.Free, behind), held: slices.Clone(held)}
	h.rooms = impl.Rooms{Free: h.free.rows, Held: held[:len(r.Held)]}
	return h
}

func (h laidRooms) stays(t *testing.T) {
	t.Helper()
	h.free.stays(t)
	if !slices.Equal(h.rooms.Held[:len(h.held)], h.held) {
		t.Fatal("written into", h.rooms.Held[:len(h.held)], h.held)
	}
}

// spoilRoomLists writes over all memory that an answer has, list by list, and looks whether the others stay.
func spoilRoomLists(t *testing.T, r impl.Rooms, more ...[]int) {
	t.Helper()
	was := slices.Clone(r.Held)
	spoilRows(t, append(slices.Clone(r.Free), more...))
	if !slices.Equal(r.Held, was) {
		t.Fatal("lists of an answer share memory", was)
	}
	overwrite(r.Held, heldAt(-77, -77))
	overwrite(r.Free, []int{-77})
}

// checkRoomsMemory asks for the same answer of rooms with anything behind their lists, all of it new.
func checkRoomsMemory(t *testing.T, r impl.Rooms, ask func(r impl.Rooms) (impl.Rooms, []int, bool)) {
	t.Helper()
	x, l, wantOk := ask(cloneRooms(r))
	want, wantList := cloneRooms(x), slices.Clone(l)
	for _, behind := range []int{0, 31, -1} {
		h := layRooms(r, behind)
		for range 2 {
			x, l, ok := ask(h.rooms)
			h.stays(t)
			if !sameRooms(x, want) || !slices.Equal(l, wantList) || ok != wantOk {
				t.Fatalf("reads behind %v, or is another one later: %v %v %v, want %v %v", r, x, l, ok, want, wantList)
			}
			later, last, _ := ask(h.rooms)
			spoilRoomLists(t, x, l)
			h.stays(t)
			if !sameRooms(later, want) || !slices.Equal(last, wantList) {
				t.Fatalf("two answers share memory %v: %v %v", r, later, last)
			}
		}
	}
}

func takes(size int) func(r impl.Rooms) (impl.Rooms, []int, bool) {
	return func(r impl.Rooms) (impl.Rooms, []int, bool) {
		x, at, ok := impl.TakeRoom(r, size)
		return x, []int{at}, ok
	}
}

func gives(at int) func(r impl.Rooms) (impl.Rooms, []int, bool) {
	return func(r impl.Rooms) (impl.Rooms, []int, bool) {
		x, ok := impl.GiveRoom(r, at)
		return x, nil, ok
	}
}

func TestPromise19RoomsMemory(t *testing.T) {
	for _, r := range fewRooms() {
		checkRoomsMemory(t, r, func(r impl.Rooms) (impl.Rooms, []int, bool) { return impl.Rooms{}, nil, impl.GoodRooms(r) })
		checkRoomsMemory(t, r, func(r impl.Rooms) (impl.Rooms, []int, bool) {
			n, ok := impl.FreeIn(r)
			return impl.Rooms{}, []int{n}, ok
		})
		checkRoomsMemory(t, r, func(r impl.Rooms) (impl.Rooms, []int, bool) {
			n, ok := impl.MostFree(r)
			return impl.Rooms{}, []int{n}, ok
		})
		for _, size := range []int{0, 1, 2, 4, 8, 16, 32, 33} {
			checkRoomsMemory(t, r, takes(size))
		}
		for at := -1; at < 33; at++ {
			checkRoomsMemory(t, r, gives(at))
		}
	}
}

// NewRooms hands out memory of its own each time.
func TestPromise19NewRoomsMemory(t *testing.T) {
	for range 3 {
		r, other := impl.NewRooms(), impl.NewRooms()
		spoilRoomLists(t, r)
		if !sameRooms(other, oneRoom()) || !sameRooms(impl.NewRooms(), oneRoom()) {
			t.Fatal("written into", other, impl.NewRooms())
		}
	}
}

func TestPromise19RoomPlayMemory(t *testing.T) {
	lists := [][]int{nil, {1}, {0}, {33}, {3, 8, 1, 0, -8}, someRoomSteps(60, 5, 1), someRoomSteps(59, 9, 2), make([]int, 60), make([]int, 61), slices.Repeat([]int{1}, 61)}
	for _, list := range lists {
		want, wantTold, wantOk := slowPlayRooms(list)
		for _, behind := range []int{0, 1, -8, 33} {
			h := hold(list, behind)
			for range 2 {
				r, told, ok := impl.PlayRooms(h.list)
				later, last, _ := impl.PlayRooms(h.list)
				h.stays(t)
				if !sameRooms(r, want) || !slices.Equal(told, wantTold) || ok != wantOk {
					t.Fatal("reads behind, or is another one later", list, r, told, ok)
				}
				spoilRoomLists(t, r, told)
				h.stays(t)
				if !sameRooms(later, want) || !slices.Equal(last, wantTold) {
					t.Fatal("two answers share memory", list, later, last)
				}
			}
		}
	}
}

// Rows of rooms may lie in one memory, one behind the other or in one another: what is answered is what it is for copies, and none is written into.
func TestPromise19SharedRoomRows(t *testing.T) {
	behind, within := []int{1, 2, 4, 8, 16}, []int{4, 12, 24}
	held := []impl.Held{heldAt(0, 0), heldAt(8, 2), heldAt(20, 2), heldAt(28, 2)}
	for _, r := range []impl.Rooms{
		{Free: [][]int{behind[:1], behind[1:2], behind[2:3], behind[3:4], behind[4:], behind[:0]}, Held: held[:1]},
		{Free: [][]int{within[:0], within[:0], within[:2], within[2:], within[3:], within[1:1]}, Held: []impl.Held{heldAt(0, 2), heldAt(8, 2), heldAt(16, 3)}},
		{Free: [][]int{behind[:0], within[1:1], within[:], within[:0], behind[2:2], nil}, Held: []impl.Held{heldAt(0, 2), heldAt(8, 2), heldAt(16, 3), heldAt(28, 2)}},
		{Free: [][]int{behind[:1], behind[1:2], within[:2], within[:0], nil, nil}, Held: []impl.Held{heldAt(0, 0), heldAt(8, 2), heldAt(16, 4)}},
	} {
		if !isSlowRooms(r) {
			t.Fatal("not good", r)
		}
		apart := cloneRooms(r)
		for _, n := range []int{0, 1, 2, 3, 4, 5, 8, 16, 20, 28} {
			for _, ask := range []func(r impl.Rooms) (impl.Rooms, []int, bool){takes(n), gives(n)} {
				want, wantList, wantOk := ask(apart)
				x, l, ok := ask(r)
				if !sameRooms(x, want) || !slices.Equal(l, wantList) || ok != wantOk {
					t.Fatalf("%v %d: %v %v %v, want %v %v", r, n, x, l, ok, want, wantList)
				}
				spoilRoomLists(t, x, l)
				if !sameRooms(r, apart) || !slices.Equal(behind, []int{1, 2, 4, 8, 16}) || !slices.Equal(within, []int{4, 12, 24}) {
					t.Fatal("written into", r, apart, behind, within)
				}
			}
		}
	}
}
