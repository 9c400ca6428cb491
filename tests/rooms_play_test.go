package tests

import (
	"math"
	"slices"
	"testing"

	"loop.example/g00405/impl"
)

func isPlayedRooms(t *testing.T, l []int, want impl.Rooms, told ...int) {
	t.Helper()
	if r, answers, ok := impl.PlayRooms(l); !sameRooms(r, want) || !slices.Equal(answers, told) || !ok {
		t.Errorf("PlayRooms %v: %v %v %v, want %v %v", l, r, answers, ok, want, told)
	}
}

func refusedRoomPlay(t *testing.T, l []int) {
	t.Helper()
	if r, told, ok := impl.PlayRooms(l); !isNoRooms(r) || len(told) != 0 || ok {
		t.Errorf("PlayRooms %v: %v %v %v", l, r, told, ok)
	}
}

func slowPlayRooms(l []int) (impl.Rooms, []int, bool) {
	if len(l) > 60 {
		return impl.Rooms{}, nil, false
	}
	x, told := roomTree{}, []int{}
	for _, n := range l {
		at, ok := 0, false
		if n > 0 {
			x, at, ok = x.take(n)
		} else if n > -32 {
			x, ok = x.give(-n)
		}
		if !ok {
			at = -1
		}
		told = append(told, at)
	}
	return x.rooms(), told, true
}

func checkPlayRooms(t *testing.T, l []int) {
	t.Helper()
	want, wantTold, wantOk := slowPlayRooms(l)
	if r, told, ok := impl.PlayRooms(l); !sameRooms(r, want) || !slices.Equal(told, wantTold) || ok != wantOk {
		t.Fatalf("PlayRooms %v: %v %v %v, want %v %v %v", l, r, told, ok, want, wantTold, wantOk)
	}
}

func TestPromise14KnownPlays(t *testing.T) {
	isPlayedRooms(t, nil, oneRoom())
	isPlayedRooms(t, []int{}, oneRoom())
	isPlayedRooms(t, []int{32}, allHeld(5), 0)
	isPlayedRooms(t, []int{1}, roomsOf([][]int{{1}, {2}, {4}, {8}, {16}}, heldAt(0, 0)), 0)
	isPlayedRooms(t, []int{0}, oneRoom(), -1)
	isPlayedRooms(t, []int{-1}, oneRoom(), -1)
	isPlayedRooms(t, []int{32, 0}, oneRoom(), 0, 0)
	isPlayedRooms(t, []int{32, 0, 0}, oneRoom(), 0, 0, -1)
	isPlayedRooms(t, []int{32, 1, 0, 1, 0}, oneRoom(), 0, -1, 0, 0, 0)
	isPlayedRooms(t, []int{3, 8, 1, 0, -8}, roomsOf([][]int{{5}, {6}, {0}, {8}, {16}}, heldAt(4, 0)), 0, 8, 4, 0, 0)
	isPlayedRooms(t, []int{16, 16, 1, -16, 1, -8, -16}, roomsOf([][]int{4: {16}}, heldAt(0, 4)), 0, 16, -1, 0, 16, -1, 0)
	// Given back in the middle it stays apart till the last of both sides comes back.
	isPlayedRooms(t, []int{8, 8, 8, 8, -8, -16}, roomsOf([][]int{3: {8, 16}}, heldAt(0, 3), heldAt(24, 3)), 0, 8, 16, 24, 0, 0)
	isPlayedRooms(t, []int{8, 8, 8, 8, -8, -16, 16, 0, 16, -24}, secondHalfFree(), 0, 8, 16, 24, 0, 0, -1, 0, 0, 0)
	// What is no size and no place is told, and changes nothing.
	isPlayedRooms(t, []int{33, 64, math.MaxInt, -32, -33, math.MinInt, math.MinInt + 1, 1 << 32, -1 << 32}, oneRoom(), -1, -1, -1, -1, -1, -1, -1, -1, -1)
	isPlayedRooms(t, []int{32, math.MinInt, 0, math.MinInt}, oneRoom(), 0, -1, 0, -1)
	isPlayedRooms(t, []int{4, -1, -2, -3, -4, 0}, oneRoom(), 0, -1, -1, -1, -1, 0)
}

// secondHalfFree has the first half held, the second one free.
func secondHalfFree() impl.Rooms {
	return roomsOf([][]int{4: {16}}, heldAt(0, 4))
}

func TestPromise14LongRoomPlays(t *testing.T) {
	for _, n := range []int{59, 60, 61, 62, 120, 5000} {
		for _, of := range []int{1, 0, 33, 32, -1, math.MinInt, math.MaxInt} {
			l := slices.Repeat([]int{of}, n)
			if n > 60 {
				refusedRoomPlay(t, l)
				continue
			}
			checkPlayRooms(t, l)
		}
	}
	all, told := slices.Repeat([]int{1}, 32), []int{}
	for k := range 32 {
		told = append(told, k)
	}
	isPlayedRooms(t, all, allHeld(0), told...)
	isPlayedRooms(t, append(all, 1), allHeld(0), append(told, -1)...)
	for k := range 28 {
		all, told = append(all, -k), append(told, 0)
	}
	isPlayedRooms(t, all, roomsOf([][]int{2: {24}, 3: {16}, 4: {0}}, heldAt(28, 0), heldAt(29, 0), heldAt(30, 0), heldAt(31, 0)), told...)
	refusedRoomPlay(t, append(all, -28))
}

// Each list of at most 5 of some numbers.
func TestPromise14EveryShortPlay(t *testing.T) {
	for _, of := range [][]int{{1, 2, 8, 16, 0, -1, -2, -8}, {4, 9, 32, 33, 0, -4, -16, math.MinInt}, {16, 8, 3, 0, -8, -12, -16, -24}} {
		for n := range 6 {
			eachList(n, of, func(l []int) { checkPlayRooms(t, l) })
		}
	}
}

// someRoomSteps are takes of sizes up to a greatest one, and gives of places, mostly such as are held.
func someRoomSteps(n int, most int, seed int) []int {
	l, x := []int{}, roomTree{}
	for k := range n {
		b := []byte(textOf(4, seed+131*k))
		held := x.rooms().Held
		switch {
		case int(b[0])%16 < 6+seed%4 && len(held) > 0:
			l = append(l, -held[(int(b[1])*256+int(b[2]))%len(held)].At)
			x, _ = x.give(-l[k])
		case b[0]%16 == 15:
			l = append(l, -int(b[1])%36)
			x, _ = x.give(-l[k])
		default:
			l = append(l, 1+(int(b[1])*256+int(b[2]))%most)
			x, _, _ = x.take(l[k])
		}
	}
	return l
}

func TestPromise14ManyPlays(t *testing.T) {
	taken, noRoom, given, notHeld := 0, 0, 0, 0
	for seed := range 2000 {
		l := someRoomSteps(seed%61, []int{1, 2, 4, 5, 9, 17, 34}[seed%7], seed)
		checkPlayRooms(t, l)
		_, told, _ := impl.PlayRooms(l)
		for k, n := range l {
			taken, noRoom = taken+bitOf(n > 0 && told[k] >= 0), noRoom+bitOf(n > 0 && told[k] < 0)
			given, notHeld = given+bitOf(n <= 0 && told[k] == 0), notHeld+bitOf(n <= 0 && told[k] < 0)
		}
	}
	if taken < 5000 || noRoom < 2000 || given < 5000 || notHeld < 500 {
		t.Error("too few of one kind", taken, noRoom, given, notHeld)
	}
}

// ownedPlaces has for each place who took it, 0 for nobody.
type ownedPlaces [32]int

// own takes a place and how many from there on somebody asked for, and fails where one of these is somebody else's.
func (o *ownedPlaces) own(t *testing.T, r impl.Rooms, at int, size int, who int) {
	t.Helper()
	k := slices.IndexFunc(r.Held, func(h impl.Held) bool { return h.At == at })
	if k < 0 || r.Held[k].Order != slowOrder(size) || at%(1<<slowOrder(size)) != 0 {
		t.Fatal("is not held", at, size, r)
	}
	for place := at; place < at+1<<slowOrder(size); place++ {
		if place > 31 || o[place] != 0 {
			t.Fatal("is somebody else's", at, size, place, r, *o)
		}
		o[place] = who
	}
}

func (o *ownedPlaces) lose(at int) {
	who := o[at]
	for place, other := range o {
		if other == who {
			o[place] = 0
		}
	}
}

func (o ownedPlaces) areHeldIn(t *testing.T, r impl.Rooms) {
	t.Helper()
	free, firsts := 0, []int{}
	for place, who := range o {
		free += bitOf(who == 0)
		if who != 0 && (place == 0 || o[place-1] != who) {
			firsts = append(firsts, place)
		}
	}
	if n, ok := impl.FreeIn(r); n != free || !ok {
		t.Fatal("FreeIn", r, n, ok, o)
	}
	if !impl.GoodRooms(r) || !isSlowRooms(r) || len(r.Held) != len(firsts) {
		t.Fatal("not good, or others are held", r, o)
	}
	for k, held := range r.Held {
		if held.At != firsts[k] {
			t.Fatal("others are held", r, o)
		}
	}
}

// In a walk no place is taken that somebody has, what is held stays till it is given back, and when all are given back, in any order, there is one room.
func TestPromise14Walks(t *testing.T) {
	most := 0
	for seed := range 500 {
		r, owned := impl.NewRooms(), ownedPlaces{}
		for step, c := range []byte(textOf(100, seed)) {
			if int(c)%16 < 3+seed%4 && len(r.Held) > 0 {
				at := r.Held[int(c)/16*7%len(r.Held)].At
				next, ok := impl.GiveRoom(r, at)
				if !ok {
					t.Fatal("is held", r, at)
				}
				r = next
				owned.lose(at)
			} else {
				size := 1 + int(c)*(step+1)%(1+seed%18)
				if next, at, ok := impl.TakeRoom(r, size); ok {
					r = next
					owned.own(t, r, at, size, step+1)
				}
			}
			owned.areHeldIn(t, r)
		}
		most = max(most, len(r.Held))
		for step := 0; len(r.Held) > 0; step++ {
			at := r.Held[(seed+step*step*5)%len(r.Held)].At
			next, ok := impl.GiveRoom(r, at)
			if !ok {
				t.Fatal("is held", r, at)
			}
			r = next
			owned.lose(at)
			owned.areHeldIn(t, r)
		}
		if !sameRooms(r, oneRoom()) {
			t.Fatal("not one room", r)
		}
	}
	if most < 20 {
		t.Error("too few are held", most)
	}
}

// Given back in each order there is one room.
func TestPromise14GivenBackInEachOrder(t *testing.T) {
	for _, sizes := range [][]int{{1, 1, 1, 1, 1}, {16, 8, 4, 2, 1, 1}, {1, 2, 4, 8, 16}, {8, 8, 8, 8}, {5, 1, 3, 9, 2, 1}, {1, 16, 1, 8, 1}, {32}, {16, 16}, {3, 3, 3, 3, 3, 3}} {
		_, places, ok := impl.PlayRooms(sizes)
		if !ok || slices.Contains(places, -1) {
			t.Fatal(sizes, places, ok)
		}
		eachOrder(len(sizes), func(order []int) {
			l, told := slices.Clone(sizes), slices.Clone(places)
			for _, k := range order {
				l, told = append(l, -places[k]), append(told, 0)
			}
			isPlayedRooms(t, l, oneRoom(), told...)
		})
	}
}

// A play of what follows does not change what was told ahead.
func TestPromise14PlaysGoOn(t *testing.T) {
	for seed := range 100 {
		l := someRoomSteps(60, 12, seed)
		_, told, _ := impl.PlayRooms(l)
		for n := range 61 {
			r, ahead, ok := impl.PlayRooms(l[:n])
			if !slices.Equal(ahead, told[:n]) || !ok || !impl.GoodRooms(r) {
				t.Fatal(l[:n], r, ahead, ok)
			}
		}
	}
}
