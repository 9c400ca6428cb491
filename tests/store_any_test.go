package tests

import (
	"math"
	"slices"
	"strings"
	"testing"

	"loop.example/g00405/impl"
)

// oddStore is a good one that no play makes: stripes in any state, numbers of any of them, sectors Hurt that did not rot.
func oddStore(seed int) impl.Store {
	s := impl.Store{Scrub: oddScrub(seed)}
	n := len(s.Scrub.Epochs)
	which := elementsIn(textOf(41, seed+5000))
	for vol := range 1 + which[0]%4 {
		l := make([]int, 5)
		for key := range l {
			l[key] = which[1+5*vol+key] % (n + 1)
		}
		s.Volumes = append(s.Volumes, l)
	}
	many := map[int]int{}
	for at := range 5 * n {
		if which[21+at]%3 == 0 && many[at/5] < 2 {
			many[at/5]++
			s.Hurt = append(s.Hurt, at)
		}
	}
	return s
}

// mixedStores have fields of one and of another store.
func mixedStores() []impl.Store {
	from := slices.Concat(edgeStores()[:60], []impl.Store{{}, {Scrub: scrubWith(1), Volumes: make([][]int, 1000), Hurt: make([]int, 1000)}, {Scrub: scrubWith(1, 2), Volumes: [][]int{nil, {math.MinInt}}, Hurt: []int{math.MaxInt}}})
	for seed := range 40 {
		from = append(from, oddStore(seed))
	}
	l := []impl.Store{}
	for seed := range 300 {
		which := elementsIn(textOf(3, seed))
		pick := func(k int) impl.Store { return from[which[k]%len(from)] }
		l = append(l, impl.Store{Scrub: pick(0).Scrub, Volumes: pick(1).Volumes, Hurt: pick(2).Hurt})
	}
	return l
}

func anyStores() []impl.Store {
	l := slices.Concat(edgeStores(), notStores(), mixedStores())
	for seed := range 200 {
		l = append(l, oddStore(seed))
	}
	return l
}

// fewStores leaves out most of those of which there are many alike.
func fewStores() []impl.Store {
	l := []impl.Store{storeOf(1, make([]int, 5)), hurtAt(storeOf(4, []int{1, 2, 0, 3, 0}, []int{0, 0, 4, 4, 1}), 0, 4, 16, 17)}
	for seed := range 16 {
		l = append(l, oddStore(seed))
	}
	for k, s := range slices.Concat(edgeStores(), notStores(), mixedStores()) {
		if k%67 == 0 {
			l = append(l, s)
		}
	}
	return l
}

// fewEvents have some of each Kind, some that cannot be done, and some that fit none.
func fewEvents() []impl.StoreEvent {
	l := []impl.StoreEvent{{}, stWrite(0, 4, textOf(47, 1)), stWrite(1, 1, "first"), stWrite(0, 0, textOf(48, 1)), stWrite(0, 5, "a"), stTrim(1, 3), stTrim(-1, 0), stClone(1), stClone(9), stDrop(1), stRot(7, "abcd"), stRot(20, "a"), stRot(1, ""), stRot(1, "abcde")}
	return append(l, eachKind()...)
}

func anyEvents() []impl.StoreEvent {
	l := fewEvents()
	for _, e := range eachKind() {
		for _, n := range anyNumbers() {
			l = append(l, impl.StoreEvent{Kind: n, Vol: e.Vol, Key: e.Key, Text: e.Text}, impl.StoreEvent{Kind: e.Kind, Vol: n, Key: e.Key, Text: e.Text}, impl.StoreEvent{Kind: e.Kind, Vol: e.Vol, Key: n, Text: e.Text}, impl.StoreEvent{Kind: e.Kind, Vol: n, Key: n})
		}
		for _, text := range slices.Concat(anyTexts(), anyBodies(), []string{textOf(46, 1), textOf(47, 1), textOf(48, 1)}) {
			l = append(l, impl.StoreEvent{Kind: e.Kind, Vol: e.Vol, Key: e.Key, Text: text})
		}
	}
	return l
}

func TestPromise19StoresOfAnything(t *testing.T) {
	good, not := 0, 0
	for _, s := range anyStores() {
		checkStore(t, s)
		if impl.GoodStore(s) {
			good++
		} else {
			not++
		}
		for _, n := range anyNumbers() {
			text, ok := slowBlockAt(s, n, 1)
			isBlock(t, s, n, 1, text, ok)
			text, ok = slowBlockAt(s, 0, n)
			isBlock(t, s, 0, n, text, ok)
		}
		for _, e := range fewEvents() {
			checkEvent(t, s, e)
		}
	}
	if good < 200 || not < 200 {
		t.Error("too few of a kind", good, not)
	}
}

func TestPromise19EventsOfAnything(t *testing.T) {
	done, not := 0, 0
	for _, s := range fewStores() {
		for _, e := range anyEvents() {
			if checkEvent(t, s, e) {
				done++
			} else {
				not++
			}
		}
	}
	if done < 200 || not < 200 {
		t.Error("too few of a kind", done, not)
	}
}

func TestPromise19StorePlaysOfAnything(t *testing.T) {
	events := anyEvents()
	lists := [][]impl.StoreEvent{nil, {}, events, events[:41]}
	for from := 0; from < len(events); from += 40 {
		lists = append(lists, events[from:min(from+40, len(events))])
	}
	for _, n := range anyNumbers() {
		if s, ok := impl.NewStore(n); ok != (n >= 1 && n <= 4) || ok != impl.GoodStore(s) || !ok && !isNoStore(s) {
			t.Errorf("NewStore %d: %#v %v", n, s, ok)
		}
		for _, l := range lists {
			if n >= 1 && n <= 4 && len(l) <= 40 {
				checkStorePlay(t, n, l)
			} else {
				refusedStorePlay(t, n, l)
			}
		}
	}
}

// laidStore is a store with memory behind each of its lists and texts, and a copy of all of it.
type laidStore struct {
	store impl.Store
	scrub laidScrub
	rows  []held
	whole [][]int
	hurt  held
}

func layStore(s impl.Store, behind int) laidStore {
	h := laidStore{scrub: layScrub(s.Scrub, behind), hurt: hold(s.Hurt, behind)}
	for _, volume := range s.Volumes {
		row := hold(volume, behind)
		h.rows = append(h.rows, row)
		h.whole = append(h.whole, row.list)
	}
	h.whole = append(h.whole, []int{1, 0, 0, 0, behind}, make([]int, 5))
	h.store = impl.Store{Scrub: h.scrub.scrub, Volumes: slices.Clone(h.whole)[:len(s.Volumes)], Hurt: h.hurt.list}
	return h
}

func (h laidStore) stays(t *testing.T) {
	t.Helper()
	h.scrub.stays(t)
	h.hurt.stays(t)
	for _, row := range h.rows {
		row.stays(t)
	}
	if !slices.EqualFunc(h.store.Volumes[:len(h.whole)], h.whole, slices.Equal[[]int]) {
		t.Fatal("written into", h.store.Volumes[:len(h.whole)], h.whole)
	}
}

// spoilStore writes over all memory that an answer has, list by list, and looks whether the others stay.
func spoilStore(t *testing.T, s impl.Store) {
	t.Helper()
	spoilScrub(t, s.Scrub, append(slices.Clone(s.Volumes), s.Hurt)...)
	overwrite(s.Volumes, nil)
}

// checkStoreMemory asks for the same answer of a store with anything behind its lists, all of it new.
func checkStoreMemory(t *testing.T, s impl.Store, e impl.StoreEvent) {
	t.Helper()
	want, wantOk := impl.DoStore(cloneStore(s), e)
	text := holdText(e.Text, "behind it")
	e.Text = text.text
	for _, behind := range []int{0, 1, -9} {
		h := layStore(s, behind)
		got, ok := impl.DoStore(h.store, e)
		later, _ := impl.DoStore(h.store, e)
		h.stays(t)
		if !sameStore(got, want) || ok != wantOk {
			t.Fatalf("reads behind %#v: %#v %v, want %#v", s, got, ok, want)
		}
		given := append(h.scrub.disk.texts(), text)
		areNew(t, slices.Concat(got.Scrub.Disk.Plate, got.Scrub.Disk.Held, later.Scrub.Disk.Plate, later.Scrub.Disk.Held), given...)
		spoilStore(t, got)
		h.stays(t)
		text.stays(t)
		again, ok := impl.DoStore(h.store, e)
		if !sameStore(later, want) || !sameStore(again, want) || ok != wantOk {
			t.Fatalf("a later answer is another one %#v: %#v %#v", s, later, again)
		}
	}
}

func TestPromise19StoreMemory(t *testing.T) {
	for _, s := range fewStores() {
		for _, e := range fewEvents() {
			checkStoreMemory(t, s, e)
		}
	}
}

func TestPromise19WhatIsToldOfAStoreMemory(t *testing.T) {
	for _, s := range anyStores() {
		good := isSlowStore(s)
		for _, behind := range []int{0, 1, -9} {
			h := layStore(s, behind)
			if impl.GoodStore(h.store) != good {
				t.Fatalf("GoodStore reads behind %#v", s)
			}
			uses, _ := impl.UsesIn(h.store)
			spoil(uses)
			checkStore(t, h.store)
			for key := range 5 {
				text, _ := impl.ReadBlock(h.store, 0, key)
				again, _ := impl.ReadBlock(h.store, 0, key)
				areNew(t, []string{text, again}, h.scrub.disk.texts()...)
			}
			h.stays(t)
		}
	}
}

// rowsHaveTheirOwn asks that no text of a list of volumes lies in what was given, and no two in each other.
func rowsHaveTheirOwn(t *testing.T, volumes [][]string, given []heldText) {
	t.Helper()
	areNew(t, slices.Concat(volumes...), given...)
	want := slices.Concat(volumes...)
	for k, volume := range volumes {
		overwrite(volume, "spoilt")
		copy(want[5*k:], slices.Repeat([]string{"spoilt"}, 5))
		if !slices.Equal(slices.Concat(volumes...), want) {
			t.Fatalf("volumes share memory %q", volumes)
		}
	}
	overwrite(volumes, nil)
}

func TestPromise19StorePlayMemory(t *testing.T) {
	texts := []string{"one", textOf(47, 1), "two", "abcd", textOf(20, 3)}
	l := []impl.StoreEvent{stWrite(0, 0, texts[0]), stWrite(0, 1, texts[1]), stWrite(0, 2, texts[0]), stClone(0), stRot(0, "abcd"), stRot(6, "abcd"), stWrite(1, 3, texts[2]), stClone(1), stTrim(1, 0), stRot(9, "ab"), stWrite(2, 4, texts[4]), stRot(9, "ab")}
	for stripes := 0; stripes <= 5; stripes++ {
		want, wantDone, wantOk := impl.PlayStore(stripes, l)
		wantTexts, _ := impl.PlayModel(stripes, l)
		given, memory := slices.Clone(l), []heldText{}
		for k := range given {
			text := holdText(given[k].Text, "behind it")
			given[k].Text = text.text
			memory = append(memory, text)
		}
		whole := append(slices.Clone(given), stScrub(), stTrim(0, 0))
		laid := slices.Clone(whole)
		for range 2 {
			s, done, ok := impl.PlayStore(stripes, laid[:len(l)])
			later, _, _ := impl.PlayStore(stripes, laid[:len(l)])
			model, is := impl.PlayModel(stripes, laid[:len(l)])
			after, _ := impl.PlayModel(stripes, laid[:len(l)])
			if !sameStore(s, want) || !slices.Equal(done, wantDone) || ok != wantOk || is != wantOk || !slices.EqualFunc(model, wantTexts, slices.Equal[[]string]) {
				t.Fatalf("reads behind, or is another one later: %#v %v %q", s, done, model)
			}
			areNew(t, slices.Concat(s.Scrub.Disk.Plate, later.Scrub.Disk.Plate), memory...)
			spoilStore(t, s)
			overwrite(done, false)
			rowsHaveTheirOwn(t, model, memory)
			if !sameStore(later, want) || !slices.EqualFunc(after, wantTexts, slices.Equal[[]string]) {
				t.Fatalf("two answers share memory: %#v %q", later, after)
			}
			for _, text := range memory {
				text.stays(t)
			}
			if !slices.Equal(laid, whole) {
				t.Fatal("written into the events", laid)
			}
		}
	}
}

func TestPromise19NewStoreMemory(t *testing.T) {
	for n := 1; n <= 4; n++ {
		s, _ := impl.NewStore(n)
		later, _ := impl.NewStore(n)
		areNew(t, slices.Concat(s.Scrub.Disk.Plate, later.Scrub.Disk.Plate))
		spoilStore(t, s)
		if again, _ := impl.NewStore(n); !sameStore(later, again) || !sameStore(again, filledWith(make([]string, n), make([]int, 5))) {
			t.Errorf("%d: %#v %#v", n, later, again)
		}
	}
}

// What lies behind a list would make a store a good one, or spoil it.
func TestPromise19WhatLiesBehindStores(t *testing.T) {
	whole := storeOf(2, []int{1, 2, 0, 1, 0, 9}, []int{0, 0, 0, 0, 2, 9}, []int{3, 0, 0, 0, 0})
	whole.Hurt = []int{0, 4, 3, 99}
	refusedStore(t, whole)
	cut := impl.Store{Scrub: whole.Scrub, Volumes: [][]int{whole.Volumes[0][:5], whole.Volumes[1][:5], {3}}[:2], Hurt: whole.Hurt[:2]}
	checkStore(t, cut)
	for _, e := range fewEvents() {
		checkEvent(t, cut, e)
	}
	if !impl.GoodStore(cut) || whole.Volumes[0][5] != 9 || !slices.Equal(whole.Hurt, []int{0, 4, 3, 99}) {
		t.Fatalf("%#v", cut)
	}
	short := cut
	short.Volumes = [][]int{whole.Volumes[0][:4]}
	refusedStore(t, short)
	short.Volumes = [][]int{whole.Volumes[0][:5]}[:0]
	refusedStore(t, short)
}

// Lists of a store may be one, and texts may share memory: what is answered is what it is for copies.
func TestPromise19SharedStores(t *testing.T) {
	row := []int{1, 1, 0, 2, 2, 1, 1}
	s := storeOf(2)
	s.Scrub.Epochs = row[:2]
	s.Volumes = [][]int{row[:5], row[:5], row[2:7]}
	s.Hurt = row[2:4]
	plates := strings.Join(s.Scrub.Disk.Plate, "")
	for at := range s.Scrub.Disk.Plate {
		s.Scrub.Disk.Plate[at] = plates[28*at : 28*at+28]
	}
	apart := cloneStore(s)
	if !impl.GoodStore(s) {
		t.Fatalf("%#v", s)
	}
	checkStore(t, s)
	texts := []string{plates[:1], plates[3:50], ownText(0)}
	for _, text := range texts {
		for key := range 5 {
			checkEvent(t, s, stWrite(1, key, text))
			checkEvent(t, s, stWrite(2, key, text))
		}
	}
	for _, e := range fewEvents() {
		checkEvent(t, s, e)
		got, _ := impl.DoStore(s, e)
		areNew(t, got.Scrub.Disk.Plate, heldText{bytes: bytesOf(plates)})
		spoilStore(t, got)
		if !sameStore(s, apart) {
			t.Fatalf("written into %#v", s)
		}
	}
}

// Events may have one text: what is told of them has texts of its own.
func TestPromise19EventsOfOneText(t *testing.T) {
	whole := textOf(47, 5)
	l := []impl.StoreEvent{stWrite(0, 0, whole), stClone(0), stWrite(1, 1, whole[:20]), stWrite(0, 2, whole), stRot(7, whole[:4])}
	s, _, ok := impl.PlayStore(2, l)
	texts, is := impl.PlayModel(2, l)
	if !ok || !is || texts[0][0] != whole || texts[1][0] != whole || texts[0][2] != whole || texts[1][1] != whole[:20] {
		t.Fatalf("%q", texts)
	}
	areNew(t, s.Scrub.Disk.Plate, heldText{bytes: bytesOf(whole)})
	rowsHaveTheirOwn(t, texts, []heldText{{bytes: bytesOf(whole)}})
	for key := range 5 {
		text, _ := impl.ReadBlock(s, 0, key)
		areNew(t, []string{text}, heldText{bytes: bytesOf(whole)})
	}
}
