package tests

import (
	"math"
	"slices"
	"testing"

	"loop.example/g00405/impl"
)

func cloneStore(s impl.Store) impl.Store {
	c := impl.Store{Scrub: cloneScrub(s.Scrub), Hurt: slices.Clone(s.Hurt)}
	for _, volume := range s.Volumes {
		c.Volumes = append(c.Volumes, slices.Clone(volume))
	}
	return c
}

func sameStore(a impl.Store, b impl.Store) bool {
	return sameScrub(a.Scrub, b.Scrub) && slices.EqualFunc(a.Volumes, b.Volumes, slices.Equal[[]int]) && slices.Equal(a.Hurt, b.Hurt)
}

func isNoStore(s impl.Store) bool {
	return isNoScrub(s.Scrub) && len(s.Volumes) == 0 && len(s.Hurt) == 0
}

// storeOf has so many stripes with texts of their own, each with the Epoch 1, and these volumes.
func storeOf(stripes int, volumes ...[]int) impl.Store {
	return cloneStore(impl.Store{Scrub: scrubWith(slices.Repeat([]int{1}, stripes)...), Volumes: volumes})
}

// filledWith has in its stripes the texts that are told, each with the Epoch 1.
func filledWith(texts []string, volumes ...[]int) impl.Store {
	return cloneStore(impl.Store{Scrub: scrubOf(texts...), Volumes: volumes})
}

// hurtAt has just these sectors Hurt, and all of them rot.
func hurtAt(s impl.Store, hurt ...int) impl.Store {
	s = cloneStore(s)
	s.Hurt = hurt
	for _, at := range hurt {
		s.Scrub.Disk.Plate[at] = slowRot(s.Scrub.Disk.Plate[at], "\x20")
	}
	return s
}

func isSlowStore(s impl.Store) bool {
	n := len(s.Scrub.Epochs)
	if !isSlowScrub(s.Scrub) || len(s.Volumes) < 1 || len(s.Volumes) > 4 {
		return false
	}
	for _, volume := range s.Volumes {
		for _, name := range volume {
			if name < 0 || name > n {
				return false
			}
		}
		if len(volume) != 5 {
			return false
		}
	}
	many, last := map[int]int{}, -1
	for _, at := range s.Hurt {
		if at <= last || at >= 5*n {
			return false
		}
		last = at
		if many[at/5]++; many[at/5] == 3 {
			return false
		}
	}
	return true
}

func slowUses(s impl.Store) []int {
	l := []int{}
	for k := range s.Scrub.Epochs {
		n := 0
		for _, volume := range s.Volumes {
			for _, name := range volume {
				if name == k+1 {
					n++
				}
			}
		}
		l = append(l, n)
	}
	return l
}

func hasSlowKey(s impl.Store, vol int, key int) bool {
	return vol > -1 && vol < len(s.Volumes) && key > -1 && key < 5
}

func slowBlockAt(s impl.Store, vol int, key int) (string, bool) {
	if !isSlowStore(s) || !hasSlowKey(s, vol, key) {
		return "", false
	}
	if s.Volumes[vol][key] == 0 {
		return "", true
	}
	return slowTextAt(s.Scrub, s.Volumes[vol][key]-1)
}

// slowWrite works in the store itself.
func slowWrite(s *impl.Store, e impl.StoreEvent) bool {
	if !hasSlowKey(*s, e.Vol, e.Key) || len(e.Text) < 1 || len(e.Text) > 47 {
		return false
	}
	for k, n := range slowUses(*s) {
		if text, ok := slowTextAt(s.Scrub, k); ok && text == e.Text && n > 0 {
			s.Volumes[e.Vol][e.Key] = k + 1
			return true
		}
	}
	s.Volumes[e.Vol][e.Key] = 0
	for k, n := range slowUses(*s) {
		if n > 0 {
			continue
		}
		next, ok := slowRewrite(s.Scrub, k, e.Text)
		left := []int{}
		for _, at := range s.Hurt {
			if at < 5*k || at > 5*k+4 {
				left = append(left, at)
			}
		}
		s.Scrub, s.Hurt, s.Volumes[e.Vol][e.Key] = next, left, k+1
		return ok
	}
	return false
}

func slowEvent(s *impl.Store, e impl.StoreEvent) bool {
	ok := true
	switch e.Kind {
	case 1:
		return slowWrite(s, e)
	case 2:
		if e.Text != "" || !hasSlowKey(*s, e.Vol, e.Key) {
			return false
		}
		s.Volumes[e.Vol][e.Key] = 0
	case 3, 4:
		if e.Text != "" || e.Key != 0 || !hasSlowKey(*s, e.Vol, 0) {
			return false
		}
		if e.Kind == 3 {
			s.Volumes = append(s.Volumes, slices.Clone(s.Volumes[e.Vol]))
		} else {
			s.Volumes = append(slices.Clone(s.Volumes[:e.Vol]), s.Volumes[e.Vol+1:]...)
		}
	case 5:
		s.Scrub, ok = slowRotIn(s.Scrub, e.Key, e.Text)
		s.Hurt = append(s.Hurt, e.Key)
		slices.Sort(s.Hurt)
		s.Hurt = slices.Compact(s.Hurt)
		return ok && e.Vol == 0
	case 6:
		s.Scrub, _, _ = slowScrubAll(s.Scrub)
		s.Hurt = nil
		return e == impl.StoreEvent{Kind: 6}
	default:
		return false
	}
	return true
}

func slowDo(s impl.Store, e impl.StoreEvent) (impl.Store, bool) {
	if !isSlowStore(s) {
		return impl.Store{}, false
	}
	next := cloneStore(s)
	if !slowEvent(&next, e) || !isSlowStore(next) {
		return impl.Store{}, false
	}
	return next, true
}

func isBlock(t *testing.T, s impl.Store, vol int, key int, want string, wantOk bool) {
	t.Helper()
	if text, ok := impl.ReadBlock(s, vol, key); text != want || ok != wantOk {
		t.Fatalf("ReadBlock %#v %d %d: %q %v, want %q %v", s, vol, key, text, ok, want, wantOk)
	}
}

func areUses(t *testing.T, s impl.Store, want []int, wantOk bool) {
	t.Helper()
	if l, ok := impl.UsesIn(s); !slices.Equal(l, want) || ok != wantOk {
		t.Fatalf("UsesIn %#v: %v %v, want %v %v", s, l, ok, want, wantOk)
	}
}

func areStats(t *testing.T, s impl.Store, named int, all int, volumes int, wantOk bool) {
	t.Helper()
	if a, b, c, ok := impl.StatsOf(s); a != named || b != all || c != volumes || ok != wantOk {
		t.Fatalf("StatsOf %#v: %d %d %d %v, want %d %d %d %v", s, a, b, c, ok, named, all, volumes, wantOk)
	}
}

func isStoreAfter(t *testing.T, s impl.Store, e impl.StoreEvent, want impl.Store, wantOk bool) {
	t.Helper()
	was := cloneStore(s)
	if got, ok := impl.DoStore(s, e); !sameStore(got, want) || ok != wantOk {
		t.Fatalf("DoStore %#v %#v: %#v %v, want %#v %v", s, e, got, ok, want, wantOk)
	}
	if !sameStore(s, was) {
		t.Fatalf("DoStore %#v wrote into %#v, was %#v", e, s, was)
	}
}

func isRefusedEvent(t *testing.T, s impl.Store, e impl.StoreEvent) {
	t.Helper()
	isStoreAfter(t, s, e, impl.Store{}, false)
}

// checkStore holds all that is told of a store against what its bytes and its numbers tell.
func checkStore(t *testing.T, s impl.Store) {
	t.Helper()
	good := isSlowStore(s)
	if impl.GoodStore(s) != good {
		t.Fatalf("GoodStore %#v", s)
	}
	for vol := -1; vol < 6; vol++ {
		for key := -1; key < 7; key++ {
			text, ok := slowBlockAt(s, vol, key)
			isBlock(t, s, vol, key, text, ok)
		}
	}
	if !good {
		areUses(t, s, nil, false)
		areStats(t, s, 0, 0, 0, false)
		return
	}
	uses, named, all := slowUses(s), 0, 0
	for _, n := range uses {
		all += n
		if n > 0 {
			named++
		}
	}
	areUses(t, s, uses, true)
	areStats(t, s, named, all, len(s.Volumes), true)
}

func checkEvent(t *testing.T, s impl.Store, e impl.StoreEvent) bool {
	t.Helper()
	want, ok := slowDo(s, e)
	isStoreAfter(t, s, e, want, ok)
	return ok
}

// refusedStore asks for the zero answer of all that is told of a store.
func refusedStore(t *testing.T, s impl.Store) {
	t.Helper()
	if impl.GoodStore(s) || isSlowStore(s) {
		t.Fatalf("good %#v", s)
	}
	checkStore(t, s)
	for _, e := range eachKind() {
		isRefusedEvent(t, s, e)
	}
}

// eachKind has of each Kind an event that a store with nothing wrong does.
func eachKind() []impl.StoreEvent {
	return []impl.StoreEvent{stWrite(0, 0, "text"), stTrim(0, 0), stClone(0), stDrop(0), stRot(0, "\x01"), stScrub()}
}

func stWrite(vol int, key int, text string) impl.StoreEvent {
	return impl.StoreEvent{Kind: impl.StWrite, Vol: vol, Key: key, Text: text}
}

func stTrim(vol int, key int) impl.StoreEvent {
	return impl.StoreEvent{Kind: impl.StTrim, Vol: vol, Key: key}
}

func stClone(vol int) impl.StoreEvent {
	return impl.StoreEvent{Kind: impl.StClone, Vol: vol}
}

func stDrop(vol int) impl.StoreEvent {
	return impl.StoreEvent{Kind: impl.StDrop, Vol: vol}
}

func stRot(at int, mask string) impl.StoreEvent {
	return impl.StoreEvent{Kind: impl.StRot, Key: at, Text: mask}
}

func stScrub() impl.StoreEvent {
	return impl.StoreEvent{Kind: impl.StScrub}
}

func TestPromise17Constants(t *testing.T) {
	if impl.MaxVolumes != 4 || impl.VolumeSize != 5 || impl.MaxEvents != 40 {
		t.Error(impl.MaxVolumes, impl.VolumeSize, impl.MaxEvents)
	}
	if impl.StWrite != 1 || impl.StTrim != 2 || impl.StClone != 3 || impl.StDrop != 4 || impl.StRot != 5 || impl.StScrub != 6 {
		t.Error("kinds")
	}
}

func TestPromise17NewStores(t *testing.T) {
	for n := 1; n <= 4; n++ {
		s, ok := impl.NewStore(n)
		if want := filledWith(make([]string, n), make([]int, 5)); !ok || !sameStore(s, want) {
			t.Fatalf("NewStore %d: %#v %v", n, s, ok)
		}
		checkStore(t, s)
		areUses(t, s, make([]int, n), true)
		areStats(t, s, 0, 0, 1, true)
		for key := range 5 {
			isBlock(t, s, 0, key, "", true)
		}
	}
	for _, n := range []int{0, -1, -4, 5, 6, 8, 20, 256, 1 << 32, 1<<32 + 1, math.MinInt, math.MaxInt} {
		if s, ok := impl.NewStore(n); !isNoStore(s) || ok {
			t.Errorf("NewStore %d: %#v %v", n, s, ok)
		}
	}
}

// What a key names: nothing, or a stripe by its number and 1.
func TestPromise17BlocksThatAreRead(t *testing.T) {
	for n := 1; n <= 4; n++ {
		for volumes := 1; volumes <= 4; volumes++ {
			s := storeOf(n)
			uses, named := make([]int, n), 0
			for vol := range volumes {
				l := make([]int, 5)
				for key := range l {
					if l[key] = (3*vol + 2*key + n) % (n + 1); l[key] > 0 {
						uses[l[key]-1]++
					}
				}
				s.Volumes = append(s.Volumes, l)
			}
			all := 0
			for _, many := range uses {
				all += many
				named += min(many, 1)
			}
			areUses(t, s, uses, true)
			areStats(t, s, named, all, volumes, true)
			for vol, l := range s.Volumes {
				for key, name := range l {
					if name == 0 {
						isBlock(t, s, vol, key, "", true)
					} else {
						isBlock(t, s, vol, key, ownText(name-1), true)
					}
				}
			}
			checkStore(t, s)
		}
	}
}

func TestPromise17KeysThatAreNotThere(t *testing.T) {
	for volumes := 1; volumes <= 4; volumes++ {
		s := storeOf(2, slices.Repeat([][]int{{1, 2, 0, 1, 2}}, volumes)...)
		for _, key := range []int{-1, -5, 5, 6, 10, 256, 1 << 32, math.MinInt, math.MaxInt} {
			for vol := range volumes {
				isBlock(t, s, vol, key, "", false)
				isRefusedEvent(t, s, stWrite(vol, key, "text"))
				isRefusedEvent(t, s, stTrim(vol, key))
			}
		}
		for _, vol := range []int{-1, -volumes, volumes, volumes + 1, 256, 1 << 32, math.MinInt, math.MaxInt} {
			for key := range 5 {
				isBlock(t, s, vol, key, "", false)
				isRefusedEvent(t, s, stWrite(vol, key, "text"))
				isRefusedEvent(t, s, stTrim(vol, key))
			}
			isRefusedEvent(t, s, stClone(vol))
			isRefusedEvent(t, s, stDrop(vol))
		}
		isBlock(t, s, volumes-1, 0, "first", true)
		isBlock(t, s, 0, 4, "", true)
	}
}

// A stripe that cannot be read is not told; a key that names nothing is, and so is another stripe.
func TestPromise17BlocksThatAreLost(t *testing.T) {
	for _, lose := range losses() {
		s := storeOf(2, []int{0, 1, 2, 1, 0})
		s.Scrub = scrubWith(7, 7)
		for _, place := range []int{1, 2, 4} {
			lose(s.Scrub.Disk, place)
		}
		isBlock(t, s, 0, 0, "", true)
		isBlock(t, s, 0, 1, "", false)
		isBlock(t, s, 0, 3, "", false)
		isBlock(t, s, 0, 2, ownText(1), true)
		areUses(t, s, []int{2, 1}, true)
		areStats(t, s, 2, 3, 1, true)
		checkStore(t, s)
	}
}

// edgeStores meet each limit just so.
func edgeStores() []impl.Store {
	l := []impl.Store{}
	for n := 1; n <= 4; n++ {
		for volumes := 1; volumes <= 4; volumes++ {
			s := storeOf(n, slices.Repeat([][]int{{n, 0, 1, n, 0}}, volumes)...)
			full := storeOf(n, slices.Repeat([][]int{{1, min(2, n), min(3, n), min(4, n), n}}, volumes)...)
			all := cloneStore(s)
			for k := range n {
				all.Hurt = append(all.Hurt, 5*k+volumes-1, 5*k+4)
			}
			last := cloneStore(s)
			last.Hurt = []int{5*n - 2, 5*n - 1}
			l = append(l, s, full, all, hurtAt(s, all.Hurt...), hurtAt(full, 0, 1), last)
		}
	}
	for _, scrub := range edgeScrubs() {
		n := len(scrub.Epochs)
		l = append(l, impl.Store{Scrub: cloneScrub(scrub), Volumes: [][]int{{0, n, 1, 0, n}}, Hurt: []int{0, 4}})
	}
	return l
}

// spoiltStores have each one thing that makes them no good ones.
func spoiltStores(good impl.Store) []impl.Store {
	l := []impl.Store{}
	spoil := func(spoil func(s *impl.Store)) {
		s := cloneStore(good)
		spoil(&s)
		l = append(l, s)
	}
	n := len(good.Scrub.Epochs)
	for _, m := range []int{0, 5, 6, 8, 100} {
		spoil(func(s *impl.Store) { s.Volumes = slices.Repeat([][]int{make([]int, 5)}, m) })
	}
	for k := range good.Volumes {
		for _, m := range []int{0, 1, 4, 6, 7, 10} {
			spoil(func(s *impl.Store) { s.Volumes[k] = make([]int, m) })
		}
		for key := range 5 {
			for _, name := range []int{-1, -2, -n, n + 1, n + 2, 5, 6, 256, 1 << 32, 1<<32 + 1, math.MinInt, math.MaxInt} {
				spoil(func(s *impl.Store) { s.Volumes[k][key] = name })
			}
		}
	}
	for _, hurt := range notHurt(n) {
		spoil(func(s *impl.Store) { s.Hurt = hurt })
	}
	return l
}

// notHurt are lists that no store of so many stripes has Hurt.
func notHurt(stripes int) [][]int {
	end := 5 * stripes
	l := [][]int{{-1}, {-1, 0}, {end}, {0, end}, {end + 1}, {1, 0}, {0, 0}, {3, 3}, {0, 4, 4}, {4, 0}, {end - 1, 0}, {math.MinInt}, {math.MaxInt}, {0, math.MaxInt}, {1 << 32}}
	for k := range stripes {
		for _, places := range append(placeSets(5, 3), append(placeSets(5, 4), placeSets(5, 5)...)...) {
			hurt := []int{}
			for other := range k {
				hurt = append(hurt, 5*other, 5*other+4)
			}
			for _, place := range places {
				hurt = append(hurt, 5*k+place)
			}
			l = append(l, hurt)
		}
	}
	return l
}

func notStores() []impl.Store {
	l := []impl.Store{{}, {Volumes: [][]int{make([]int, 5)}}, {Scrub: scrubWith(1)}}
	for n := 1; n <= 4; n++ {
		l = append(l, spoiltStores(storeOf(n, slices.Repeat([][]int{{0, 1, n, 0, 1}}, 1+n%4)...))...)
	}
	for _, scrub := range notScrubs() {
		l = append(l, impl.Store{Scrub: scrub, Volumes: [][]int{make([]int, 5)}})
	}
	return l
}

func TestPromise17StoresThatAreNotGood(t *testing.T) {
	for _, s := range notStores() {
		refusedStore(t, s)
	}
}

func TestPromise17GoodStores(t *testing.T) {
	for _, s := range edgeStores() {
		if !impl.GoodStore(s) || !isSlowStore(s) {
			t.Fatalf("not good %#v", s)
		}
		checkStore(t, s)
		for _, e := range eachKind() {
			checkEvent(t, s, e)
		}
	}
}

// Hurt has of no stripe more than two, whichever they are; that they rotted is not asked.
func TestPromise17SetsThatAreHurt(t *testing.T) {
	for n := 1; n <= 4; n++ {
		for set := range 1 << min(5*n, 12) {
			s := storeOf(n, make([]int, 5))
			s.Hurt = bitsOf(set << (5*n - min(5*n, 12)))
			if impl.GoodStore(s) != isSlowStore(s) {
				t.Fatalf("%d %v", n, s.Hurt)
			}
		}
	}
}
