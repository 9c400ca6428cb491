package tests

import (
	"math"
	"slices"
	"strings"
	"testing"

	"loop.example/g00405/impl"
)

// withText has a stripe rewritten, none of its sectors Hurt, and a key that names it.
func withText(s impl.Store, k int, text string, vol int, key int) impl.Store {
	s = cloneStore(s)
	s.Scrub = rewritten(s.Scrub, k, text)
	s.Hurt = slices.DeleteFunc(s.Hurt, func(at int) bool { return at/5 == k })
	return named(s, vol, key, k+1)
}

func named(s impl.Store, vol int, key int, name int) impl.Store {
	s = cloneStore(s)
	s.Volumes[vol][key] = name
	return s
}

func withVolumes(s impl.Store, volumes ...[]int) impl.Store {
	s = cloneStore(s)
	s.Volumes = volumes
	return cloneStore(s)
}

func TestPromise17TextsOfAllLengths(t *testing.T) {
	for n := range 48 {
		for _, text := range textsOf(n) {
			s := storeOf(2, make([]int, 5))
			if n == 0 {
				isRefusedEvent(t, s, stWrite(0, 1, text))
				continue
			}
			want := withText(s, 0, text, 0, 1)
			isStoreAfter(t, s, stWrite(0, 1, text), want, true)
			isBlock(t, want, 0, 1, text, true)
			isStoreAfter(t, want, stWrite(0, 4, text), named(want, 0, 4, 1), true)
			isStoreAfter(t, want, stWrite(0, 4, "other"), withText(want, 1, "other", 0, 4), true)
		}
	}
	for _, text := range append(notStripeTexts(), "") {
		for _, l := range [][]int{make([]int, 5), {1, 2, 0, 0, 0}} {
			isRefusedEvent(t, storeOf(2, l), stWrite(0, 0, text))
		}
	}
}

// A key of every volume names a text that is kept already; nothing is written.
func TestPromise17TextsThatAreKept(t *testing.T) {
	for n := 1; n <= 4; n++ {
		texts := []string{"a", textOf(47, 1), "\x00", "ab"}[:n]
		for volumes := 1; volumes <= 4; volumes++ {
			s := filledWith(texts, slices.Repeat([][]int{make([]int, 5)}, volumes)...)
			for k := range n {
				s.Volumes[k%volumes][k%5] = k + 1
			}
			s.Hurt = []int{0, 4}
			for vol := range volumes {
				for key := range 5 {
					for k, text := range texts {
						isStoreAfter(t, s, stWrite(vol, key, text), named(s, vol, key, k+1), true)
					}
				}
			}
		}
	}
}

// The stripes that are not named tell texts too; those are written anew.
func TestPromise17TextsThatNobodyNames(t *testing.T) {
	for set := range 16 {
		texts := []string{"a", "b", "c", "d"}
		s := filledWith(texts, make([]int, 5))
		for _, k := range bitsOf(set) {
			s.Volumes[0][k] = k + 1
		}
		first := slices.Index(s.Volumes[0][:4], 0)
		for k, text := range texts {
			switch {
			case set>>k&1 == 1:
				isStoreAfter(t, s, stWrite(0, 4, text), named(s, 0, 4, k+1), true)
			default:
				isStoreAfter(t, s, stWrite(0, 4, text), withText(s, first, text, 0, 4), true)
			}
		}
		if set == 15 {
			isRefusedEvent(t, s, stWrite(0, 4, "e"))
		} else {
			isStoreAfter(t, s, stWrite(0, 4, "e"), withText(s, first, "e", 0, 4), true)
		}
	}
	// The empty text that a new store's stripes have is no block.
	s, _ := impl.NewStore(2)
	isRefusedEvent(t, s, stWrite(0, 0, ""))
	isStoreAfter(t, s, stWrite(0, 0, "\x00"), withText(s, 0, "\x00", 0, 0), true)
}

// A text in two stripes that are named: the first one counts. One that cannot be read is passed over.
func TestPromise17FirstStripeThatTells(t *testing.T) {
	s := filledWith([]string{"x", "same", "same", "same"}, []int{1, 0, 3, 4, 0})
	isStoreAfter(t, s, stWrite(0, 1, "same"), named(s, 0, 1, 3), true)
	isStoreAfter(t, s, stWrite(0, 3, "same"), named(s, 0, 3, 3), true)
	isStoreAfter(t, named(s, 0, 4, 2), stWrite(0, 1, "same"), named(named(s, 0, 4, 2), 0, 1, 2), true)
	for _, lose := range losses() {
		s := withVolumes(storeOf(4), []int{1, 2, 3, 4, 0})
		s.Scrub = scrubWith(7, 7, 7, 7)
		copy(s.Scrub.Disk.Plate[15:], stripeSectors(15, 7, slowBlock(ownText(2))))
		for _, place := range []int{0, 2, 3} {
			lose(s.Scrub.Disk, 10+place)
		}
		isStoreAfter(t, s, stWrite(0, 0, ownText(2)), named(s, 0, 0, 4), true)
		isRefusedEvent(t, named(s, 0, 4, 1), stWrite(0, 0, "new"))
		one := named(s, 0, 3, 2)
		isStoreAfter(t, one, stWrite(0, 0, "first"), one, true)
		checkEvent(t, one, stWrite(0, 0, ownText(2)))
		checkEvent(t, one, stWrite(0, 2, ownText(2)))
		checkEvent(t, one, stScrub())
	}
}

// A key names nothing ahead of a new stripe: what it alone named is free, and may be the first that is.
func TestPromise17KeysWrittenOver(t *testing.T) {
	for n := 1; n <= 4; n++ {
		for k := range n {
			// Each stripe is named once, the k-th one by the last key.
			l := make([]int, 5)
			for other := range n {
				l[other] = other + 1
			}
			l[4], l[k] = k+1, 0
			s := filledWith([]string{"a", "b", "c", "d"}[:n], l)
			isStoreAfter(t, s, stWrite(0, 4, "new"), withText(s, k, "new", 0, 4), true)
			isStoreAfter(t, s, stWrite(0, 4, string("abcd"[k])), s, true)
			isRefusedEvent(t, s, stWrite(0, k, "new"))
			both := named(s, 0, k, k+1)
			isRefusedEvent(t, both, stWrite(0, 4, "new"))
			isRefusedEvent(t, both, stWrite(0, k, "new"))
			two := withVolumes(s, l, make([]int, 5))
			isStoreAfter(t, two, stWrite(0, 4, "new"), withText(two, k, "new", 0, 4), true)
			isRefusedEvent(t, two, stWrite(1, 4, "new"))
			isRefusedEvent(t, named(two, 1, 0, k+1), stWrite(0, 4, "new"))
			for other := range n {
				isStoreAfter(t, s, stWrite(0, 4, string("abcd"[other])), named(s, 0, 4, other+1), true)
			}
		}
	}
	// A free one ahead of its own is taken first, and its own is left; one behind it is not.
	s := filledWith([]string{"a", "b", "c"}, []int{2, 0, 0, 0, 0})
	isStoreAfter(t, s, stWrite(0, 0, "new"), withText(s, 0, "new", 0, 0), true)
	s = filledWith([]string{"a", "b", "c"}, []int{1, 0, 0, 0, 0})
	isStoreAfter(t, s, stWrite(0, 0, "new"), withText(s, 0, "new", 0, 0), true)
	s = filledWith([]string{"a", "b", "c"}, []int{1, 2, 0, 0, 1})
	isStoreAfter(t, s, stWrite(0, 0, "new"), withText(s, 2, "new", 0, 0), true)
}

// At the last Epoch a stripe is not written, and no other one in its place.
func TestPromise17LastEpochs(t *testing.T) {
	s := withVolumes(storeOf(2), []int{0, 0, 0, 0, 0})
	s.Scrub = scrubWith(60000, 1)
	isRefusedEvent(t, s, stWrite(0, 0, "new"))
	isRefusedEvent(t, s, stWrite(0, 0, ownText(0)))
	s.Volumes[0][1] = 1
	isStoreAfter(t, s, stWrite(0, 0, "new"), withText(s, 1, "new", 0, 0), true)
	isStoreAfter(t, s, stWrite(0, 0, ownText(0)), named(s, 0, 0, 1), true)
	isRefusedEvent(t, s, stWrite(0, 1, "new"))
	s.Volumes[0][0] = 2
	isRefusedEvent(t, s, stWrite(0, 1, "new"))
	isStoreAfter(t, s, stWrite(0, 0, "new"), withText(s, 1, "new", 0, 0), true)
	s.Scrub = scrubWith(1, 59999)
	last := withText(s, 1, "new", 0, 0)
	if isStoreAfter(t, s, stWrite(0, 0, "new"), last, true); last.Scrub.Epochs[1] != 60000 {
		t.Error(last.Scrub.Epochs)
	}
	isRefusedEvent(t, last, stWrite(0, 0, "newer"))
	isStoreAfter(t, last, stWrite(0, 0, "new"), last, true)
}

// A stripe with a Bad sector is not written, and no other one in its place.
func TestPromise17BadSectors(t *testing.T) {
	for at := range 10 {
		s := storeOf(2, make([]int, 5))
		s.Scrub.Disk.Bad[at] = true
		if at < 5 {
			isRefusedEvent(t, s, stWrite(0, 0, "new"))
		} else {
			isStoreAfter(t, s, stWrite(0, 0, "new"), withText(s, 0, "new", 0, 0), true)
		}
		for _, e := range eachKind() {
			checkEvent(t, s, e)
		}
	}
}

func TestPromise17Trims(t *testing.T) {
	for volumes := 1; volumes <= 4; volumes++ {
		s := storeOf(3, slices.Repeat([][]int{{1, 2, 3, 0, 1}}, volumes)...)
		s.Hurt = []int{0, 3, 14}
		for vol := range volumes {
			for key := range 5 {
				isStoreAfter(t, s, stTrim(vol, key), named(s, vol, key, 0), true)
			}
		}
	}
}

func TestPromise17ClonesAndDrops(t *testing.T) {
	rows := [][]int{{1, 2, 0, 0, 1}, {0, 0, 0, 0, 0}, {2, 2, 2, 2, 2}, {0, 0, 0, 0, 1}}
	for volumes := 1; volumes <= 4; volumes++ {
		s := storeOf(2, rows[:volumes]...)
		s.Hurt = []int{1, 9}
		for vol := range volumes {
			if volumes == 4 {
				isRefusedEvent(t, s, stClone(vol))
			} else {
				isStoreAfter(t, s, stClone(vol), withVolumes(s, append(slices.Clone(rows[:volumes]), rows[vol])...), true)
			}
			if volumes == 1 {
				isRefusedEvent(t, s, stDrop(vol))
			} else {
				isStoreAfter(t, s, stDrop(vol), withVolumes(s, slices.Concat(rows[:vol], rows[vol+1:volumes])...), true)
			}
		}
	}
}

// A clone is a volume of its own: what is written into one is not seen in the other.
func TestPromise17ClonesStandAlone(t *testing.T) {
	s := storeOf(2, []int{1, 0, 0, 0, 0})
	s, ok := impl.DoStore(s, stClone(0))
	if !ok {
		t.Fatal(s)
	}
	one, ok := impl.DoStore(s, stWrite(0, 0, "new"))
	isBlock(t, one, 0, 0, "new", ok)
	isBlock(t, one, 1, 0, ownText(0), ok)
	other, ok := impl.DoStore(s, stTrim(1, 0))
	isBlock(t, other, 0, 0, ownText(0), ok)
	isBlock(t, other, 1, 0, "", ok)
	spoil(other.Volumes[0])
	isBlock(t, one, 0, 0, "new", true)
	isBlock(t, s, 0, 0, ownText(0), true)
}

// Each sector rots once, twice, and beside one and two others of its stripe.
func TestPromise17SectorsThatRot(t *testing.T) {
	for n := 1; n <= 4; n++ {
		for set := range 32 {
			if len(bitsOf(set)) > 2 {
				continue
			}
			for k := range n {
				hurt := []int{}
				for _, place := range bitsOf(set) {
					hurt = append(hurt, 5*k+place)
				}
				s := hurtAt(storeOf(n, []int{n, 0, 1, 0, 0}), hurt...)
				for at := range 5 * n {
					e := stRot(at, "\x00\x40")
					if len(hurt) == 2 && at/5 == k && !slices.Contains(hurt, at) {
						isRefusedEvent(t, s, e)
						continue
					}
					want := cloneStore(s)
					want.Scrub.Disk.Plate[at] = slowRot(want.Scrub.Disk.Plate[at], "\x00\x40")
					want.Hurt = slices.Compact(slices.Sorted(slices.Values(append(want.Hurt, at))))
					isStoreAfter(t, s, e, want, true)
					isBlock(t, want, 0, 0, ownText(n-1), true)
					isBlock(t, want, 0, 2, ownText(0), true)
				}
			}
		}
	}
}

func TestPromise17MasksThatRot(t *testing.T) {
	s := storeOf(2, []int{1, 2, 0, 0, 0})
	for long := range 7 {
		for _, mask := range textsOf(long) {
			if long < 1 || long > 4 {
				isRefusedEvent(t, s, stRot(6, mask))
				continue
			}
			want := cloneStore(s)
			want.Hurt = []int{6}
			want.Scrub.Disk.Plate[6] = slowRot(want.Scrub.Disk.Plate[6], mask)
			isStoreAfter(t, s, stRot(6, mask), want, true)
		}
	}
	for _, at := range []int{-1, 10, 11, 24, 256, 1 << 32, math.MinInt, math.MaxInt} {
		isRefusedEvent(t, s, stRot(at, "\x01"))
	}
	s.Scrub.Disk.Held[6] = "held"
	isRefusedEvent(t, s, stRot(6, "\x01"))
}

// A scrub mends what is Hurt; behind it the same sectors and others may rot again.
func TestPromise17Scrubs(t *testing.T) {
	for n := 1; n <= 4; n++ {
		whole := storeOf(n, []int{1, n, 0, 0, 0})
		for _, places := range append(placeSets(5, 2), placeSets(5, 1)...) {
			hurt := []int{}
			for k := range n {
				for _, place := range places {
					hurt = append(hurt, 5*k+place)
				}
			}
			s := hurtAt(whole, hurt...)
			want := cloneStore(whole)
			want.Scrub.Mended = len(hurt)
			isStoreAfter(t, s, stScrub(), want, true)
			for at := range 5 * n {
				checkEvent(t, want, stRot(at, "\x01"))
			}
		}
		isStoreAfter(t, whole, stScrub(), whole, true)
	}
	// Nothing is Hurt then, though a stripe cannot be read.
	s := hurtAt(storeOf(2, make([]int, 5)), 0, 1, 2, 8)
	s.Hurt = []int{0, 2, 5}
	want := cloneStore(s)
	want.Hurt, want.Scrub.Mended = nil, 1
	want.Scrub.Disk.Plate[8] = storeOf(2).Scrub.Disk.Plate[8]
	isStoreAfter(t, s, stScrub(), want, true)
}

// What is rewritten is Hurt no more, and what is Hurt elsewhere stays so.
func TestPromise17RewrittenStripesAreHurtNoMore(t *testing.T) {
	for k := range 3 {
		for _, places := range append(placeSets(5, 2), placeSets(5, 1)...) {
			l := []int{1, 2, 3, 0, 0}
			l[k] = 0
			hurt := []int{}
			for other := range 3 {
				for _, place := range places {
					hurt = append(hurt, 5*other+place)
				}
			}
			s := hurtAt(storeOf(3, l), hurt...)
			want := withText(s, k, "new", 0, 4)
			if isStoreAfter(t, s, stWrite(0, 4, "new"), want, true); len(want.Hurt) != 2*len(places) {
				t.Fatal(want.Hurt)
			}
			isStoreAfter(t, s, stWrite(0, 4, ownText(0)), slowDone(t, s, stWrite(0, 4, ownText(0))), true)
			for at := range 15 {
				checkEvent(t, want, stRot(at, "\x01"))
			}
		}
	}
}

func slowDone(t *testing.T, s impl.Store, e impl.StoreEvent) impl.Store {
	t.Helper()
	next, ok := slowDo(s, e)
	if !ok {
		t.Fatalf("%#v %#v", s, e)
	}
	return next
}

// What an event has no use for is zero, and it has a Kind that there is.
func TestPromise17FieldsWithoutUse(t *testing.T) {
	s := storeOf(2, []int{1, 0, 0, 0, 0}, []int{0, 0, 0, 0, 2})
	for _, e := range []impl.StoreEvent{stTrim(0, 0), stTrim(1, 4), stClone(0), stClone(1), stDrop(0), stDrop(1), stScrub()} {
		isStoreAfter(t, s, e, slowDone(t, s, e), true)
		for _, text := range []string{"\x00", "a", "\x01", textOf(47, 1), textOf(48, 1)} {
			with := e
			with.Text = text
			isRefusedEvent(t, s, with)
		}
	}
	for _, e := range []impl.StoreEvent{stClone(0), stDrop(1), stScrub()} {
		for _, key := range []int{-1, 1, 4, 5, math.MinInt, math.MaxInt} {
			with := e
			with.Key = key
			isRefusedEvent(t, s, with)
		}
	}
	for _, e := range []impl.StoreEvent{stRot(0, "\x01"), stRot(9, "abcd"), stScrub()} {
		isStoreAfter(t, s, e, slowDone(t, s, e), true)
		for _, vol := range []int{-1, 1, 2, math.MinInt, math.MaxInt} {
			with := e
			with.Vol = vol
			isRefusedEvent(t, s, with)
		}
	}
	for _, kind := range []int{0, -1, -6, 7, 8, 256, 257, 1<<32 + 1, math.MinInt, math.MaxInt} {
		for _, e := range append(eachKind(), impl.StoreEvent{}) {
			e.Kind = kind
			isRefusedEvent(t, s, e)
		}
	}
}

// What is Held goes on the Plate with what is written, as a rewriting says.
func TestPromise17HeldSectors(t *testing.T) {
	for set := range 1 << 10 {
		s := storeOf(2, []int{0, 2, 0, 0, 0})
		for _, at := range bitsOf(set) {
			s.Scrub.Disk.Held[at] = "held " + strings.Repeat("x", at)
		}
		checkEvent(t, s, stWrite(0, 0, "new"))
		checkEvent(t, s, stScrub())
		checkEvent(t, s, stRot(set%10, "\x01"))
	}
}
