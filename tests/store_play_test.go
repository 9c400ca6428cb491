package tests

import (
	"maps"
	"math"
	"slices"
	"strings"
	"testing"

	"loop.example/g00405/impl"
)

// textVolume is a volume by texts alone: a copy of it is one of its own.
type textVolume [5]string

func distinctIn(volumes []textVolume) int {
	texts := map[string]int{}
	for _, volume := range volumes {
		for _, text := range volume {
			texts[text]++
		}
	}
	delete(texts, "")
	return len(texts)
}

// slowTextsAfter tells too whether the event was done; of a rot it does not know that.
func slowTextsAfter(stripes int, was []textVolume, e impl.StoreEvent) ([]textVolume, bool) {
	hasVol := e.Vol >= 0 && e.Vol < len(was)
	hasKey := hasVol && e.Key >= 0 && e.Key <= 4
	next := slices.Clone(was)
	switch {
	case e.Kind == 1 && hasKey && len(e.Text) >= 1 && len(e.Text) <= 47:
		next[e.Vol][e.Key] = e.Text
		if distinctIn(next) > stripes {
			return was, false
		}
	case e.Kind == 2 && hasKey && e.Text == "":
		next[e.Vol][e.Key] = ""
	case e.Kind == 3 && hasVol && e.Key == 0 && e.Text == "" && len(was) < 4:
		next = append(next, was[e.Vol])
	case e.Kind == 4 && hasVol && e.Key == 0 && e.Text == "" && len(was) > 1:
		next = slices.Delete(next, e.Vol, e.Vol+1)
	default:
		return was, e == stScrub()
	}
	return next, true
}

// slowModel has the texts in the end, and of each event whether it was done.
func slowModel(stripes int, l []impl.StoreEvent) ([][]string, []bool) {
	volumes, done := make([]textVolume, 1), make([]bool, len(l))
	for k, e := range l {
		volumes, done[k] = slowTextsAfter(stripes, volumes, e)
	}
	texts := [][]string{}
	for _, volume := range volumes {
		texts = append(texts, volume[:])
	}
	return texts, done
}

func slowStorePlay(stripes int, l []impl.StoreEvent) (impl.Store, []bool) {
	s, done := filledWith(make([]string, stripes), make([]int, 5)), []bool{}
	for _, e := range l {
		next, ok := slowDo(s, e)
		if ok {
			s = next
		}
		done = append(done, ok)
	}
	return s, done
}

// isKept asks for what promise 17 says of a store: each block is read as the texts tell, and kept once.
func isKept(t *testing.T, s impl.Store, texts [][]string) {
	t.Helper()
	if !impl.GoodStore(s) || len(s.Volumes) != len(texts) {
		t.Fatalf("%#v, want %q", s, texts)
	}
	uses := map[string]int{}
	for vol, volume := range texts {
		for key, text := range volume {
			isBlock(t, s, vol, key, text, true)
			if name := s.Volumes[vol][key]; (name == 0) != (text == "") {
				t.Fatalf("%#v: %d %d names %d for %q", s, vol, key, name, text)
			}
			if text != "" {
				uses[text]++
			}
		}
	}
	told, all := map[string]int{}, 0
	for k, n := range slowUses(s) {
		if text, ok := impl.TextAt(s.Scrub, k); n > 0 {
			if _, is := told[text]; is || !ok {
				t.Fatalf("%#v: %q is kept twice, or cannot be read", s, text)
			}
			told[text] = n
			all += n
		}
	}
	if !maps.Equal(told, uses) {
		t.Fatalf("%#v: %v, want %v", s, told, uses)
	}
	areUses(t, s, slowUses(s), true)
	areStats(t, s, len(uses), all, len(texts), true)
}

func isStorePlay(t *testing.T, stripes int, l []impl.StoreEvent, want impl.Store, wantDone []bool) {
	t.Helper()
	s, done, ok := impl.PlayStore(stripes, l)
	if !ok || !sameStore(s, want) || !slices.Equal(done, wantDone) {
		t.Fatalf("PlayStore %d %#v: %#v %v %v, want %#v %v", stripes, l, s, done, ok, want, wantDone)
	}
	wantTexts, byTexts := slowModel(stripes, l)
	texts, ok := impl.PlayModel(stripes, l)
	if !ok || !slices.EqualFunc(texts, wantTexts, slices.Equal[[]string]) {
		t.Fatalf("PlayModel %d %#v: %q %v, want %q", stripes, l, texts, ok, wantTexts)
	}
	for k, e := range l {
		if e.Kind != impl.StRot && done[k] != byTexts[k] {
			t.Fatalf("PlayStore %d %#v: %v, by texts %v", stripes, l, done, byTexts)
		}
	}
	isKept(t, s, texts)
}

func checkStorePlay(t *testing.T, stripes int, l []impl.StoreEvent) []bool {
	t.Helper()
	want, done := slowStorePlay(stripes, l)
	isStorePlay(t, stripes, l, want, done)
	return done
}

func refusedStorePlay(t *testing.T, stripes int, l []impl.StoreEvent) {
	t.Helper()
	if s, done, ok := impl.PlayStore(stripes, l); !isNoStore(s) || len(done) != 0 || ok {
		t.Errorf("PlayStore %d, %d events: %#v %v %v", stripes, len(l), s, done, ok)
	}
	if texts, ok := impl.PlayModel(stripes, l); len(texts) != 0 || ok {
		t.Errorf("PlayModel %d, %d events: %q %v", stripes, len(l), texts, ok)
	}
}

func TestPromise17KnownPlay(t *testing.T) {
	l := []impl.StoreEvent{
		stWrite(0, 0, "one"), stWrite(0, 1, "two"), stWrite(0, 2, "one"), stClone(0), stWrite(1, 2, "three"),
		stWrite(1, 1, "one"), stTrim(0, 1), stWrite(1, 2, "three"), stRot(5, "\x01"), stRot(9, "\x01"),
		stRot(7, "\x01"), stWrite(0, 4, "three"), stScrub(), stRot(7, "abcd"), stDrop(0), stTrim(0, 2),
		stWrite(0, 3, "four"),
	}
	s, done, ok := impl.PlayStore(2, l)
	want := []bool{true, true, true, true, false, true, true, true, true, true, false, true, true, true, true, true, true}
	if !ok || !slices.Equal(done, want) {
		t.Fatal(done)
	}
	// "two" went to the stripe 1, then "three", then "four": "one" is in the stripe 0 still.
	if !slices.EqualFunc(s.Volumes, [][]int{{1, 1, 0, 2, 0}}, slices.Equal[[]int]) || len(s.Hurt) != 0 || !slices.Equal(s.Scrub.Epochs, []int{2, 4}) || s.Scrub.Mended != 2 {
		t.Errorf("%#v", s)
	}
	isKept(t, s, [][]string{{"one", "one", "", "four", ""}})
	checkStorePlay(t, 2, l)
	if s, done, ok := impl.PlayStore(3, l[:5]); !ok || !done[4] || s.Volumes[1][2] != 3 {
		t.Errorf("%#v %v", s, done)
	}
}

func TestPromise17HowManyEvents(t *testing.T) {
	l := []impl.StoreEvent{}
	for n := range 45 {
		for stripes := 1; stripes <= 4; stripes++ {
			if n <= 40 {
				checkStorePlay(t, stripes, l)
			} else {
				refusedStorePlay(t, stripes, l)
				refusedStorePlay(t, stripes, make([]impl.StoreEvent, n))
			}
		}
		l = append(l, []impl.StoreEvent{stWrite(n%2, n%5, textOf(1+n, n/2)), stClone(0), stRot(n%20, "\x01"), stScrub(), stTrim(0, n%5), stDrop(1), {}}[n%7])
	}
	for _, stripes := range []int{0, -1, 5, 6, 256, 1 << 32, 1<<32 + 1, math.MinInt, math.MaxInt} {
		refusedStorePlay(t, stripes, nil)
		refusedStorePlay(t, stripes, l[:40])
		refusedStorePlay(t, stripes, l[:41])
	}
	refusedStorePlay(t, 1, make([]impl.StoreEvent, 100000))
	for stripes := 1; stripes <= 4; stripes++ {
		checkStorePlay(t, stripes, make([]impl.StoreEvent, 40))
	}
}

// As many texts as stripes and one more, each to keys and volumes of its own.
func TestPromise17AsManyTextsAsStripes(t *testing.T) {
	for stripes := 1; stripes <= 4; stripes++ {
		l := []impl.StoreEvent{}
		for k := range stripes {
			l = append(l, stWrite(0, k, textOf(47-k, k)))
		}
		l = append(l, stWrite(0, 4, "more"))
		done := checkStorePlay(t, stripes, l)
		if want := slices.Repeat([]bool{true}, stripes); !slices.Equal(done, append(want, false)) {
			t.Errorf("%d: %v", stripes, done)
		}
		l = append(l, stClone(0), stClone(1), stWrite(1, 0, "more"), stTrim(0, 0), stTrim(2, 0), stWrite(2, 3, "more"), stWrite(1, 0, "more"), stWrite(2, 3, "more"))
		done = checkStorePlay(t, stripes, l)
		if want := []bool{true, true, false, true, true, false, true, true}; !slices.Equal(done[stripes+1:], want) && stripes < 4 {
			t.Errorf("%d: %v", stripes, done)
		}
		// Then the same texts go from key to key.
		for k := range 4 {
			l = append(l, stWrite(1, k+1, textOf(47, k%stripes)), stWrite(0, k, textOf(47, k)))
		}
		checkStorePlay(t, stripes, l)
	}
}

// One key is written over again and again: its stripe is free each time, and its Epoch goes up.
func TestPromise17OneKeyWrittenOver(t *testing.T) {
	for stripes := 1; stripes <= 4; stripes++ {
		l := []impl.StoreEvent{}
		for k := range 39 {
			l = append(l, stWrite(0, 2, textOf(1+k, k)))
		}
		s, done, ok := impl.PlayStore(stripes, l)
		if !ok || slices.Contains(done, false) || s.Volumes[0][2] != 1 || s.Scrub.Epochs[0] != 40 {
			t.Fatalf("%#v %v", s, done)
		}
		checkStorePlay(t, stripes, l)
		checkStorePlay(t, stripes, append(l, stWrite(0, 2, textOf(39, 38))))
	}
}

func TestPromise17AsManyVolumesAsThereMayBe(t *testing.T) {
	for from := range 4 {
		l := []impl.StoreEvent{stWrite(0, 0, "a"), stDrop(0), stClone(0), stWrite(1, 1, "b"), stClone(min(1, from)), stWrite(2, 2, "c"), stClone(min(2, from)), stClone(0), stClone(3)}
		done := checkStorePlay(t, 3, l)
		if want := []bool{true, false, true, true, true, true, true, false, false}; !slices.Equal(done, want) {
			t.Error(done)
		}
		for _, drops := range [][]int{{3, 2, 1, 0}, {0, 0, 0, 0}, {from, 1, 1, 0}, {1, 2, 0, 0}} {
			drop := l
			for _, vol := range drops {
				drop = append(slices.Clone(drop), stDrop(vol))
				checkStorePlay(t, 3, drop)
			}
			checkStorePlay(t, 3, append(drop, stClone(0), stWrite(1, 4, "d"), stWrite(0, 4, "e"), stWrite(0, 3, "f")))
		}
	}
}

// Every set of two sectors of each stripe rots: all blocks are read; the third one of a stripe does not.
func TestPromise17StripesRotInAPlay(t *testing.T) {
	texts := []string{"a", textOf(47, 1), "\x00\x00", "abc"}
	for stripes := 1; stripes <= 4; stripes++ {
		for i, places := range append(placeSets(5, 2), placeSets(5, 3)...) {
			l := []impl.StoreEvent{}
			for k := range stripes {
				l = append(l, stWrite(0, k, texts[k]))
			}
			want := slices.Repeat([]bool{true}, stripes)
			for k := range stripes {
				for j, place := range places {
					l = append(l, stRot(5*k+place, textOf(1+(i+j)%4, i)))
					want = append(want, j < 2)
				}
			}
			if done := checkStorePlay(t, stripes, l); !slices.Equal(done, want) {
				t.Fatalf("%v: %v", places, done)
			}
			// Behind a scrub, or where it is rewritten, a stripe may rot anew.
			again := append(slices.Clone(l), stScrub(), stRot(places[0], "\x01"), stRot(places[1], "\x80"), stWrite(0, stripes, "a"))
			if done := checkStorePlay(t, stripes, again); slices.Contains(done[len(l):], false) {
				t.Fatalf("%v: %v", places, done)
			}
			anew := append(slices.Clone(l), stTrim(0, 0), stWrite(0, 3, "new"), stRot(places[1], "\x01"), stRot(places[0], "\x80"))
			if done := checkStorePlay(t, stripes, anew); slices.Contains(done[len(l):], false) && stripes < 4 {
				t.Fatalf("%v: %v", places, done)
			}
		}
	}
}

// A sector that is Hurt may rot on and on, also back to what it was: no other one may for that.
func TestPromise17SectorsRotOnAndOn(t *testing.T) {
	masks := []string{"\x01", "\x00\xff", "abcd", "\x00\x00\x00\x80", "\x01", "\xff\xff\xff\xff", "\x00", "\x02"}
	l := []impl.StoreEvent{stWrite(0, 0, "text"), stClone(0)}
	for k := range 30 {
		l = append(l, stRot([]int{1, 4, 1, 1, 4, 2}[k%6], masks[k%8]))
		done := checkStorePlay(t, 1, l)
		if done[len(done)-1] != (k%6 != 5) {
			t.Fatal(done)
		}
	}
	back := []impl.StoreEvent{stWrite(0, 0, "text"), stRot(0, "ab"), stRot(0, "ab"), stRot(1, "\x00"), stRot(2, "\x01"), stScrub(), stRot(2, "\x01")}
	if done := checkStorePlay(t, 1, back); !slices.Equal(done, []bool{true, true, true, true, false, true, true}) {
		t.Error(done)
	}
}

// eachStorePlay has all plays of so many of these events.
func eachStorePlay(t *testing.T, stripes int, n int, of []impl.StoreEvent) {
	t.Helper()
	places := make([]int, len(of))
	for k := range places {
		places[k] = k
	}
	eachList(n, places, func(which []int) {
		l := []impl.StoreEvent{}
		for _, k := range which {
			l = append(l, of[k])
		}
		checkStorePlay(t, stripes, l)
	})
}

func TestPromise17AllShortPlays(t *testing.T) {
	writes := []impl.StoreEvent{stWrite(0, 0, "a"), stWrite(0, 1, "a"), stWrite(0, 0, "b"), stWrite(1, 1, "b"), stWrite(1, 0, "c"), stTrim(0, 0), stTrim(1, 1), stClone(0), stClone(1), stDrop(0)}
	eachStorePlay(t, 1, 3, writes)
	eachStorePlay(t, 2, 3, writes)
	rots := []impl.StoreEvent{stWrite(0, 0, "a"), stWrite(0, 0, "b"), stTrim(0, 0), stRot(0, "\x01"), stRot(3, "\x01"), stRot(4, "ab"), stScrub()}
	eachStorePlay(t, 1, 4, rots)
	eachStorePlay(t, 2, 3, append(rots, stRot(9, "\x01"), stWrite(0, 1, "c")))
}

// someEvent is one of some events that may be done or not.
func someEvent(stripes int, which []int) impl.StoreEvent {
	texts := []string{"a", "b", textOf(47, 1), "\x00", "ab", strings.Repeat("\x00", 47), textOf(20, 2), "c"}
	vol, key := which[1]%5, which[2]%6
	switch which[0] % 16 {
	case 0, 1, 2, 3, 4:
		return stWrite(vol%3, key%5, texts[which[3]%(stripes+3)])
	case 5:
		return stWrite(vol, key, textOf(which[3]%50, which[4]))
	case 6, 7:
		return stTrim(vol%3, key%5)
	case 8:
		return stClone(vol)
	case 9:
		return stDrop(vol)
	case 10, 11, 12, 13:
		return stRot(which[3]%(5*stripes), textOf(1+which[4]%4, which[2]))
	case 14:
		return stScrub()
	}
	return impl.StoreEvent{Kind: which[1] % 8, Vol: which[2] % 3, Key: which[3] % 3, Text: texts[which[4]%8][:which[4]%2]}
}

func TestPromise17ManyPlays(t *testing.T) {
	were, not := map[int]int{}, map[int]int{}
	for seed := range 400 {
		stripes := 1 + seed%4
		l := []impl.StoreEvent{}
		for k := range 40 - seed%7 {
			l = append(l, someEvent(stripes, elementsIn(textOf(5, seed*1000+k))))
		}
		for k, is := range checkStorePlay(t, stripes, l) {
			if is {
				were[l[k].Kind]++
			} else {
				not[l[k].Kind]++
			}
		}
	}
	for kind := 1; kind <= 6; kind++ {
		if min(were[kind], not[kind]) < 20 {
			t.Error("too few of a kind", kind, were, not)
		}
	}
}

// Step by step DoStore does what a play does, and each store on the way keeps what the model tells.
func TestPromise17StepByStep(t *testing.T) {
	for seed := range 40 {
		stripes := 1 + seed%4
		s, _ := impl.NewStore(stripes)
		l := []impl.StoreEvent{}
		for k := range 40 {
			e := someEvent(stripes, elementsIn(textOf(5, 7000+seed*1000+k)))
			l = append(l, e)
			if next, ok := impl.DoStore(s, e); ok {
				s = next
			}
			texts, _ := slowModel(stripes, l)
			isKept(t, s, texts)
			checkStore(t, s)
		}
		want, done := slowStorePlay(stripes, l)
		isStorePlay(t, stripes, l, want, done)
		if !sameStore(s, want) {
			t.Fatalf("%#v, want %#v", s, want)
		}
	}
}
