package tests

import (
	"math"
	"slices"
	"strings"
	"testing"

	"loop.example/g00405/impl"
)

// mixedScrubs have fields of one and of another scrub.
func mixedScrubs() []impl.Scrub {
	from := slices.Concat(edgeScrubs(), oddScrubs()[:40], []impl.Scrub{{}, {Disk: emptyDisk(24), Epochs: []int{math.MinInt}, Cursor: math.MaxInt, Mended: math.MinInt}, {Disk: emptyDisk(1), Epochs: make([]int, 1000), Cursor: 999}})
	l := []impl.Scrub{}
	for seed := range 400 {
		which := elementsIn(textOf(4, seed))
		pick := func(k int) impl.Scrub { return from[which[k]%len(from)] }
		l = append(l, impl.Scrub{Disk: pick(0).Disk, Epochs: pick(1).Epochs, Cursor: pick(2).Cursor, Mended: pick(3).Mended})
	}
	return l
}

func anyScrubs() []impl.Scrub {
	l := slices.Concat(edgeScrubs(), oddScrubs()[:80], notScrubs(), mixedScrubs())
	for _, d := range anyStripeDisks() {
		n := len(d.Plate) / 5
		l = append(l, impl.Scrub{Disk: d, Epochs: slices.Repeat([]int{7}, n), Cursor: n - 1}, impl.Scrub{Disk: d, Epochs: []int{0}})
	}
	return l
}

// fewScrubs leaves out most of those of which there are many alike.
func fewScrubs() []impl.Scrub {
	l := []impl.Scrub{scrubWith(1), scrubWith(1, 2, 3, 4)}
	for k, s := range slices.Concat(oddScrubs()[:200], edgeScrubs(), notScrubs(), mixedScrubs()) {
		if k < 20 || k%29 == 0 {
			l = append(l, s)
		}
	}
	return l
}

func anyScrubPlaces() []int {
	return append(anyNumbers(), 4, 5, 6, 10, 14, 15, 19, 20, 21, 24, 25)
}

func TestPromise19ScrubsOfAnything(t *testing.T) {
	good, not := 0, 0
	for _, s := range anyScrubs() {
		checkScrub(t, s)
		if impl.GoodScrub(s) {
			good++
		} else {
			not++
		}
		for _, k := range anyScrubPlaces() {
			text, ok := slowTextAt(s, k)
			isTextAt(t, s, k, text, ok)
			checkRotIn(t, s, k, "\x80\x01")
			checkRewrite(t, s, k, "text")
		}
	}
	if good < 100 || not < 100 {
		t.Error("too few of a kind", good, not)
	}
}

func TestPromise19RotsAndRewritingsOfAnything(t *testing.T) {
	texts := slices.Concat(anyTexts(), anyBodies(), notStripeTexts()[:6], []string{textOf(5, 1), textOf(46, 1), textOf(47, 1)})
	for _, s := range fewScrubs() {
		for _, at := range []int{-1, 0, 1, 3, 4, 7, 19, 20, math.MinInt, math.MaxInt} {
			for _, text := range texts {
				checkRotIn(t, s, at, text)
				checkRewrite(t, s, at, text)
			}
		}
	}
}

func TestPromise19NewScrubsOfAnything(t *testing.T) {
	lists := append(anyTextLists(), []string{"", "a"}, []string{textOf(47, 1), textOf(47, 2)})
	texts := []string{"", "\x00", textOf(46, 1), textOf(47, 2), textOf(48, 3), textOf(303, 4)}
	for n := range 5 {
		eachList(n, []int{0, 1, 2, 3, 4, 5}, func(which []int) {
			l := []string{}
			for _, k := range which {
				l = append(l, texts[k])
			}
			lists = append(lists, l)
		})
	}
	isLong := func(s string) bool { return len(s) > 47 }
	for _, l := range lists {
		if len(l) > 0 && len(l) < 5 && !slices.ContainsFunc(l, isLong) {
			isNewScrub(t, l...)
		} else {
			refusedScrubTexts(t, l...)
		}
	}
}

// laidScrub is a scrub with memory behind each of its lists and texts, and a copy of all of it.
type laidScrub struct {
	scrub  impl.Scrub
	disk   heldDisk
	epochs held
}

func layScrub(s impl.Scrub, behind int) laidScrub {
	h := laidScrub{disk: holdDisk(s.Disk, []string{"", "behind"}[behind&1]), epochs: hold(s.Epochs, behind)}
	h.scrub = impl.Scrub{Disk: h.disk.disk, Epochs: h.epochs.list, Cursor: s.Cursor, Mended: s.Mended}
	return h
}

func (h laidScrub) stays(t *testing.T) {
	t.Helper()
	h.disk.stays(t)
	h.epochs.stays(t)
}

// spoilScrub writes over all memory that an answer has, list by list, and looks whether the others stay.
func spoilScrub(t *testing.T, s impl.Scrub, more ...[]int) {
	t.Helper()
	was := cloneScrub(s)
	spoilRows(t, append([][]int{s.Epochs}, more...))
	if !sameDisk(s.Disk, was.Disk) {
		t.Fatal("lists of an answer share memory", was)
	}
	spoilDisk(t, s.Disk)
}

// checkScrubMemory asks for the same answer of a scrub with anything behind its lists, all of it new.
func checkScrubMemory(t *testing.T, s impl.Scrub, given []heldText, ask func(s impl.Scrub) (impl.Scrub, []int, bool)) {
	t.Helper()
	want, wantTold, wantOk := ask(cloneScrub(s))
	for _, behind := range []int{0, 1, -9} {
		h := layScrub(s, behind)
		got, told, ok := ask(h.scrub)
		later, _, _ := ask(h.scrub)
		h.stays(t)
		if !sameScrub(got, want) || !slices.Equal(told, wantTold) || ok != wantOk {
			t.Fatalf("reads behind %#v: %#v %v %v, want %#v", s, got, told, ok, want)
		}
		areNew(t, slices.Concat(got.Disk.Plate, got.Disk.Held), append(h.disk.texts(), given...)...)
		areNew(t, slices.Concat(got.Disk.Plate, got.Disk.Held, later.Disk.Plate, later.Disk.Held))
		spoilScrub(t, got, told)
		h.stays(t)
		again, told, ok := ask(h.scrub)
		if !sameScrub(later, want) || !sameScrub(again, want) || !slices.Equal(told, wantTold) || ok != wantOk {
			t.Fatalf("a later answer is another one %#v: %#v %#v", s, later, again)
		}
	}
}

func TestPromise19ScrubMemory(t *testing.T) {
	for _, s := range fewScrubs() {
		checkScrubMemory(t, s, nil, impl.ScrubAll)
		checkScrubMemory(t, s, nil, func(s impl.Scrub) (impl.Scrub, []int, bool) {
			next, n, ok := impl.ScrubNext(s)
			return next, []int{n}, ok
		})
	}
}

func TestPromise19RotInMemory(t *testing.T) {
	for _, s := range fewScrubs() {
		for _, at := range []int{-1, 0, 4, 7} {
			for _, mask := range []string{"", "\x01", "\x00", "abcd", "abcde"} {
				text := holdText(mask, "behind it")
				checkScrubMemory(t, s, []heldText{text}, func(s impl.Scrub) (impl.Scrub, []int, bool) {
					next, ok := impl.RotIn(s, at, text.text)
					return next, nil, ok
				})
				text.stays(t)
			}
		}
	}
}

func TestPromise19RewriteMemory(t *testing.T) {
	for _, s := range fewScrubs() {
		for _, k := range []int{-1, 0, 1, 3} {
			for _, long := range []int{0, 1, 47, 48} {
				text := holdText(textOf(long, k), "behind it")
				checkScrubMemory(t, s, []heldText{text}, func(s impl.Scrub) (impl.Scrub, []int, bool) {
					next, ok := impl.RewriteAt(s, k, text.text)
					return next, nil, ok
				})
				text.stays(t)
			}
		}
	}
}

func TestPromise19TextAtMemory(t *testing.T) {
	for _, s := range anyScrubs() {
		isGood := isSlowScrub(s)
		for _, behind := range []int{0, 1, -9} {
			h := layScrub(s, behind)
			if impl.GoodScrub(h.scrub) != isGood {
				t.Fatalf("GoodScrub reads behind %#v", s)
			}
			damaged, ok := impl.DamageOf(h.scrub)
			later, _ := impl.DamageOf(h.scrub)
			if ok != isGood || !slices.Equal(damaged, later) {
				t.Fatalf("DamageOf reads behind %#v: %v %v", s, damaged, ok)
			}
			spoil(damaged)
			want, _ := slowDamage(s)
			if !slices.Equal(later, want) {
				t.Fatalf("two answers share memory %#v: %v, want %v", s, later, want)
			}
			for k := range 4 {
				want, wantOk := slowTextAt(s, k)
				text, ok := impl.TextAt(h.scrub, k)
				again, _ := impl.TextAt(h.scrub, k)
				if text != want || ok != wantOk || again != want {
					t.Fatalf("TextAt reads behind %#v %d: %q %v", s, k, text, ok)
				}
				areNew(t, []string{text, again}, h.disk.texts()...)
			}
			h.stays(t)
		}
	}
}

func TestPromise19NewScrubMemory(t *testing.T) {
	for n := range 6 {
		for _, long := range []int{0, 1, 2, 47, 48} {
			l := []string{}
			for k := range n {
				l = append(l, textOf(min(long, 47+k), k))
			}
			want, wantOk := impl.NewScrub(slices.Clone(l))
			h := holdTexts(l, "behind", textOf(99, 1))
			for range 2 {
				s, ok := impl.NewScrub(h.list)
				later, _ := impl.NewScrub(h.list)
				h.stay(t)
				if !sameScrub(s, want) || ok != wantOk {
					t.Fatalf("reads behind, or is another one later %q: %#v %v", l, s, ok)
				}
				areNew(t, slices.Concat(s.Disk.Plate, later.Disk.Plate), h.texts...)
				spoilScrub(t, s)
				h.stay(t)
				if !sameScrub(later, want) {
					t.Fatalf("two answers share memory %q: %#v", l, later)
				}
			}
		}
	}
}

// What lies behind a list would make it a good one, or spoil it.
func TestPromise19WhatLiesBehindScrubs(t *testing.T) {
	whole := scrubWith(1, 2, 3, 4)
	for n := range 4 {
		short, cut := cloneScrub(whole), cloneScrub(whole)
		short.Epochs = short.Epochs[:n]
		refusedScrub(t, short)
		cut.Disk = impl.Disk{Plate: cut.Disk.Plate[:5*n], Held: cut.Disk.Held[:5*n], Bad: cut.Disk.Bad[:5*n]}
		refusedScrub(t, cut)
		if cut.Epochs = cut.Epochs[:n]; n > 0 {
			isRound(t, cut, cut, make([]int, n), true)
		}
		if texts := []string{"a", "b", "c", "d", textOf(48, 1)}; n > 0 {
			isNewScrub(t, texts[:n]...)
		}
	}
}

// Lists of a scrub may be one, and texts may share memory: what is answered is what it is for copies.
func TestPromise19SharedScrubs(t *testing.T) {
	for set := range 32 {
		apart := rotten(t, scrubWith(4, 4), 1, bitsOf(set))
		whole := strings.Join(apart.Disk.Plate, "")
		shared := cloneScrub(apart)
		for at := range shared.Disk.Plate {
			shared.Disk.Plate[at] = whole[28*at : 28*at+28]
		}
		for _, k := range bitsOf(set) {
			apart.Disk.Held[k], shared.Disk.Held[k] = whole[:k+1], whole[:k+1]
		}
		memory := []heldText{{bytes: bytesOf(whole)}}
		checkScrub(t, shared)
		checkScrubMemory(t, shared, memory, impl.ScrubAll)
		for _, s := range []impl.Scrub{shared, apart} {
			next, _, _ := impl.ScrubNext(s)
			round, _, _ := impl.ScrubAll(s)
			rewritten, _ := impl.RewriteAt(s, 1, whole[:47])
			rotted, _ := impl.RotIn(s, 9, whole[:4])
			for _, got := range []impl.Scrub{next, round, rewritten, rotted} {
				areNew(t, slices.Concat(got.Disk.Plate, got.Disk.Held), memory...)
				spoilScrub(t, got)
			}
		}
		if !sameScrub(shared, apart) {
			t.Fatalf("written into %#v", shared)
		}
	}
	// The Plate and what is Held are one list.
	texts := scrubWith(9).Disk.Plate
	texts[1], texts[4] = "", "x"
	one := impl.Scrub{Disk: impl.Disk{Plate: texts, Held: texts, Bad: make([]bool, 5)}, Epochs: []int{9}}
	apart := cloneScrub(one)
	checkScrub(t, one)
	checkRewrite(t, one, 0, "new")
	for at := range 5 {
		checkRotIn(t, one, at, "a")
	}
	if !sameScrub(one, apart) {
		t.Fatalf("written into %#v", one)
	}
}

// The texts of a new scrub may be one, and lie in each other.
func TestPromise19NewScrubOfOneText(t *testing.T) {
	whole := textOf(47, 5)
	texts := []string{whole, whole, whole[3:], whole[:40]}
	s, ok := impl.NewScrub(texts)
	if !ok || !sameScrub(s, scrubOf(texts...)) {
		t.Fatalf("%#v %v", s, ok)
	}
	areNew(t, s.Disk.Plate, heldText{bytes: bytesOf(whole)})
	spoilScrub(t, s)
	if whole != textOf(47, 5) || texts[1] != whole {
		t.Error("written into", texts)
	}
}
