package tests

import (
	"math"
	"slices"
	"strings"
	"testing"

	"loop.example/g00405/impl"
)

// rewritten has a stripe's sectors put anew on the Plate, with the Epoch one more; what was Held there is lost.
func rewritten(s impl.Scrub, k int, text string) impl.Scrub {
	s = cloneScrub(s)
	s.Epochs[k]++
	copy(s.Disk.Plate[5*k:], stripeSectors(5*k, s.Epochs[k], slowBlock(text)))
	clear(s.Disk.Held[5*k : 5*k+5])
	return s
}

func TestPromise16TextsRewritten(t *testing.T) {
	for n := range 48 {
		for _, text := range textsOf(n) {
			s := scrubWith(1, 59999, 0)
			s.Cursor, s.Mended = 2, 77
			for k := range 3 {
				want := rewritten(s, k, text)
				isRewritten(t, s, k, text, want, true)
				s = want
				for other := range 3 {
					if other <= k {
						isTextAt(t, s, other, text, true)
					} else {
						isTextAt(t, s, other, ownText(other), true)
					}
				}
			}
		}
	}
	for _, text := range notStripeTexts() {
		for k := range 4 {
			isRewritten(t, scrubWith(1, 2, 3, 4), k, text, impl.Scrub{}, false)
		}
	}
}

// The Epoch of what is written is one more; at the last one nothing is written.
func TestPromise16EpochsRewritten(t *testing.T) {
	for _, epoch := range []int{0, 1, 254, 255, 256, 59998, 59999} {
		s := scrubWith(5, epoch)
		isRewritten(t, s, 1, "new", rewritten(s, 1, "new"), true)
		isRewritten(t, s, 0, "new", rewritten(s, 0, "new"), true)
	}
	s := scrubWith(5, 60000)
	isRewritten(t, s, 1, "new", impl.Scrub{}, false)
	isRewritten(t, s, 1, ownText(1), impl.Scrub{}, false)
	isRewritten(t, s, 0, "new", rewritten(s, 0, "new"), true)
	for n := range 20 {
		s = rewritten(s, 0, textOf(n, n))
	}
	if isTextAt(t, s, 0, textOf(19, 19), true); s.Epochs[0] != 25 {
		t.Error(s.Epochs)
	}
	s = scrubWith(59998)
	for range 2 {
		next, ok := impl.RewriteAt(s, 0, "on")
		if !ok {
			t.Fatal(s.Epochs)
		}
		s = next
	}
	if s.Epochs[0] != 60000 {
		t.Error(s.Epochs)
	}
	isRewritten(t, s, 0, "on", impl.Scrub{}, false)
}

// A stripe is written though it could not be read, but not where one of its sectors is Bad.
func TestPromise16SpoiltStripesRewritten(t *testing.T) {
	for set := range 32 {
		s := rotten(t, scrubWith(1, 2, 3), 1, bitsOf(set))
		isRewritten(t, s, 1, "new", rewritten(s, 1, "new"), true)
		isRewritten(t, s, 2, "new", rewritten(s, 2, "new"), true)
		checkRound(t, rewritten(s, 1, "new"))
		for _, k := range bitsOf(set) {
			s.Disk.Bad[5+k] = true
		}
		isRewritten(t, s, 2, "new", rewritten(s, 2, "new"), true)
		if set > 0 {
			isRewritten(t, s, 1, "new", impl.Scrub{}, false)
		}
	}
}

// What is Held elsewhere is on the Plate then; what is Held in the stripe itself is lost.
func TestPromise16HeldSectorsRewritten(t *testing.T) {
	for set := range 1 << 10 {
		s := scrubWith(1, 2)
		for _, at := range bitsOf(set) {
			s.Disk.Held[at] = textOf(1+at, at)
		}
		want := rewritten(s, 1, "new")
		for _, at := range slowHeld(want.Disk) {
			want.Disk.Plate[at], want.Disk.Held[at] = want.Disk.Held[at], ""
		}
		isRewritten(t, s, 1, "new", want, true)
	}
}

// isRefusedRewrite asks too that what was handed in stays as it was.
func isRefusedRewrite(t *testing.T, s impl.Scrub, k int, text string) {
	t.Helper()
	was := cloneScrub(s)
	isRewritten(t, s, k, text, impl.Scrub{}, false)
	if !sameScrub(s, was) {
		t.Fatalf("written into %#v, was %#v", s, was)
	}
}

func TestPromise16RefusedRewritings(t *testing.T) {
	s := scrubWith(1, 60000, 3)
	s.Disk.Held[0], s.Disk.Bad[14] = "held", true
	isRefusedRewrite(t, s, 0, textOf(48, 1))
	isRefusedRewrite(t, s, 1, "a")
	isRefusedRewrite(t, s, 2, "a")
	isRefusedRewrite(t, s, 3, "a")
	isRefusedRewrite(t, s, -1, "a")
}

// A rewriting and a rot behind it: the new text is read and mended; sectors that come back from before are not taken for it.
func TestPromise16RotBehindARewriting(t *testing.T) {
	for set := range 32 {
		old := scrubWith(4, 59999)
		whole, ok := impl.RewriteAt(old, 1, "new")
		if !ok {
			t.Fatalf("%#v", old)
		}
		spoilt := rotten(t, whole, 1, bitsOf(set))
		back := cloneScrub(whole)
		for _, k := range bitsOf(set) {
			back.Disk.Plate[5+k] = old.Disk.Plate[5+k]
		}
		for _, s := range []impl.Scrub{spoilt, back} {
			checkRound(t, s)
			checkScrub(t, s)
			many := len(bitsOf(set))
			if many > 2 {
				isTextAt(t, s, 1, "", false)
				isRound(t, s, s, []int{0, -1}, true)
				continue
			}
			isTextAt(t, s, 1, "new", true)
			want := cloneScrub(whole)
			want.Mended = many
			isRound(t, s, want, []int{0, many}, true)
		}
	}
}

func TestPromise16MasksThatRot(t *testing.T) {
	for n := 1; n <= 4; n++ {
		whole := scrubWith([]int{1, 2, 3, 4}[:n]...)
		whole.Cursor, whole.Mended = n-1, 10000
		for at := range 5 * n {
			for long := range 7 {
				for _, mask := range textsOf(long) {
					want := cloneScrub(whole)
					if long < 1 || long > 4 {
						isRotIn(t, whole, at, mask, impl.Scrub{}, false)
						continue
					}
					want.Disk.Plate[at] = slowRot(want.Disk.Plate[at], mask)
					isRotIn(t, whole, at, mask, want, true)
				}
			}
			isRotIn(t, whole, at, textOf(28, at), impl.Scrub{}, false)
			isRotIn(t, whole, at, textOf(260, at), impl.Scrub{}, false)
		}
		for _, at := range []int{-1, -5 * n, 5 * n, 5*n + 1, 24, 256, 1 << 32, math.MinInt, math.MaxInt} {
			isRotIn(t, whole, at, "\x01", impl.Scrub{}, false)
		}
	}
}

// A sector rots where nothing is Held, and as far as there are bytes; a Bad one rots as well.
func TestPromise16SectorsThatRot(t *testing.T) {
	for plate := range 7 {
		for mask := range 6 {
			for _, held := range []string{"", "a", textOf(28, 1)} {
				s := scrubWith(1, 2)
				s.Disk.Plate[7], s.Disk.Held[7], s.Disk.Held[3] = textOf(plate, 1), held, "elsewhere"
				with := textOf(mask, 2)
				want := impl.Scrub{}
				is := held == "" && mask >= 1 && mask <= min(plate, 4)
				if is {
					want = cloneScrub(s)
					want.Disk.Plate[7] = slowRot(s.Disk.Plate[7], with)
				}
				isRotIn(t, s, 7, with, want, is)
				s.Disk.Held[7], s.Disk.Bad[7] = "", true
				checkRotIn(t, s, 7, with)
				if _, ok := impl.RotIn(s, 7, with); ok != (mask >= 1 && mask <= min(plate, 4)) {
					t.Errorf("%d %d: %v", plate, mask, ok)
				}
			}
		}
	}
}

// Each set of stripes is damaged, by three sectors that are gone in some way.
func TestPromise16Damage(t *testing.T) {
	for n := 1; n <= 4; n++ {
		for set := range 1 << n {
			for i, lose := range losses() {
				s := scrubWith(slices.Repeat([]int{7}, n)...)
				s.Cursor = i % n
				for k := range n {
					places := placeSets(5, 2)[(i+k)%10]
					if set>>k&1 == 1 {
						places = placeSets(5, 3)[(i+k)%10]
					}
					for _, place := range places {
						lose(s.Disk, 5*k+place)
					}
				}
				isDamage(t, s, bitsOf(set), true)
				for k := range n {
					if set>>k&1 == 1 {
						isTextAt(t, s, k, "", false)
					} else {
						isTextAt(t, s, k, ownText(k), true)
					}
				}
			}
		}
	}
}

// scrubLedger follows what is done by texts and by the sectors that rotted, and looks at no disk.
type scrubLedger struct {
	texts  []string
	epochs []int
	hurt   [][]int
	cursor int
	mended int
}

func newScrubLedger(texts ...string) *scrubLedger {
	n := len(texts)
	return &scrubLedger{texts: slices.Clone(texts), epochs: slices.Repeat([]int{1}, n), hurt: make([][]int, n)}
}

func (l *scrubLedger) rot(at int) {
	if k, place := at/5, at%5; !slices.Contains(l.hurt[k], place) {
		l.hurt[k] = append(l.hurt[k], place)
	}
}

func (l *scrubLedger) rewrite(k int, text string) {
	l.texts[k], l.hurt[k] = text, nil
	l.epochs[k]++
}

func (l *scrubLedger) next() int {
	k := l.cursor
	l.cursor = (k + 1) % len(l.texts)
	many := len(l.hurt[k])
	if many > 2 {
		return -1
	}
	l.mended += many
	l.hurt[k] = nil
	return many
}

func (l *scrubLedger) holds(t *testing.T, s impl.Scrub) {
	t.Helper()
	damaged := []int{}
	for k, text := range l.texts {
		places := slices.Sorted(slices.Values(l.hurt[k]))
		if len(places) > 2 {
			damaged = append(damaged, k)
			isTextAt(t, s, k, "", false)
			continue
		}
		isTextAt(t, s, k, text, true)
		isHealth(t, s.Disk, 5*k, l.epochs[k], impl.Health{Lost: places, Whole: len(places) == 0}, true)
	}
	isDamage(t, s, damaged, true)
	if !impl.GoodScrub(s) || s.Cursor != l.cursor || s.Mended != l.mended || !slices.Equal(s.Epochs, l.epochs) || len(slowHeld(s.Disk)) > 0 {
		t.Fatalf("%#v, want %+v", s, l)
	}
}

// doScrub does one of some things to a scrub, and to its ledger.
func doScrub(t *testing.T, s impl.Scrub, l *scrubLedger, which []int) impl.Scrub {
	t.Helper()
	n := len(l.texts)
	next, ok := s, true
	switch which[0] % 12 {
	case 0, 1, 2, 3, 4, 5, 6:
		at := which[1] % (5 * n)
		mask := strings.Repeat("\x00", which[0]%3) + string([]byte{byte(which[2] | 1)})
		if slices.Contains(l.hurt[at/5], at%5) {
			mask = "\x00" // so that it does not rot back
		}
		l.rot(at)
		next, ok = impl.RotIn(s, at, mask)
	case 7, 8:
		text := textOf(which[1]%48, which[2])
		l.rewrite(which[3]%n, text)
		next, ok = impl.RewriteAt(s, which[3]%n, text)
	case 9, 10:
		told, want := 0, l.next()
		if next, told, ok = impl.ScrubNext(s); told != want {
			t.Fatalf("ScrubNext %#v: %d, want %d", s, told, want)
		}
	case 11:
		told, want := []int{}, []int{}
		for range n {
			want = append(want, l.next())
		}
		if next, told, ok = impl.ScrubAll(s); !slices.Equal(told, want) {
			t.Fatalf("ScrubAll %#v: %v, want %v", s, told, want)
		}
	}
	if !ok {
		t.Fatalf("%#v %v: not done", s, which)
	}
	l.holds(t, next)
	return next
}

func TestPromise16ManyScrubs(t *testing.T) {
	mended, damaged := 0, 0
	for seed := range 120 {
		n := 1 + seed%4
		texts := []string{"a", textOf(47, seed), "", textOf(seed%48, 1)}[:n]
		s, ok := impl.NewScrub(texts)
		l := newScrubLedger(texts...)
		if !ok {
			t.Fatal(texts)
		}
		l.holds(t, s)
		for k := range 50 {
			s = doScrub(t, s, l, elementsIn(textOf(4, seed*1000+k)))
			many, _ := impl.DamageOf(s)
			damaged += len(many)
		}
		checkScrub(t, s)
		checkRound(t, s)
		mended += s.Mended
	}
	if mended < 500 || damaged < 500 {
		t.Error("too few", mended, damaged)
	}
}
