package tests

import (
	"math"
	"slices"
	"strings"
	"testing"

	"loop.example/g00405/impl"
)

func cloneScrub(s impl.Scrub) impl.Scrub {
	return impl.Scrub{Disk: cloneDisk(s.Disk), Epochs: slices.Clone(s.Epochs), Cursor: s.Cursor, Mended: s.Mended}
}

func sameScrub(a impl.Scrub, b impl.Scrub) bool {
	return sameDisk(a.Disk, b.Disk) && slices.Equal(a.Epochs, b.Epochs) && a.Cursor == b.Cursor && a.Mended == b.Mended
}

func isNoScrub(s impl.Scrub) bool {
	return isNoDisk(s.Disk) && len(s.Epochs) == 0 && s.Cursor == 0 && s.Mended == 0
}

// scrubOf has the stripes' sectors put on the Plate by their bytes.
func scrubOf(texts ...string) impl.Scrub {
	s := impl.Scrub{Disk: emptyDisk(5 * len(texts)), Epochs: slices.Repeat([]int{1}, len(texts))}
	for k, text := range texts {
		copy(s.Disk.Plate[5*k:], stripeSectors(5*k, 1, slowBlock(text)))
	}
	return s
}

// scrubWith has the Epochs that are told, and texts of its own.
func scrubWith(epochs ...int) impl.Scrub {
	s := impl.Scrub{Disk: emptyDisk(5 * len(epochs)), Epochs: epochs}
	for k, epoch := range epochs {
		copy(s.Disk.Plate[5*k:], stripeSectors(5*k, epoch, slowBlock(ownText(k))))
	}
	return s
}

func ownText(k int) string {
	return []string{"first", "", "third \x00\xff\x00", textOf(47, 9)}[k]
}

func isSlowScrub(s impl.Scrub) bool {
	n := len(s.Epochs)
	for _, epoch := range s.Epochs {
		if epoch < 0 || epoch > 60000 {
			return false
		}
	}
	return n > 0 && n < 5 && isSlowGood(s.Disk) && len(s.Disk.Bad) == 5*n && s.Cursor > -1 && s.Cursor < n && s.Mended > -1 && s.Mended < 10001
}

func hasSlowStripe(s impl.Scrub, k int) bool {
	return isSlowScrub(s) && slices.Contains([]int{0, 1, 2, 3}[:len(s.Epochs)], k)
}

func slowTextAt(s impl.Scrub, k int) (string, bool) {
	if !hasSlowStripe(s, k) {
		return "", false
	}
	text, _, ok := slowRead(s.Disk, 5*k, s.Epochs[k])
	return text, ok
}

func slowDamage(s impl.Scrub) ([]int, bool) {
	l := []int{}
	for k := range s.Epochs {
		if _, ok := slowTextAt(s, k); !ok {
			l = append(l, k)
		}
	}
	if !isSlowScrub(s) {
		return nil, false
	}
	return l, true
}

func slowScrubNext(s impl.Scrub) (impl.Scrub, int, bool) {
	if !isSlowScrub(s) {
		return impl.Scrub{}, 0, false
	}
	next, told := cloneScrub(s), -1
	if d, n, ok := slowMend(s.Disk, 5*s.Cursor, s.Epochs[s.Cursor]); ok {
		next.Disk, _ = slowStep(d, sync())
		next.Mended, told = min(10000, s.Mended+n), n
	}
	if next.Cursor++; next.Cursor == len(s.Epochs) {
		next.Cursor = 0
	}
	return next, told, true
}

func slowScrubAll(s impl.Scrub) (impl.Scrub, []int, bool) {
	if !isSlowScrub(s) {
		return impl.Scrub{}, nil, false
	}
	l := make([]int, len(s.Epochs))
	for k := range l {
		s, l[k], _ = slowScrubNext(s)
	}
	return s, l, true
}

func slowRotIn(s impl.Scrub, at int, mask string) (impl.Scrub, bool) {
	if !isSlowScrub(s) || !slices.Contains([]int{1, 2, 3, 4}, len(mask)) {
		return impl.Scrub{}, false
	}
	d, ok := slowStep(s.Disk, rot(at, mask))
	if !ok {
		return impl.Scrub{}, false
	}
	s = cloneScrub(s)
	s.Disk = d
	return s, true
}

func slowRewrite(s impl.Scrub, k int, text string) (impl.Scrub, bool) {
	if !hasSlowStripe(s, k) {
		return impl.Scrub{}, false
	}
	s = cloneScrub(s)
	s.Epochs[k]++
	d, ok := slowWriteStripe(s.Disk, 5*k, s.Epochs[k], text)
	if !ok {
		return impl.Scrub{}, false
	}
	s.Disk, _ = slowStep(d, sync())
	return s, true
}

func isTextAt(t *testing.T, s impl.Scrub, k int, want string, wantOk bool) {
	t.Helper()
	if text, ok := impl.TextAt(s, k); text != want || ok != wantOk {
		t.Fatalf("TextAt %#v %d: %q %v, want %q %v", s, k, text, ok, want, wantOk)
	}
}

func isDamage(t *testing.T, s impl.Scrub, want []int, wantOk bool) {
	t.Helper()
	if l, ok := impl.DamageOf(s); !slices.Equal(l, want) || ok != wantOk {
		t.Fatalf("DamageOf %#v: %v %v, want %v %v", s, l, ok, want, wantOk)
	}
}

func isNext(t *testing.T, s impl.Scrub, want impl.Scrub, told int, wantOk bool) {
	t.Helper()
	if got, n, ok := impl.ScrubNext(s); !sameScrub(got, want) || n != told || ok != wantOk {
		t.Fatalf("ScrubNext %#v: %#v %d %v, want %#v %d %v", s, got, n, ok, want, told, wantOk)
	}
}

func isRound(t *testing.T, s impl.Scrub, want impl.Scrub, told []int, wantOk bool) {
	t.Helper()
	if got, l, ok := impl.ScrubAll(s); !sameScrub(got, want) || !slices.Equal(l, told) || ok != wantOk {
		t.Fatalf("ScrubAll %#v: %#v %v %v, want %#v %v %v", s, got, l, ok, want, told, wantOk)
	}
}

func isRotIn(t *testing.T, s impl.Scrub, at int, mask string, want impl.Scrub, wantOk bool) {
	t.Helper()
	if got, ok := impl.RotIn(s, at, mask); !sameScrub(got, want) || ok != wantOk {
		t.Fatalf("RotIn %#v %d %q: %#v %v, want %#v %v", s, at, mask, got, ok, want, wantOk)
	}
}

func isRewritten(t *testing.T, s impl.Scrub, k int, text string, want impl.Scrub, wantOk bool) {
	t.Helper()
	if got, ok := impl.RewriteAt(s, k, text); !sameScrub(got, want) || ok != wantOk {
		t.Fatalf("RewriteAt %#v %d %q: %#v %v, want %#v %v", s, k, text, got, ok, want, wantOk)
	}
}

// checkScrub holds all that is told of a scrub against what its bytes tell.
func checkScrub(t *testing.T, s impl.Scrub) {
	t.Helper()
	if impl.GoodScrub(s) != isSlowScrub(s) {
		t.Fatalf("GoodScrub %#v", s)
	}
	for k := -1; k <= 4; k++ {
		text, ok := slowTextAt(s, k)
		isTextAt(t, s, k, text, ok)
	}
	l, ok := slowDamage(s)
	isDamage(t, s, l, ok)
	next, n, ok := slowScrubNext(s)
	isNext(t, s, next, n, ok)
	round, told, ok := slowScrubAll(s)
	isRound(t, s, round, told, ok)
}

func checkRotIn(t *testing.T, s impl.Scrub, at int, mask string) {
	t.Helper()
	want, ok := slowRotIn(s, at, mask)
	isRotIn(t, s, at, mask, want, ok)
}

func checkRewrite(t *testing.T, s impl.Scrub, k int, text string) {
	t.Helper()
	want, ok := slowRewrite(s, k, text)
	isRewritten(t, s, k, text, want, ok)
}

// refusedScrub asks for the zero answer of all that is told of a scrub.
func refusedScrub(t *testing.T, s impl.Scrub) {
	t.Helper()
	if impl.GoodScrub(s) {
		t.Fatalf("good %#v", s)
	}
	for k := -1; k <= 4; k++ {
		isTextAt(t, s, k, "", false)
		isRewritten(t, s, k, "a", impl.Scrub{}, false)
		isRotIn(t, s, k, "a", impl.Scrub{}, false)
	}
	isDamage(t, s, nil, false)
	isNext(t, s, impl.Scrub{}, 0, false)
	isRound(t, s, impl.Scrub{}, nil, false)
}

func isNewScrub(t *testing.T, texts ...string) {
	t.Helper()
	want := scrubOf(texts...)
	s, ok := impl.NewScrub(texts)
	if !sameScrub(s, want) || !ok || !impl.GoodScrub(s) {
		t.Fatalf("NewScrub %q: %#v %v, want %#v", texts, s, ok, want)
	}
	for k, text := range texts {
		isTextAt(t, s, k, text, true)
		isHealth(t, s.Disk, 5*k, 1, impl.Health{Whole: true}, true)
	}
	isDamage(t, s, nil, true)
}

func refusedScrubTexts(t *testing.T, texts ...string) {
	t.Helper()
	if s, ok := impl.NewScrub(texts); !isNoScrub(s) || ok {
		t.Errorf("NewScrub %q: %#v %v", texts, s, ok)
	}
}

func TestPromise16Constants(t *testing.T) {
	if impl.MaxStripes != 4 {
		t.Error(impl.MaxStripes)
	}
}

func TestPromise16NewScrubs(t *testing.T) {
	for n := range 48 {
		for _, text := range textsOf(n) {
			isNewScrub(t, text)
			isNewScrub(t, "a", text)
		}
		isNewScrub(t, textOf(n, 1), textOf(47-n, 2), textOf(n, 3))
		isNewScrub(t, textOf(n, 1), "", textOf(47, n), textOf(n, 1))
	}
	for n := 1; n <= 4; n++ {
		isNewScrub(t, make([]string, n)...)
		isNewScrub(t, slices.Repeat([]string{"same"}, n)...)
	}
}

// A scrub by its bytes: Kind 2, the place, the Epoch 1, 16 bytes of Body.
func TestPromise16KnownScrub(t *testing.T) {
	s, ok := impl.NewScrub([]string{"", "ab"})
	if !ok || len(s.Disk.Plate) != 10 || !slices.Equal(s.Epochs, []int{1, 1}) || s.Cursor != 0 || s.Mended != 0 {
		t.Fatalf("%#v %v", s, ok)
	}
	nought := strings.Repeat("\x00", 16)
	for at, sector := range s.Disk.Plate {
		want := nought
		if at == 5 {
			want = "\x02ab" + nought[3:]
		}
		if sector[:6] != "\x02\x00"+string([]byte{byte(at)})+"\x00\x01\x10" || at < 8 && sector[6:22] != want {
			t.Errorf("%d: %q", at, sector)
		}
	}
	if slices.Contains(s.Disk.Bad, true) || len(slowHeld(s.Disk)) > 0 {
		t.Errorf("%#v", s.Disk)
	}
}

func TestPromise16HowManyTexts(t *testing.T) {
	refusedScrubTexts(t)
	for _, n := range []int{5, 6, 8, 24, 100, 1 << 16} {
		refusedScrubTexts(t, make([]string, n)...)
		refusedScrubTexts(t, slices.Repeat([]string{"a"}, n)...)
	}
	for _, long := range notStripeTexts() {
		for n := 1; n <= 4; n++ {
			for k := range n {
				texts := slices.Repeat([]string{"a"}, n)
				texts[k] = long
				refusedScrubTexts(t, texts...)
			}
		}
	}
}

// spoiltScrubs have each one thing that makes them no good ones.
func spoiltScrubs(good impl.Scrub) []impl.Scrub {
	l := []impl.Scrub{}
	spoil := func(spoil func(s *impl.Scrub)) {
		s := cloneScrub(good)
		spoil(&s)
		l = append(l, s)
	}
	n := len(good.Epochs)
	for _, cursor := range []int{-1, -n, n, n + 1, 4, 5, 1 << 32, math.MinInt, math.MaxInt} {
		spoil(func(s *impl.Scrub) { s.Cursor = cursor })
	}
	for _, mended := range []int{-1, -10000, 10001, 10002, 65536, 1 << 32, math.MinInt, math.MaxInt} {
		spoil(func(s *impl.Scrub) { s.Mended = mended })
	}
	for k := range n {
		for _, epoch := range notEpochs() {
			spoil(func(s *impl.Scrub) { s.Epochs[k] = epoch })
		}
	}
	for m := range 7 {
		if m != n {
			spoil(func(s *impl.Scrub) { s.Epochs = slices.Repeat([]int{1}, m) })
		}
	}
	for m := range 26 {
		if m != 5*n {
			spoil(func(s *impl.Scrub) { s.Disk = emptyDisk(m) })
		}
	}
	for at := range 5 * n {
		spoil(func(s *impl.Scrub) { s.Disk.Plate[at] = textOf(29, at) })
		spoil(func(s *impl.Scrub) { s.Disk.Held[at] = textOf(29, at) })
		spoil(func(s *impl.Scrub) { s.Disk.Held[at], s.Disk.Bad[at] = "x", true })
	}
	spoil(func(s *impl.Scrub) { s.Disk.Held = s.Disk.Held[1:] })
	spoil(func(s *impl.Scrub) { s.Disk.Bad = s.Disk.Bad[1:] })
	spoil(func(s *impl.Scrub) { s.Disk.Held = append(s.Disk.Held, "") })
	spoil(func(s *impl.Scrub) { s.Disk.Bad = append(s.Disk.Bad, false) })
	return l
}

func notScrubs() []impl.Scrub {
	l := []impl.Scrub{{}, {Epochs: []int{1}}, {Disk: emptyDisk(5)}, {Disk: emptyDisk(24), Epochs: make([]int, 4)}, {Disk: emptyDisk(24), Epochs: make([]int, 5)}, {Disk: emptyDisk(25), Epochs: make([]int, 5)}}
	for _, s := range []impl.Scrub{scrubWith(1), scrubWith(0, 60000), scrubWith(7, 256, 1), scrubWith(1, 2, 3, 4)} {
		l = append(l, spoiltScrubs(s)...)
	}
	for _, d := range notDisks() {
		l = append(l, impl.Scrub{Disk: d, Epochs: []int{1}}, impl.Scrub{Disk: d, Epochs: make([]int, len(d.Plate)/5)})
	}
	return l
}

func TestPromise16ScrubsThatAreNotGood(t *testing.T) {
	for _, s := range notScrubs() {
		if isSlowScrub(s) {
			t.Fatalf("good %#v", s)
		}
		refusedScrub(t, s)
	}
}

// edgeScrubs meet each limit just so.
func edgeScrubs() []impl.Scrub {
	l := []impl.Scrub{}
	for n := 1; n <= 4; n++ {
		for _, epoch := range []int{0, 1, 59999, 60000} {
			s := scrubWith(slices.Repeat([]int{epoch}, n)...)
			for cursor := range n {
				for _, mended := range []int{0, 1, 9999, 10000} {
					s.Cursor, s.Mended = cursor, mended
					l = append(l, cloneScrub(s))
				}
			}
		}
		empty := impl.Scrub{Disk: emptyDisk(5 * n), Epochs: make([]int, n)}
		bad := cloneScrub(empty)
		overwrite(bad.Disk.Bad, true)
		held := cloneScrub(empty)
		overwrite(held.Disk.Held, "held")
		l = append(l, empty, bad, held)
	}
	return l
}

func TestPromise16GoodScrubs(t *testing.T) {
	for _, s := range edgeScrubs() {
		if !impl.GoodScrub(s) || !isSlowScrub(s) {
			t.Fatalf("not good %#v", s)
		}
		checkScrub(t, s)
	}
}

func TestPromise16StripesThatAreNotThere(t *testing.T) {
	for n := 1; n <= 4; n++ {
		s := scrubWith([]int{1, 2, 3, 4}[:n]...)
		for k := range n {
			isTextAt(t, s, k, ownText(k), true)
		}
		for _, k := range []int{-1, -2, -n, n, n + 1, 4, 5, 5 * n, 256, 1 << 32, 1 << 62, math.MinInt, math.MinInt + 1, math.MaxInt} {
			isTextAt(t, s, k, "", false)
			isRewritten(t, s, k, "a", impl.Scrub{}, false)
		}
	}
}

// What is read has at least the stripe's own Epoch.
func TestPromise16EpochsOfStripes(t *testing.T) {
	for _, epoch := range []int{0, 1, 7, 255, 256, 59999, 60000} {
		for _, own := range []int{0, 1, 6, 7, 8, 255, 256, 257, 59998, 59999, 60000} {
			s := scrubWith(3, epoch)
			s.Epochs[1] = own
			if epoch < own {
				isTextAt(t, s, 1, "", false)
				isDamage(t, s, []int{1}, true)
				isRound(t, s, s, []int{0, -1}, true)
			} else {
				isTextAt(t, s, 1, ownText(1), true)
				isDamage(t, s, nil, true)
				isRound(t, s, s, []int{0, 0}, true)
			}
		}
	}
}
