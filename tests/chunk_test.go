package tests

import (
	"math"
	"slices"
	"strings"
	"testing"

	"loop.example/g00405/impl"
)

// slowFinger takes 4 bytes and divides the whole number once.
func slowFinger(window string) int {
	n := 0
	for _, b := range []byte(window) {
		n = 257*n + int(b)
	}
	return n % 8191
}

func isRight(window string) bool {
	return slowFinger(window)%8 == 7
}

func slowCuts(s string) []int {
	cuts := []int{}
	for from := 0; from < len(s); {
		at := from + 4
		for at < len(s) && at < from+20 && !isRight(s[at-4:at]) {
			at++
		}
		from = min(at, len(s))
		cuts = append(cuts, from)
	}
	return cuts
}

func slowChunks(s string) []string {
	l := []string{}
	from := 0
	for _, at := range slowCuts(s) {
		l = append(l, s[from:at])
		from = at
	}
	return l
}

// rightByte is the n-th one of which four are a window that tells a cut.
func rightByte(n int) string {
	for b := range 256 {
		s := string([]byte{byte(b)})
		if isRight(strings.Repeat(s, 4)) {
			if n == 0 {
				return s
			}
			n--
		}
	}
	panic("there is no such byte")
}

// rightWindows are unlike, and each of them tells a cut.
func rightWindows(n int) []string {
	l := []string{}
	for seed := 0; len(l) < n; seed++ {
		w := textOf(4, seed)
		if isRight(w) && !slices.Contains(l, w) {
			l = append(l, w)
		}
	}
	return l
}

// quiet has so many bytes, at most 20, behind which, and behind no part of which, a finger tells a cut.
func quiet(n int) string {
	s := strings.Repeat("\x00", n)
	for at := 4; at <= n; at++ {
		if isRight(s[at-4 : at]) {
			panic("noughts tell a cut")
		}
	}
	return s
}

// plainTexts have bytes below 128 alone.
func plainTexts() []string {
	s := strings.Repeat("The quick brown fox jumps over the lazy dog; so it goes on. ", 5)
	l := []string{s, s[:299], s[:45], "a\x00b\x7fc\n\t", strings.Repeat("\x7f", 50)}
	for seed := range 20 {
		text := []byte(textOf(300, seed))
		for k := range text {
			text[k] %= 128
		}
		l = append(l, string(text), string(text[:seed]))
	}
	return l
}

// otherTexts have runes of several bytes, and bytes that are no rune.
func otherTexts() []string {
	l := []string{
		"\x80", "\xff", "\xc3", "\xe2\x82", "\xef\xbf\xbd", strings.Repeat("\xef\xbf\xbd", 100), strings.Repeat("\xc3\xa4", 150), strings.Repeat("\xe2\x82\xac", 100), strings.Repeat("\xf0\x9f\x98\x80", 75),
		strings.Repeat("a\x80", 100), strings.Repeat("\xed\xa0\x80", 90), strings.Repeat("\xc0\x80", 90), strings.Repeat("\xff", 300), strings.Repeat("\x80", 300), strings.Repeat("\x7f\x80\x81", 99),
	}
	for k, s := range plainTexts() {
		if len(s) < 300 {
			l = append(l, s+"\x80", "\xff"+s)
		} else {
			l = append(l, s[:k]+"\xc3"+s[k+1:], s[:299]+"\xe2", s[:100]+"\xc3\xa4"+s[102:])
		}
	}
	return l
}

// rightTexts have right fingers in many places, also in neighbouring ones.
func rightTexts() []string {
	l := []string{strings.Repeat(rightByte(0), 300), strings.Repeat(rightByte(1), 299), strings.Join(rightWindows(75), "")}
	for n := range 30 {
		l = append(l, quiet(n%21)+strings.Repeat(rightByte(n), n), strings.Repeat(rightByte(n), n)+quiet(20)+rightWindows(1)[0])
		if n > 0 {
			l = append(l, strings.Repeat(rightByte(0), n)+strings.Repeat(rightWindows(n)[n-1], n))
		}
	}
	return l
}

func cutTexts() []string {
	l := slices.Concat(plainTexts(), otherTexts(), rightTexts())
	for n := range 301 {
		l = append(l, textsOf(n)...)
	}
	return l
}

func tooLongTexts() []string {
	l := []string{strings.Repeat(plainTexts()[0], 10), strings.Repeat("\xc3\xa4", 151)}
	for _, n := range []int{301, 302, 320, 400, 600, 5000, 100000} {
		l = append(l, textsOf(n)...)
	}
	return l
}

func TestPromise9Constants(t *testing.T) {
	if impl.WindowSize != 4 || impl.LeastChunk != 4 || impl.MostChunk != 20 || impl.CutMod != 8 || impl.RollMod != 8191 || impl.RollBase != 257 {
		t.Error(impl.WindowSize, impl.LeastChunk, impl.MostChunk, impl.CutMod, impl.RollMod, impl.RollBase)
	}
}

func isFinger(t *testing.T, window string, want int) {
	t.Helper()
	if f, ok := impl.FingerOf(window); f != want || !ok {
		t.Errorf("FingerOf %q: %d %v, want %d", window, f, ok, want)
	}
}

func TestPromise9KnownFingers(t *testing.T) {
	for window, want := range map[string]int{
		"\x00\x00\x00\x00": 0, "\x00\x00\x00\x01": 1, "\x00\x00\x01\x00": 257, "\x00\x01\x00\x00": 521, "\x01\x00\x00\x00": 2841,
		"\x00\x00\x00\xff": 255, "\x00\x00\xff\xff": 262, "\xff\xff\xff\xff": 5708, "\x01\x02\x03\x04": 4658,
	} {
		isFinger(t, window, want)
	}
}

func TestPromise9FingersOfWindows(t *testing.T) {
	for a := range 256 {
		for b := range 256 {
			isFinger(t, string([]byte{0, 0, byte(a), byte(b)}), slowFinger(string([]byte{0, 0, byte(a), byte(b)})))
			isFinger(t, string([]byte{byte(a), byte(b), 0, 0}), slowFinger(string([]byte{byte(a), byte(b), 0, 0})))
			isFinger(t, string([]byte{byte(b), 255, byte(a), 127}), slowFinger(string([]byte{byte(b), 255, byte(a), 127})))
		}
	}
	for seed := range 20000 {
		isFinger(t, textOf(4, seed), slowFinger(textOf(4, seed)))
	}
	for _, window := range []string{"\xe2\x82\xaca", "a\xe2\x82\xac", "\xc3\xa4\xc3\xa4", "\xf0\x9f\x98\x80", "\xc3\xc3\xc3\xc3", "abc\x80", "\xef\xbf\xbd\xef"} {
		isFinger(t, window, slowFinger(window))
	}
}

func TestPromise9WindowsThatAreNotAsLong(t *testing.T) {
	windows := append(tooLongTexts(), "\xc3\xa4\xc3\xa4\xc3\xa4\xc3\xa4", "\xe2\x82\xac\xe2\x82\xac\xe2\x82\xac\xe2\x82\xac", "\xe2\x82\xac")
	for n := range 301 {
		if n != 4 {
			windows = append(windows, textsOf(n)...)
		}
	}
	for _, window := range windows {
		f, ok := impl.FingerOf(window)
		isZero(t, "FingerOf", f, ok, len(window))
	}
}

// windowsWith has, for a first byte, a window for each finger.
func windowsWith(first int) []string {
	l := make([]string, 8191)
	for a := range 256 {
		for b := range 256 {
			window := string([]byte{byte(first), byte(a * 7), byte(a), byte(b)})
			l[slowFinger(window)] = window
		}
	}
	return l
}

func checkRoll(t *testing.T, window string, in int) {
	t.Helper()
	next := window[1:] + string([]byte{byte(in)})
	finger, ok := impl.RollOn(slowFinger(window), int(window[0]), in)
	if finger != slowFinger(next) || !ok {
		t.Fatalf("RollOn %q %d: %d %v, want %d", window, in, finger, ok, slowFinger(next))
	}
	if told, ok := impl.FingerOf(next); told != finger || !ok {
		t.Fatalf("FingerOf %q: %d %v, want %d", next, told, ok, finger)
	}
}

func TestPromise9FingersRollOn(t *testing.T) {
	for first := range 256 {
		windows := windowsWith(first)
		for _, finger := range []int{0, 1, 7, 257, 4095, 8189, 8190} {
			for in := range 256 {
				checkRoll(t, windows[finger], in)
			}
		}
	}
	for _, first := range []int{0, 1, 127, 128, 254, 255} {
		for finger, window := range windowsWith(first) {
			if window == "" {
				t.Fatal("no window", first, finger)
			}
			for _, in := range []int{0, 1, 127, 128, 255} {
				checkRoll(t, window, in)
			}
		}
	}
}

func TestPromise9FingersRollThroughTexts(t *testing.T) {
	for _, s := range slices.Concat(plainTexts(), otherTexts(), rightTexts()) {
		if len(s) < 4 {
			continue
		}
		finger, _ := impl.FingerOf(s[:4])
		for k := 4; k < len(s); k++ {
			finger, _ = impl.RollOn(finger, int(s[k-4]), int(s[k]))
			isFinger(t, s[k-3:k+1], finger)
		}
	}
}

func notBytes() []int {
	return []int{-1, -2, -255, -256, 256, 257, 511, 512, 8191, 1 << 32, 1<<32 + 1, math.MinInt, math.MinInt + 1, math.MaxInt, math.MaxInt - 1}
}

func notFingers() []int {
	return []int{-1, -2, -8190, -8191, 8191, 8192, 16382, 1 << 32, math.MinInt, math.MinInt + 1, math.MaxInt, math.MaxInt - 1}
}

func TestPromise9RollsOfWhatIsNotAsSaid(t *testing.T) {
	refused := func(finger int, out int, in int) {
		f, ok := impl.RollOn(finger, out, in)
		isZero(t, "RollOn", f, ok, finger, out, in)
	}
	for _, bad := range notFingers() {
		for _, out := range append(notBytes(), 0, 1, 255) {
			for _, in := range append(notBytes(), 0, 1, 255) {
				refused(bad, out, in)
			}
		}
	}
	for _, bad := range notBytes() {
		for _, finger := range []int{0, 1, 259, 8190} {
			for _, other := range append(notBytes(), 0, 1, 255) {
				refused(finger, bad, other)
				refused(finger, other, bad)
			}
		}
	}
}

func isCut(t *testing.T, s string, want ...int) {
	t.Helper()
	if cuts, ok := impl.CutsOf(s); !slices.Equal(cuts, want) || !ok {
		t.Errorf("CutsOf %q: %v %v, want %v", s, cuts, ok, want)
	}
	chunks, ok := impl.ChunksOf(s)
	if len(chunks) != len(want) || !ok {
		t.Fatalf("ChunksOf %q: %q %v, want %v", s, chunks, ok, want)
	}
	from := 0
	for k, at := range want {
		if chunks[k] != s[from:at] {
			t.Errorf("ChunksOf %q: %q, want %v", s, chunks, want)
		}
		from = at
	}
	if back, ok := impl.JoinChunks(chunks); back != s || !ok {
		t.Errorf("JoinChunks %q: %q %v, want %q", chunks, back, ok, s)
	}
}

func TestPromise9KnownCuts(t *testing.T) {
	isCut(t, "")
	isCut(t, "a", 1)
	isCut(t, "abc", 3)
	isCut(t, "\x00\x00\x00\x07", 4)
	isCut(t, "\x00\x00\x00\x07\x00", 4, 5)
	// The fingers behind 4, 5 and 6 are 7, 1799 and 3647: all of them are right, but the last two come too soon.
	isCut(t, "\x00\x00\x00\x07\x00\x00\x01", 4, 7)
	isCut(t, quiet(3), 3)
	isCut(t, quiet(4), 4)
	isCut(t, quiet(5), 5)
	isCut(t, quiet(20), 20)
	isCut(t, strings.Repeat("\x00", 21), 20, 21)
	isCut(t, strings.Repeat("\x00", 45), 20, 40, 45)
	isCut(t, strings.Repeat("\x00", 299), 20, 40, 60, 80, 100, 120, 140, 160, 180, 200, 220, 240, 260, 280, 299)
	isCut(t, strings.Repeat("\x00", 300), 20, 40, 60, 80, 100, 120, 140, 160, 180, 200, 220, 240, 260, 280, 300)
}

func TestPromise9CutsOfTexts(t *testing.T) {
	for _, s := range cutTexts() {
		isCut(t, s, slowCuts(s)...)
	}
}

func TestPromise9CutsOfShortTexts(t *testing.T) {
	letters := []string{"\x00", "\x07", "a", "\x7f", "\x80", "\xff", "\xc3", rightByte(0)}
	for _, n := range []int{1, 2, 3, 4, 5} {
		eachList(n, []int{0, 1, 2, 3, 4, 5, 6, 7}, func(l []int) {
			s := ""
			for _, k := range l {
				s += letters[k]
			}
			isCut(t, s, slowCuts(s)...)
		})
	}
	for seed := range 3000 {
		for _, n := range []int{5, 8, 9, 20, 21, 24} {
			s := textOf(n, seed)
			isCut(t, s, slowCuts(s)...)
		}
	}
}

// Behind a cut the next three places are too near, whatever their fingers are.
func TestPromise9CutsAreNotTooNear(t *testing.T) {
	for n := range 20 {
		right := rightByte(n)
		isCut(t, strings.Repeat(right, 8), 4, 8)
		isCut(t, strings.Repeat(right, 11), 4, 8, 11)
		isCut(t, strings.Repeat(right, 12), 4, 8, 12)
	}
	near := [4]int{}
	for seed := range 4000 {
		s := rightWindows(1)[0] + textOf(8, seed)
		for at := 5; at <= 7; at++ {
			if isRight(s[at-4:at]) && !isRight(s[4:8]) {
				near[at-4]++
				isCut(t, s, slowCuts(s)...)
				if cuts, _ := impl.CutsOf(s); cuts[0] != 4 || cuts[1] < 9 {
					t.Fatalf("%q is cut too near: %v", s, cuts)
				}
			}
		}
	}
	if near[1] == 0 || near[2] == 0 || near[3] == 0 {
		t.Error("no such texts", near)
	}
}

// endsRight has so many bytes of which the last four alone tell a cut from LeastChunk on.
func endsRight(n int) string {
	for seed := 0; ; seed++ {
		s := quiet(n-4) + textOf(4, seed)
		is := true
		for at := 4; at <= n; at++ {
			is = is && isRight(s[at-4:at]) == (at == n)
		}
		if is {
			return s
		}
	}
}

func TestPromise9ChunksOfEachLength(t *testing.T) {
	for n := 4; n <= 20; n++ {
		s := endsRight(n)
		isCut(t, s, n) // its end is a cut by its finger, too
		isCut(t, s+"a", n, n+1)
		isCut(t, s+s, n, 2*n)
		isCut(t, s+quiet(20)+s, n, n+20, 2*n+20)
	}
	// One byte later it is cut at MostChunk, and the finger is too near behind it.
	isCut(t, endsRight(21), 20, 21)
	isCut(t, endsRight(21)+quiet(1), 20, 22)
	isCut(t, endsRight(23)+quiet(1), 20, 24)
	isCut(t, endsRight(24)+quiet(1), 20, 24, 25)
}

func TestPromise9CutsOfPrefixes(t *testing.T) {
	for _, s := range slices.Concat(plainTexts()[:8], otherTexts()[:16], rightTexts()[:8]) {
		cuts := slowCuts(s)
		for n := range len(s) + 1 {
			want := []int{}
			for _, at := range cuts {
				if at < n {
					want = append(want, at)
				}
			}
			if n > 0 {
				want = append(want, n)
			}
			isCut(t, s[:n], want...)
		}
	}
}

func TestPromise9CutAsIfItBeganThere(t *testing.T) {
	for _, s := range cutTexts() {
		cuts, _ := impl.CutsOf(s)
		chunks, _ := impl.ChunksOf(s)
		for k, at := range cuts {
			rest, ok := impl.CutsOf(s[at:])
			for i := range rest {
				rest[i] += at
			}
			if !slices.Equal(rest, cuts[k+1:]) || !ok {
				t.Fatalf("CutsOf %q from %d on: %v %v, want %v", s, at, rest, ok, cuts[k+1:])
			}
			if l, ok := impl.ChunksOf(s[at:]); !slices.Equal(l, chunks[k+1:]) || !ok {
				t.Fatalf("ChunksOf %q from %d on: %q %v", s, at, l, ok)
			}
		}
	}
}

// heads end with a cut that does not hang on what follows.
func heads() []string {
	l := []string{"", quiet(20), endsRight(4), endsRight(19)}
	for _, s := range slices.Concat(plainTexts()[:6], otherTexts()[5:20], rightTexts()[:4]) {
		for _, at := range slowCuts(s) {
			if at <= 100 && at < len(s) {
				l = append(l, s[:at])
			}
		}
	}
	return l
}

func TestPromise9OneEndBehindACut(t *testing.T) {
	tails := []string{"", "a", textOf(200, 1), textOf(180, 2), plainTexts()[0][:200], strings.Repeat("\xe2\x82\xac", 60), rightTexts()[0][:200], rightTexts()[2][:199], strings.Repeat("\x00", 200)}
	for _, head := range heads() {
		for _, tail := range tails {
			chunks, ok := impl.ChunksOf(head + tail)
			if !ok || !slices.Equal(chunks, append(slowChunks(head), slowChunks(tail)...)) {
				t.Fatalf("ChunksOf %q behind %q: %q %v", tail, head, chunks, ok)
			}
		}
	}
}

func TestPromise9ChunksAreInTheirBounds(t *testing.T) {
	for _, s := range cutTexts() {
		chunks, _ := impl.ChunksOf(s)
		for k, chunk := range chunks {
			last := k == len(chunks)-1
			if len(chunk) > 20 || len(chunk) < 1 || !last && len(chunk) < 4 {
				t.Fatalf("ChunksOf %q: %q", s, chunks)
			}
			if !last && len(chunk) < 20 && !isRight(chunk[len(chunk)-4:]) {
				t.Fatalf("ChunksOf %q: %q ends too soon", s, chunk)
			}
		}
	}
}

func TestPromise9TextsThatAreTooLong(t *testing.T) {
	for _, s := range tooLongTexts() {
		if cuts, ok := impl.CutsOf(s); len(cuts) != 0 || ok {
			t.Errorf("CutsOf of %d bytes: %v %v", len(s), cuts, ok)
		}
		if chunks, ok := impl.ChunksOf(s); len(chunks) != 0 || ok {
			t.Errorf("ChunksOf of %d bytes: %q %v", len(s), chunks, ok)
		}
	}
}

// textsAdded has n texts with so many bytes all together.
func textsAdded(n int, bytes int) []string {
	l := make([]string, n)
	s := textOf(bytes, n)
	for k := range l {
		from, to := k*bytes/n, (k+1)*bytes/n
		l[k] = s[from:to]
	}
	return l
}

func joins(t *testing.T, l []string) {
	t.Helper()
	if s, ok := impl.JoinChunks(l); s != strings.Join(l, "") || !ok {
		t.Errorf("JoinChunks %q: %q %v", l, s, ok)
	}
}

func refusedJoin(t *testing.T, l []string) {
	t.Helper()
	if s, ok := impl.JoinChunks(l); s != "" || ok {
		t.Errorf("JoinChunks of %d texts: %q %v", len(l), s, ok)
	}
}

func TestPromise9JoinedTexts(t *testing.T) {
	joins(t, nil)
	joins(t, []string{})
	for n := 1; n <= 80; n++ {
		for _, bytes := range []int{0, 1, n, 79, 80, 81, 299, 300} {
			joins(t, textsAdded(n, bytes))
		}
		for _, bytes := range []int{301, 302, 400, 5000} {
			refusedJoin(t, textsAdded(n, bytes))
		}
	}
	joins(t, []string{"b", "", "a", "b", "\xc3", "\xa4", ""})
	joins(t, append(make([]string, 79), textOf(300, 1)))
	joins(t, append([]string{textOf(300, 1)}, make([]string, 79)...))
	joins(t, []string{textOf(150, 1), textOf(150, 1)})
	refusedJoin(t, []string{textOf(150, 1), textOf(151, 1)})
	refusedJoin(t, append([]string{textOf(300, 1)}, append(make([]string, 78), "a")...))
	for _, s := range tooLongTexts() {
		refusedJoin(t, []string{s})
		refusedJoin(t, []string{"", s})
	}
}

func TestPromise9TooManyTextsJoined(t *testing.T) {
	for _, n := range []int{81, 82, 100, 160, 300, 301, 5000} {
		for _, bytes := range []int{0, 1, 80, 81, 300, 301} {
			refusedJoin(t, textsAdded(n, bytes))
		}
	}
}
