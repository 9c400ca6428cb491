package tests

import (
	"encoding/binary"
	"math"
	"slices"
	"strings"
	"testing"

	"loop.example/g00405/impl"
)

// readsAs asks for a code with nothing beside it, of ReadFrame and of CheckFrame whatever is asked for there.
func readsAs(t *testing.T, s string, want int) {
	t.Helper()
	if f, code, ok := impl.ReadFrame(s); f != (impl.Frame{}) || code != want || ok {
		t.Fatalf("ReadFrame %x: %#v %d %v, want %d", s, f, code, ok, want)
	}
	for _, x := range [][3]int{{1, 2, 3}, {1, 2, 0}, {0, 0, 0}, {2, 2, 3}, {1, 3, 3}, {1, 2, 4}, {-1, -1, 70000}} {
		if f, code, ok := impl.CheckFrame(s, x[0], x[1], x[2]); f != (impl.Frame{}) || code != want || ok {
			t.Fatalf("CheckFrame %x %v: %#v %d %v, want %d", s, x, f, code, ok, want)
		}
	}
}

func TestPromise6SectorsOfAnotherSize(t *testing.T) {
	good := slowFrame(impl.Frame{Kind: 1, At: 2, Epoch: 3, Body: "ab"})
	for n := range 60 {
		if n == 28 {
			continue
		}
		readsAs(t, textOf(n, n), impl.FrSize)
		readsAs(t, strings.Repeat("\x00", n), impl.FrSize)
		readsAs(t, (good + good + good)[:n], impl.FrSize)
		if n > 4 {
			readsAs(t, withTrueSum((good + good)[:n-4]), impl.FrSize)
		}
	}
	readsAs(t, good+"\x00", impl.FrSize)
	readsAs(t, "\x00"+good, impl.FrSize)
	readsAs(t, textOf(401, 1), impl.FrSize)
	readsAs(t, textOf(5000, 1), impl.FrSize)
}

func TestPromise6AnotherByte(t *testing.T) {
	for _, f := range []impl.Frame{{Kind: 1, At: 2, Epoch: 3, Body: "ab"}, {Kind: 255, At: 60000, Epoch: 60000, Body: textOf(16, 3)}} {
		s := slowFrame(f)
		for k := range len(s) {
			for d := 1; d < 256; d++ {
				l := []byte(s)
				l[k] ^= byte(d)
				readsAs(t, string(l), impl.FrSum)
			}
		}
	}
	readsAs(t, strings.Repeat("\x00", 28), impl.FrSum)
	readsAs(t, strings.Repeat("\xff", 28), impl.FrSum)
}

// The sum's bytes the other way round, or of what it should not take in, are another sum.
func TestPromise6AnotherSum(t *testing.T) {
	s := slowFrame(impl.Frame{Kind: 1, At: 2, Epoch: 3, Body: "ab"})
	turned := []byte(s)
	slices.Reverse(turned[24:])
	readsAs(t, string(turned), impl.FrSum)
	for _, part := range []string{s[:22], s[:8], s[6:8], s[1:24], s, s[:24] + "\x00\x00\x00\x00"} {
		sum := withTrueSum(part)
		readsAs(t, s[:24]+sum[len(part):], impl.FrSum)
	}
}

func TestPromise6BytesThatNoFrameHas(t *testing.T) {
	full := textOf(16, 1)
	for _, at := range []int{0, 2, 60000} {
		readsAs(t, slowSector(0, at, 3, 2, padded("ab"), "\x00\x00"), impl.FrKind)
	}
	for n := 60001; n <= 65535; n++ {
		readsAs(t, slowSector(1, n, 3, 2, padded("ab"), "\x00\x00"), impl.FrKind)
		readsAs(t, slowSector(1, 2, n, 2, padded("ab"), "\x00\x00"), impl.FrKind)
	}
	for long := 17; long < 256; long++ {
		readsAs(t, slowSector(1, 2, 3, long, full, "\x00\x00"), impl.FrKind)
		readsAs(t, slowSector(1, 2, 3, long, padded(""), "\x00\x00"), impl.FrKind)
	}
	for _, gap := range []string{"\x01\x00", "\x00\x01", "\x80\x00", "\x00\x80", "\xff\xff"} {
		readsAs(t, slowSector(1, 2, 3, 16, full, gap), impl.FrKind)
		readsAs(t, slowSector(1, 2, 3, 0, padded(""), gap), impl.FrKind)
	}
	readsAs(t, withTrueSum(strings.Repeat("\x00", 24)), impl.FrKind)
	readsAs(t, withTrueSum(strings.Repeat("\xff", 24)), impl.FrKind)
}

func TestPromise6BytesBehindABody(t *testing.T) {
	for long := range 16 {
		for k := long; k < 16; k++ {
			for _, b := range []byte{1, 128, 255, ' '} {
				l := []byte(padded(textOf(long, 5)))
				l[k] = b
				readsAs(t, slowSector(1, 2, 3, long, string(l), "\x00\x00"), impl.FrKind)
			}
		}
	}
}

// Bytes behind a body may leave the sum as it is with bytes 0: it does not tell of them.
func TestPromise6BytesThatTheSumDoesNotTell(t *testing.T) {
	for long := range 12 {
		f := impl.Frame{Kind: 1, At: 2, Epoch: 3, Body: textOf(long, 6)}
		s := slowFrame(f)
		head := s[:6+long]
		unlike := trueSum(head+"\x01") ^ trueSum(head+"\x00")
		l := []byte(s)
		l[6+long] = 1
		binary.LittleEndian.PutUint32(l[7+long:], uint32(unlike))
		if trueSum(string(l[:24])) != trueSum(s[:24]) {
			t.Fatalf("another sum %x", l)
		}
		readsAs(t, string(l), impl.FrKind)
	}
}

func TestPromise6CheckedFrames(t *testing.T) {
	for _, f := range someFrames() {
		s := slowFrame(f)
		for _, least := range []int{f.Epoch, f.Epoch - 1, 0, -1, math.MinInt} {
			if g, code, ok := impl.CheckFrame(s, f.Kind, f.At, least); g != f || code != 0 || !ok {
				t.Fatalf("%#v from %d on: %#v %d %v", f, least, g, code, ok)
			}
		}
	}
}

// checksAs asks for a code with nothing beside it.
func checksAs(t *testing.T, s string, kind int, at int, least int, want int) {
	t.Helper()
	if f, code, ok := impl.CheckFrame(s, kind, at, least); f != (impl.Frame{}) || code != want || ok {
		t.Fatalf("%x %d %d %d: %#v %d %v, want %d", s, kind, at, least, f, code, ok, want)
	}
}

func TestPromise6FramesThatAreOthers(t *testing.T) {
	for _, f := range someFrames() {
		s := slowFrame(f)
		for _, kind := range []int{f.Kind + 1, f.Kind - 1, 0, -f.Kind, f.Kind + 256, math.MinInt, math.MaxInt} {
			checksAs(t, s, kind, f.At, f.Epoch, impl.FrKind)
			checksAs(t, s, kind, f.At+1, f.Epoch, impl.FrKind)
			checksAs(t, s, kind, f.At, f.Epoch+1, impl.FrKind)
			checksAs(t, s, kind, f.At+1, f.Epoch+1, impl.FrKind)
		}
		for _, at := range []int{f.At + 1, f.At - 1, -f.At - 1, f.At + 65536, math.MinInt, math.MaxInt} {
			checksAs(t, s, f.Kind, at, f.Epoch, impl.FrPlace)
			checksAs(t, s, f.Kind, at, f.Epoch+1, impl.FrPlace)
		}
		for _, least := range []int{f.Epoch + 1, 60001, 65536, math.MaxInt} {
			checksAs(t, s, f.Kind, f.At, least, impl.FrOld)
		}
	}
}

// allReadsAs asks for a code with nothing beside it.
func allReadsAs(t *testing.T, l []string, want int) {
	t.Helper()
	if s, code, ok := impl.ReadAll(l, 1, 5, 7); s != "" || code != want || ok {
		t.Fatalf("%x: %q %d %v, want %d", l, s, code, ok, want)
	}
}

// sectorFaults has for each code a sector of it, where Kind 1 at this place from 7 on is asked for.
func sectorFaults(at int) map[int]string {
	good := slowFrame(impl.Frame{Kind: 1, At: at, Epoch: 7, Body: textOf(16, at)})
	return map[int]string{
		impl.FrSize:  good[1:],
		impl.FrSum:   good[:27] + string([]byte{good[27] ^ 1}),
		impl.FrKind:  slowFrame(impl.Frame{Kind: 2, At: at, Epoch: 7, Body: textOf(16, at)}),
		impl.FrPlace: slowFrame(impl.Frame{Kind: 1, At: at + 1, Epoch: 7, Body: textOf(16, at)}),
		impl.FrOld:   slowFrame(impl.Frame{Kind: 1, At: at, Epoch: 6, Body: textOf(16, at)}),
	}
}

// The first sector with a fault tells, whatever the later ones have.
func TestPromise6FirstFaultOfSectors(t *testing.T) {
	whole := slowSectors(1, 5, 7, textOf(160, 4))
	for i := range whole {
		for first, spoilt := range sectorFaults(5 + i) {
			l := slices.Clone(whole)
			l[i] = spoilt
			allReadsAs(t, l, first)
			allReadsAs(t, l[:i+1], first)
			for k := i + 1; k < len(whole); k++ {
				for _, later := range sectorFaults(5 + k) {
					both := slices.Clone(l)
					both[k] = later
					allReadsAs(t, both, first)
				}
			}
		}
	}
}

func TestPromise6SectorsOutOfTheirOrder(t *testing.T) {
	whole := slowSectors(1, 5, 7, textOf(160, 4))
	for i := range whole {
		for k := range i {
			l := slices.Clone(whole)
			l[i], l[k] = l[k], l[i]
			allReadsAs(t, l, impl.FrPlace)
		}
		if i > 0 {
			allReadsAs(t, whole[i:], impl.FrPlace)
			allReadsAs(t, slices.Delete(slices.Clone(whole), i-1, i), impl.FrPlace)
		}
	}
	short := slowSectors(1, 5, 7, textOf(17, 4))
	allReadsAs(t, []string{short[1], short[0]}, impl.FrPlace)
	allReadsAs(t, []string{short[0], short[0]}, impl.FrPlace)
}

// framesOf has sectors that are good one by one, with these bodies.
func framesOf(bodies []string) []string {
	l := make([]string, len(bodies))
	for k, body := range bodies {
		l[k] = slowFrame(impl.Frame{Kind: 1, At: 5 + k, Epoch: 7, Body: body})
	}
	return l
}

func TestPromise6SectorsWhoseBodiesAreNotJoined(t *testing.T) {
	for _, bodies := range notJoined() {
		isBody := func(s string) bool { return len(s) <= 16 }
		if len(bodies) == 0 || len(bodies) > 10 || slices.ContainsFunc(bodies, func(s string) bool { return !isBody(s) }) {
			continue
		}
		allReadsAs(t, framesOf(bodies), impl.FrKind)
	}
	allReadsAs(t, framesOf([]string{""}), impl.FrKind)
	allReadsAs(t, framesOf([]string{"", "a"}), impl.FrKind)
	allReadsAs(t, framesOf(bodiesOf(16, 15, 16)), impl.FrKind)
	// A later sector's own fault comes ahead of how the bodies fit.
	for code, spoilt := range sectorFaults(6) {
		allReadsAs(t, []string{framesOf([]string{""})[0], spoilt}, code)
		allReadsAs(t, []string{framesOf([]string{"short"})[0], spoilt}, code)
	}
}

func TestPromise6TooFewOrTooManySectors(t *testing.T) {
	allReadsAs(t, nil, 0)
	allReadsAs(t, []string{}, 0)
	eleven := framesOf(bodiesOf(16, 16, 16, 16, 16, 16, 16, 16, 16, 16, 16))
	allReadsAs(t, eleven, 0)
	allReadsAs(t, append(eleven, eleven...), 0)
	allReadsAs(t, make([]string, 11), 0)
	allReadsAs(t, append([]string{"no sector"}, eleven[1:]...), 0)
	if s, code, ok := impl.ReadAll(eleven[:10], 1, 5, 7); len(s) != 160 || code != 0 || !ok {
		t.Errorf("%q %d %v", s, code, ok)
	}
}

func TestPromise6SectorsThatAreOthers(t *testing.T) {
	text := textOf(33, 8)
	l := slowSectors(1, 5, 7, text)
	for _, x := range []struct {
		kind, at, least int
		code            int
	}{
		{2, 5, 7, impl.FrKind}, {0, 5, 7, impl.FrKind}, {257, 5, 7, impl.FrKind}, {2, 6, 8, impl.FrKind},
		{1, 4, 7, impl.FrPlace}, {1, 6, 7, impl.FrPlace}, {1, 6, 8, impl.FrPlace}, {1, math.MaxInt, 7, impl.FrPlace}, {1, math.MinInt, 7, impl.FrPlace},
		{1, 5, 8, impl.FrOld}, {1, 5, math.MaxInt, impl.FrOld},
	} {
		if s, code, ok := impl.ReadAll(l, x.kind, x.at, x.least); s != "" || code != x.code || ok {
			t.Errorf("%v: %q %d %v", x, s, code, ok)
		}
	}
	for _, least := range []int{7, 6, 0, -1, math.MinInt} {
		if s, code, ok := impl.ReadAll(l, 1, 5, least); s != text || code != 0 || !ok {
			t.Errorf("from %d on: %q %d %v", least, s, code, ok)
		}
	}
}

// Sectors of a text need not be written at one time: each by itself is new enough or not.
func TestPromise6SectorsOfSeveralTimes(t *testing.T) {
	bodies := bodiesOf(16, 16, 3)
	l := framesOf(bodies)
	l[1] = slowFrame(impl.Frame{Kind: 1, At: 6, Epoch: 60000, Body: bodies[1]})
	if s, code, ok := impl.ReadAll(l, 1, 5, 7); s != strings.Join(bodies, "") || code != 0 || !ok {
		t.Errorf("%q %d %v", s, code, ok)
	}
	l[2] = slowFrame(impl.Frame{Kind: 1, At: 7, Epoch: 6, Body: bodies[2]})
	allReadsAs(t, l, impl.FrOld)
}
