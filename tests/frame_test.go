package tests

import (
	"encoding/binary"
	"math"
	"slices"
	"strings"
	"testing"

	"loop.example/g00405/impl"
)

// withTrueSum puts the sum behind the bytes, the lowest byte first.
func withTrueSum(s string) string {
	return string(binary.LittleEndian.AppendUint32([]byte(s), uint32(trueSum(s))))
}

// slowSector has a right sum behind any fields that go into their bytes: body and gap have no bytes 0 put to them.
func slowSector(kind int, at int, epoch int, long int, body string, gap string) string {
	l := []byte{byte(kind)}
	l = binary.BigEndian.AppendUint16(l, uint16(at))
	l = binary.BigEndian.AppendUint16(l, uint16(epoch))
	l = append(l, byte(long))
	return withTrueSum(string(l) + body + gap)
}

func padded(body string) string {
	return body + strings.Repeat("\x00", 16-len(body))
}

func slowFrame(f impl.Frame) string {
	return slowSector(f.Kind, f.At, f.Epoch, len(f.Body), padded(f.Body), "\x00\x00")
}

func someBodies() []string {
	l := []string{"ab", "\xe2\x82\xac", "a\x00", "\x00a", padded("\x01")}
	for n := range 17 {
		l = append(l, textOf(n, n), strings.Repeat("\x00", n), strings.Repeat("\xff", n))
	}
	return l
}

func someFrames() []impl.Frame {
	l := []impl.Frame{}
	for _, kind := range []int{1, 2, 127, 128, 254, 255} {
		for _, at := range []int{0, 1, 255, 256, 257, 32768, 59999, 60000} {
			for _, epoch := range []int{0, 1, 255, 256, 257, 59999, 60000} {
				for _, body := range []string{"", "\x00", "ab", padded(""), textOf(15, 1), textOf(16, 2)} {
					l = append(l, impl.Frame{Kind: kind, At: at, Epoch: epoch, Body: body})
				}
			}
		}
	}
	for _, body := range someBodies() {
		l = append(l, impl.Frame{Kind: 7, At: 300, Epoch: 515, Body: body})
	}
	return l
}

func notKinds() []int {
	return []int{0, -1, -255, 256, 257, 511, 513, 65537, 1<<32 + 1, math.MinInt, math.MinInt + 1, math.MaxInt}
}

func notAts() []int {
	return []int{-1, -2, 60001, 60002, 65535, 65536, 65537, 1<<32 + 1, math.MinInt, math.MaxInt}
}

func notBodies() []string {
	return []string{textOf(17, 1), strings.Repeat("\x00", 17), textOf(32, 2), textOf(256, 3), textOf(258, 4), textOf(500, 5)}
}

func badFrames() []impl.Frame {
	good := impl.Frame{Kind: 1, At: 2, Epoch: 3, Body: "ab"}
	l := []impl.Frame{{}, {Body: "ab"}, {At: 2, Epoch: 3}, {Kind: 256, At: 60001, Epoch: 60001, Body: textOf(17, 6)}, {Kind: -1, At: -1, Epoch: -1}}
	for _, kind := range notKinds() {
		f := good
		f.Kind = kind
		l = append(l, f)
	}
	for _, n := range notAts() {
		f, g := good, good
		f.At, g.Epoch = n, n
		l = append(l, f, g)
	}
	for _, body := range notBodies() {
		f := good
		f.Body = body
		l = append(l, f)
	}
	return l
}

// comesBack asks for a frame's bytes, and for the frame of them.
func comesBack(t *testing.T, f impl.Frame) {
	t.Helper()
	s, ok := impl.FrameBytes(f)
	if s != slowFrame(f) || !ok {
		t.Fatalf("FrameBytes %#v: %x %v", f, s, ok)
	}
	if g, code, ok := impl.ReadFrame(s); g != f || code != 0 || !ok {
		t.Fatalf("ReadFrame %#v: %#v %d %v", f, g, code, ok)
	}
}

func TestPromise6Constants(t *testing.T) {
	if impl.PayloadSize != 16 || impl.SectorSize != 28 || impl.MaxEpoch != 60000 {
		t.Error(impl.PayloadSize, impl.SectorSize, impl.MaxEpoch)
	}
	codes := []int{impl.FrOk, impl.FrSize, impl.FrSum, impl.FrKind, impl.FrPlace, impl.FrOld}
	if !slices.Equal(codes, []int{0, 1, 2, 3, 4, 5}) {
		t.Error(codes)
	}
}

func TestPromise6GoodFrames(t *testing.T) {
	for _, f := range someFrames() {
		if !impl.GoodFrame(f) {
			t.Errorf("not good %#v", f)
		}
	}
	for _, f := range badFrames() {
		if impl.GoodFrame(f) {
			t.Errorf("good %#v", f)
		}
		if s, ok := impl.FrameBytes(f); s != "" || ok {
			t.Errorf("FrameBytes %#v: %x %v", f, s, ok)
		}
	}
}

func TestPromise6BytesInTheirOrder(t *testing.T) {
	for _, x := range []struct {
		frame impl.Frame
		head  string
		body  string
	}{
		{impl.Frame{Kind: 1}, "\x01\x00\x00\x00\x00\x00", ""},
		{impl.Frame{Kind: 1, At: 2, Epoch: 3, Body: "ab"}, "\x01\x00\x02\x00\x03\x02", "ab"},
		{impl.Frame{Kind: 255, At: 60000, Epoch: 60000, Body: "sixteen bytes ok"}, "\xff\xea\x60\xea\x60\x10", "sixteen bytes ok"},
		{impl.Frame{Kind: 128, At: 258, Epoch: 772, Body: "\x00\x00"}, "\x80\x01\x02\x03\x04\x02", ""},
	} {
		s, ok := impl.FrameBytes(x.frame)
		if !ok || len(s) != 28 || s[:6] != x.head || s[6:22] != padded(x.body) || s[22:24] != "\x00\x00" {
			t.Fatalf("%#v: %x %v", x.frame, s, ok)
		}
		sum := trueSum(s[:24])
		for k, b := range []byte(s[24:]) {
			if int(b) != sum>>(8*k)%256 {
				t.Errorf("%#v: sum %x, bytes %x", x.frame, sum, s[24:])
			}
		}
	}
}

func TestPromise6FramesComeBack(t *testing.T) {
	for _, f := range someFrames() {
		comesBack(t, f)
	}
}

func TestPromise6EachFieldComesBack(t *testing.T) {
	for kind := 1; kind <= 255; kind++ {
		comesBack(t, impl.Frame{Kind: kind, At: 9, Epoch: 8, Body: "kind"})
	}
	for n := 0; n <= 60000; n++ {
		comesBack(t, impl.Frame{Kind: 3, At: n, Epoch: 60000 - n, Body: "place"})
	}
	for b := range 256 {
		comesBack(t, impl.Frame{Kind: 3, At: 5, Epoch: 6, Body: "a" + string([]byte{byte(b)})})
	}
}

// Each frame has bytes of its own: a text that ends with a byte 0 is not the one without it.
func TestPromise6NoTwoFramesAlike(t *testing.T) {
	seen := map[string]impl.Frame{}
	for _, f := range someFrames() {
		s, _ := impl.FrameBytes(f)
		if g, ok := seen[s]; ok && g != f {
			t.Errorf("%#v and %#v: %x", f, g, s)
		}
		seen[s] = f
	}
}

func slowSplit(s string) []string {
	l := []string{}
	for len(s) > 16 {
		l = append(l, s[:16])
		s = s[16:]
	}
	return append(l, s)
}

func TestPromise6TextsAreSplitAndJoined(t *testing.T) {
	for n := 1; n <= 160; n++ {
		for _, s := range textsOf(n) {
			l, ok := impl.SplitBody(s)
			if !ok || !slices.Equal(l, slowSplit(s)) || len(l) != (n+15)/16 {
				t.Fatalf("SplitBody of %d bytes: %q %v", n, l, ok)
			}
			if joined, ok := impl.JoinBody(l); joined != s || !ok {
				t.Fatalf("JoinBody of %d bytes: %q %v", n, joined, ok)
			}
		}
	}
	if l, ok := impl.SplitBody("seventeen bytes ."); !ok || !slices.Equal(l, []string{"seventeen bytes ", "."}) {
		t.Errorf("%q %v", l, ok)
	}
}

func TestPromise6TextsThatAreNotSplit(t *testing.T) {
	for _, n := range []int{0, 161, 162, 176, 177, 256, 1000} {
		for _, s := range textsOf(n) {
			if l, ok := impl.SplitBody(s); len(l) != 0 || ok {
				t.Errorf("%d bytes: %q %v", n, l, ok)
			}
		}
	}
}

// bodiesOf has a body of each length.
func bodiesOf(lengths ...int) []string {
	l := make([]string, len(lengths))
	for k, n := range lengths {
		l[k] = textOf(n, 40+k)
	}
	return l
}

func notJoined() [][]string {
	full := bodiesOf(16, 16, 16, 16, 16, 16, 16, 16, 16, 16)
	l := [][]string{nil, {}, {""}, {"", ""}, append(bodiesOf(16), full...), append(slices.Clone(full), "a"), append(slices.Clone(full), "")}
	for k := range full {
		for _, n := range []int{0, 17, 32, 160} {
			spoilt := slices.Clone(full)
			spoilt[k] = textOf(n, n)
			l = append(l, spoilt)
		}
	}
	for k := range 9 {
		for n := 1; n < 16; n++ {
			spoilt := slices.Clone(full)
			spoilt[k] = textOf(n, n)
			l = append(l, spoilt)
		}
	}
	for n := range 18 {
		l = append(l, bodiesOf(n, 0), bodiesOf(16, n, 0))
	}
	return append(l, bodiesOf(15, 1), bodiesOf(15, 16), bodiesOf(17, 15), bodiesOf(8, 8), bodiesOf(17), bodiesOf(160), bodiesOf(16, 17), bodiesOf(16, 1, 1), bodiesOf(0, 16))
}

func TestPromise6PiecesThatAreNotJoined(t *testing.T) {
	for _, l := range notJoined() {
		if s, ok := impl.JoinBody(l); s != "" || ok {
			t.Errorf("%q: %q %v", l, s, ok)
		}
	}
}

func slowSectors(kind int, at int, epoch int, s string) []string {
	l := []string{}
	for k, body := range slowSplit(s) {
		l = append(l, slowFrame(impl.Frame{Kind: kind, At: at + k, Epoch: epoch, Body: body}))
	}
	return l
}

func TestPromise6TextsComeBackFromTheirSectors(t *testing.T) {
	for n := 1; n <= 160; n++ {
		last := 60000 - (n+15)/16 + 1
		for _, s := range textsOf(n) {
			for _, x := range [][3]int{{1, 0, 0}, {255, last, 60000}, {9, 250, 256}} {
				l, ok := impl.FrameAll(x[0], x[1], x[2], s)
				if !ok || !slices.Equal(l, slowSectors(x[0], x[1], x[2], s)) {
					t.Fatalf("FrameAll %v of %d bytes: %x %v", x, n, l, ok)
				}
				if got, code, ok := impl.ReadAll(l, x[0], x[1], x[2]); got != s || code != 0 || !ok {
					t.Fatalf("ReadAll %v of %d bytes: %q %d %v", x, n, got, code, ok)
				}
			}
		}
	}
}

func TestPromise6TextsThatAreNotFramed(t *testing.T) {
	none := func(kind int, at int, epoch int, s string) {
		t.Helper()
		if l, ok := impl.FrameAll(kind, at, epoch, s); len(l) != 0 || ok {
			t.Errorf("FrameAll %d %d %d of %d bytes: %x %v", kind, at, epoch, len(s), l, ok)
		}
	}
	for _, s := range []string{"a", textOf(17, 1), textOf(160, 2)} {
		for _, kind := range notKinds() {
			none(kind, 1, 1, s)
		}
		for _, n := range notAts() {
			none(1, n, 1, s)
			none(1, 1, n, s)
		}
	}
	for _, n := range []int{0, 161, 176, 1000} {
		none(1, 1, 1, textOf(n, n))
	}
	for n := 17; n <= 160; n++ {
		for at := 60000 - (n+15)/16 + 2; at <= 60001; at++ {
			none(1, at, 1, textOf(n, n))
		}
	}
}
