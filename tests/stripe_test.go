package tests

import (
	"math"
	"slices"
	"strings"
	"testing"

	"loop.example/g00405/impl"
)

func slowBlock(text string) string {
	return string([]byte{byte(len(text))}) + text + strings.Repeat("\x00", 47-len(text))
}

func elementsIn(s string) []int {
	l := []int{}
	for _, b := range []byte(s) {
		l = append(l, int(b))
	}
	return l
}

func bytesFrom(piece []int) string {
	l := []byte{}
	for _, a := range piece {
		l = append(l, byte(a))
	}
	return string(l)
}

// codedBlock has the five pieces of any 48 bytes, also such as no text has.
func codedBlock(block string) [][]int {
	return slowEncode([][]int{elementsIn(block[:16]), elementsIn(block[16:32]), elementsIn(block[32:])}, 2)
}

func slowPieces(text string) [][]int {
	return codedBlock(slowBlock(text))
}

// textInBlock takes 48 bytes.
func textInBlock(block string) (string, bool) {
	n := int(block[0])
	if n > 47 || strings.Count(block[1+n:], "\x00") != 47-n {
		return "", false
	}
	return block[1 : 1+n], true
}

func slowText(pieces [][]int) (string, bool) {
	if len(pieces) != 5 {
		return "", false
	}
	for _, piece := range pieces {
		if len(piece) != 16 || slices.Min(piece) < 0 || slices.Max(piece) > 255 {
			return "", false
		}
	}
	block := bytesFrom(slices.Concat(pieces[0], pieces[1], pieces[2]))
	if !sameMatrix(codedBlock(block), pieces) {
		return "", false
	}
	return textInBlock(block)
}

// stripeSectors has what is in the five sectors of a stripe with these 48 bytes.
func stripeSectors(at int, epoch int, block string) []string {
	l := []string{}
	for k, piece := range codedBlock(block) {
		l = append(l, slowFrame(impl.Frame{Kind: 2, At: at + k, Epoch: epoch, Body: bytesFrom(piece)}))
	}
	return l
}

func slowFits(d impl.Disk, at int) bool {
	return isSlowGood(d) && at >= 0 && at < 20 && at+4 < len(d.Plate)
}

func slowWriteStripe(d impl.Disk, at int, epoch int, text string) (impl.Disk, bool) {
	if !slowFits(d, at) || len(text) > 47 || epoch < 0 || epoch > 60000 || slices.Contains(d.Bad[at:at+5], true) {
		return impl.Disk{}, false
	}
	d = cloneDisk(d)
	copy(d.Held[at:], stripeSectors(at, epoch, slowBlock(text)))
	return d, true
}

func checkWriteStripe(t *testing.T, d impl.Disk, at int, epoch int, text string) {
	t.Helper()
	want, wantOk := slowWriteStripe(d, at, epoch, text)
	if got, ok := impl.WriteStripe(d, at, epoch, text); !sameDisk(got, want) || ok != wantOk {
		t.Fatalf("WriteStripe %#v %d %d %q: %#v %v, want %#v %v", d, at, epoch, text, got, ok, want, wantOk)
	}
}

func refusedWrite(t *testing.T, d impl.Disk, at int, epoch int, text string) {
	t.Helper()
	if got, ok := impl.WriteStripe(d, at, epoch, text); !isNoDisk(got) || ok {
		t.Errorf("WriteStripe %#v %d %d, %d bytes: %#v %v", d, at, epoch, len(text), got, ok)
	}
}

func notEpochs() []int {
	return []int{-1, -2, -60000, 60001, 60002, 65535, 65536, 65537, 1<<32 + 1, math.MinInt, math.MaxInt}
}

// notStripeTexts are too long, also where a byte of their length would be a good one.
func notStripeTexts() []string {
	l := []string{}
	for _, n := range []int{48, 49, 64, 160, 255, 256, 257, 303, 304, 400, 401, 5000} {
		l = append(l, textOf(n, n), strings.Repeat("\x00", n))
	}
	return l
}

func TestPromise8Constants(t *testing.T) {
	if impl.StripeData != 3 || impl.StripeParity != 2 {
		t.Error(impl.StripeData, impl.StripeParity)
	}
}

func TestPromise8KnownPieces(t *testing.T) {
	nought := make([]int, 16)
	if p, ok := impl.PiecesFor(""); !ok || !sameMatrix(p, [][]int{nought, nought, nought, nought, nought}) {
		t.Error(p, ok)
	}
	// The rows of the code behind the data are 142 244 71 and 244 142 167: the inverses of 2 3 4 and of 3 2 5.
	first := []int{1, 2, 0, 0, 0, 0, 0, 0, 0, 0, 0, 0, 0, 0, 0, 0}
	fourth := []int{142, 1, 0, 0, 0, 0, 0, 0, 0, 0, 0, 0, 0, 0, 0, 0}
	fifth := []int{244, 245, 0, 0, 0, 0, 0, 0, 0, 0, 0, 0, 0, 0, 0, 0}
	if p, ok := impl.PiecesFor("\x02"); !ok || !sameMatrix(p, [][]int{first, nought, nought, fourth, fifth}) {
		t.Error(p, ok)
	}
	p, ok := impl.PiecesFor(strings.Repeat("\x01", 47))
	if !ok || len(p) != 5 || p[0][0] != 47 || p[3][1] != 142^244^71 || p[4][15] != 244^142^167 {
		t.Error(p, ok)
	}
}

func TestPromise8PiecesOfTexts(t *testing.T) {
	for n := range 48 {
		for _, text := range textsOf(n) {
			p, ok := impl.PiecesFor(text)
			if !ok || !sameMatrix(p, slowPieces(text)) {
				t.Errorf("PiecesFor %q: %v %v", text, p, ok)
			}
			if s, ok := impl.TextFrom(p); s != text || !ok {
				t.Errorf("TextFrom %q: %q %v", text, s, ok)
			}
			if whole, ok := impl.CheckPieces(3, 2, p); !whole || !ok {
				t.Errorf("CheckPieces %q: %v %v", text, whole, ok)
			}
		}
	}
	for _, text := range notStripeTexts() {
		if p, ok := impl.PiecesFor(text); len(p) != 0 || ok {
			t.Errorf("PiecesFor of %d bytes: %v %v", len(text), p, ok)
		}
	}
}

func refusedPieces(t *testing.T, pieces [][]int) {
	t.Helper()
	if s, ok := impl.TextFrom(pieces); s != "" || ok {
		t.Errorf("TextFrom %v: %q %v", pieces, s, ok)
	}
}

// oddPieces has what is not as many, or not as long, as a stripe's pieces.
func oddPieces() [][][]int {
	whole := slowPieces(textOf(47, 1))
	l := [][][]int{nil, {}, {{}}, make([][]int, 5), make([][]int, 6), slowEncode(matrixOf(4, 16, 1), 1), slowEncode(matrixOf(2, 16, 1), 3), noughtPieces(5, 15), noughtPieces(5, 17), noughtPieces(5, 32)}
	for n := range 9 {
		if n != 5 {
			l = append(l, noughtPieces(n, 16))
		}
	}
	for k := range whole {
		l = append(l, slices.Delete(copyMatrix(whole), k, k+1), slices.Insert(copyMatrix(whole), k, make([]int, 16)), whole[:k])
		for _, long := range []int{0, 1, 15, 17, 32, 33} {
			other := copyMatrix(whole)
			other[k] = append(other[k], make([]int, 20)...)[:long]
			l = append(l, other)
		}
	}
	for _, long := range []int{0, 1, 8, 15, 17, 24, 32} {
		l = append(l, slowEncode(matrixOf(3, long, 1), 2))
	}
	return l
}

func TestPromise8PiecesThatAreNotAsSaid(t *testing.T) {
	for _, pieces := range oddPieces() {
		refusedPieces(t, pieces)
	}
	for _, pieces := range slices.Concat(notAsLong(5), withNoElement(5, 16)) {
		refusedPieces(t, pieces)
	}
	whole := slowPieces(textOf(40, 2))
	for i := range whole {
		for k := range whole[i] {
			// As a byte one of these is what stood there.
			for _, a := range append(notElements(), whole[i][k]+256, whole[i][k]-256) {
				other := copyMatrix(whole)
				other[i][k] = a
				refusedPieces(t, other)
			}
		}
	}
}

func TestPromise8PiecesThatAreNoCode(t *testing.T) {
	for _, text := range []string{"", "a", textOf(20, 1), textOf(47, 2)} {
		whole := slowPieces(text)
		for i := range whole {
			for k := range whole[i] {
				for _, change := range []int{1, 2, 128, 255} {
					other := copyMatrix(whole)
					other[i][k] ^= change
					refusedPieces(t, other)
				}
			}
			for k := range i {
				other := copyMatrix(whole)
				other[i], other[k] = other[k], other[i]
				if !sameMatrix(other, whole) {
					refusedPieces(t, other)
				}
			}
		}
	}
}

// notBlocks are 48 bytes that no text has: the first one tells too many, or behind the text is more than noughts.
func notBlocks() []string {
	l := []string{}
	for n := 48; n < 256; n++ {
		l = append(l, string([]byte{byte(n)})+textOf(47, n), string([]byte{byte(n)})+strings.Repeat("\x00", 47))
	}
	for n := range 47 {
		for at := 1 + n; at < 48; at++ {
			for _, b := range []byte{1, 128, 255} {
				block := []byte(slowBlock(textOf(n, at)))
				block[at] = b
				l = append(l, string(block))
			}
		}
	}
	return l
}

func TestPromise8BlocksThatNoTextHas(t *testing.T) {
	for _, block := range notBlocks() {
		pieces := codedBlock(block)
		if whole, ok := impl.CheckPieces(3, 2, pieces); !whole || !ok {
			t.Fatal("no code", pieces)
		}
		refusedPieces(t, pieces)
	}
}

func TestPromise8WhereAStripeFits(t *testing.T) {
	for n := 1; n <= 24; n++ {
		for _, d := range []impl.Disk{emptyDisk(n), fullDisk(n, n), fullDisk(n, n+3)} {
			for at := -30; at <= 30; at++ {
				if fits, ok := impl.FitsStripe(d, at); fits != (at >= 0 && at+5 <= n) || !ok {
					t.Errorf("%d sectors at %d: %v %v", n, at, fits, ok)
				}
			}
			for _, at := range []int{-1 << 32, 1 << 32, 1<<32 + 1, math.MinInt, math.MinInt + 4, math.MaxInt - 5, math.MaxInt - 4, math.MaxInt - 3, math.MaxInt} {
				if fits, ok := impl.FitsStripe(d, at); fits || !ok {
					t.Errorf("%d sectors at %d: %v %v", n, at, fits, ok)
				}
			}
		}
	}
	for _, d := range notDisks() {
		for _, at := range []int{-1, 0, 1, 19, 20} {
			if fits, ok := impl.FitsStripe(d, at); fits || ok {
				t.Errorf("%#v at %d: %v %v", d, at, fits, ok)
			}
		}
	}
}

// The sectors of a stripe are Held, and nothing else is another one.
func TestPromise8Writes(t *testing.T) {
	for n := 5; n <= 24; n++ {
		for at := 0; at+5 <= n; at++ {
			for _, text := range []string{"", "a", textOf(46, at), textOf(47, n)} {
				checkWriteStripe(t, emptyDisk(n), at, at*n, text)
				checkWriteStripe(t, fullDisk(n, at), at, at, text)
			}
		}
	}
	d := emptyDisk(7)
	for n := range 48 {
		for _, text := range textsOf(n) {
			checkWriteStripe(t, d, 1, n, text)
		}
	}
	for _, epoch := range []int{0, 1, 255, 256, 257, 59999, 60000} {
		checkWriteStripe(t, d, 2, epoch, "text")
		x, ok := impl.WriteStripe(d, 2, epoch, "text")
		if f, _, is := impl.CheckFrame(x.Held[4], 2, 4, epoch); !ok || !is || f.Epoch != epoch || len(f.Body) != 16 {
			t.Error(epoch, f, ok)
		}
	}
}

func TestPromise8WritesOverOthers(t *testing.T) {
	d := emptyDisk(10)
	for k := range 10 {
		d.Plate[k], d.Held[k] = textOf(28, k), textOf(k+1, k+9)
	}
	first, ok := impl.WriteStripe(d, 2, 5, "first")
	second, is := impl.WriteStripe(first, 2, 5, "second")
	later, was := impl.WriteStripe(second, 4, 4, "third")
	if !ok || !is || !was || !slices.Equal(later.Plate, d.Plate) {
		t.Fatal(ok, is, was, later.Plate)
	}
	want := slices.Concat(d.Held[:2], stripeSectors(2, 5, slowBlock("second"))[:2], stripeSectors(4, 4, slowBlock("third")), d.Held[9:])
	if !slices.Equal(later.Held, want) {
		t.Errorf("%x, want %x", later.Held, want)
	}
}

func TestPromise8WritesThatAreRefused(t *testing.T) {
	for _, n := range []int{5, 6, 10, 24} {
		d := emptyDisk(n)
		for _, at := range []int{-1, -5, n - 4, n, n + 1, math.MinInt, math.MaxInt, math.MaxInt - 4} {
			refusedWrite(t, d, at, 1, "a")
		}
		for _, epoch := range notEpochs() {
			refusedWrite(t, d, 0, epoch, "a")
		}
		for _, text := range notStripeTexts() {
			refusedWrite(t, d, 0, 1, text)
		}
	}
	for n := 1; n < 5; n++ {
		refusedWrite(t, emptyDisk(n), 0, 1, "a")
	}
	for _, d := range notDisks() {
		for _, at := range []int{0, 1, 19} {
			refusedWrite(t, d, at, 1, "a")
		}
	}
}

// A sector that is Bad lets nothing be written, wherever in the stripe it is; beside the stripe it does not matter.
func TestPromise8WritesToBadSectors(t *testing.T) {
	for set := range 1 << 8 {
		d := fullDisk(8, 1)
		for k := range 8 {
			if d.Bad[k] = set>>k&1 == 1; d.Bad[k] {
				d.Held[k] = ""
			}
		}
		for at := range 4 {
			checkWriteStripe(t, d, at, 3, "text")
			if _, ok := impl.WriteStripe(d, at, 3, "text"); ok != (set>>at&31 == 0) {
				t.Error(set, at, ok)
			}
		}
	}
}
