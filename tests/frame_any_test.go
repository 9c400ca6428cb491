package tests

import (
	"math"
	"slices"
	"strings"
	"testing"

	"loop.example/g00405/impl"
)

// anyFields has kinds, places and epochs, good and not.
func anyFields() []int {
	return []int{0, 1, 2, 5, 255, 256, 257, 59990, 59991, 59999, 60000, 60001, 65535, 65536, 65537, -1, -256, 1 << 32, math.MinInt, math.MinInt + 1, math.MaxInt, math.MaxInt - 1, math.MaxInt - 9}
}

func anyBodies() []string {
	return []string{"", "a", "\x00", "\xc3", textOf(15, 1), textOf(16, 2), textOf(17, 3), textOf(28, 4), textOf(159, 5), textOf(160, 6), textOf(161, 7), textOf(401, 8), textOf(5000, 9)}
}

// anySectors has good ones, ones with each fault, and what is no sector.
func anySectors() []string {
	l := append(anyBodies(), anyTexts()...)
	for _, f := range []impl.Frame{{Kind: 1, At: 0, Epoch: 0}, {Kind: 1, At: 5, Epoch: 7, Body: textOf(16, 1)}, {Kind: 255, At: 60000, Epoch: 60000, Body: "a"}} {
		s := slowFrame(f)
		l = append(l, s, s[1:], s+"a", s[:27]+string([]byte{s[27] ^ 9}))
	}
	for k := range 24 {
		head := make([]byte, 24)
		head[k] = 255
		l = append(l, withTrueSum(string(head)))
	}
	return append(l, withTrueSum(strings.Repeat("\xff", 24)))
}

func isGoodFrame(kind int, at int, epoch int, long int) bool {
	return kind >= 1 && kind <= 255 && at >= 0 && at <= 60000 && epoch >= 0 && epoch <= 60000 && long <= 16
}

func TestPromise19FramesOfAnything(t *testing.T) {
	for _, kind := range anyFields() {
		for _, at := range anyFields() {
			for _, epoch := range anyFields() {
				for _, body := range anyBodies() {
					f := impl.Frame{Kind: kind, At: at, Epoch: epoch, Body: body}
					good := isGoodFrame(kind, at, epoch, len(body))
					if impl.GoodFrame(f) != good {
						t.Fatalf("GoodFrame %#v", f)
					}
					if s, ok := impl.FrameBytes(f); ok != good || !ok && s != "" || ok && len(s) != 28 {
						t.Fatalf("FrameBytes %#v: %x %v", f, s, ok)
					}
				}
			}
		}
	}
}

func TestPromise19TextsFramedAnyhow(t *testing.T) {
	for _, kind := range anyFields() {
		for _, at := range anyFields() {
			for _, epoch := range anyFields() {
				for _, s := range anyBodies() {
					n := (len(s) + 15) / 16
					good := n >= 1 && n <= 10 && len(s) <= 160 && isGoodFrame(kind, at, epoch, 0) && at+n-1 <= 60000
					l, ok := impl.FrameAll(kind, at, epoch, s)
					if ok != good || !ok && len(l) != 0 || ok && len(l) != n {
						t.Fatalf("FrameAll %d %d %d of %d bytes: %x %v", kind, at, epoch, len(s), l, ok)
					}
				}
			}
		}
	}
}

func TestPromise19SectorsOfAnything(t *testing.T) {
	for _, s := range anySectors() {
		f, code, ok := impl.ReadFrame(s)
		if ok != (code == 0) || !ok && f != (impl.Frame{}) || ok && slowFrame(f) != s || code < 0 || code > 3 {
			t.Fatalf("ReadFrame %x: %#v %d %v", s, f, code, ok)
		}
		for _, kind := range anyFields() {
			for _, at := range anyFields() {
				for _, least := range anyFields() {
					g, got, is := impl.CheckFrame(s, kind, at, least)
					if is != (ok && f.Kind == kind && f.At == at && f.Epoch >= least) || is != (got == 0) {
						t.Fatalf("CheckFrame %x %d %d %d: %d %v", s, kind, at, least, got, is)
					}
					if !is && g != (impl.Frame{}) || is && g != f || !ok && got != code {
						t.Fatalf("CheckFrame %x %d %d %d: %#v %d %v", s, kind, at, least, g, got, is)
					}
				}
			}
		}
	}
}

func TestPromise19TextsReadAnyhow(t *testing.T) {
	sectors := anySectors()
	lists := [][]string{nil, {}, sectors, sectors[:11], sectors[:10], slowSectors(1, 5, 7, textOf(160, 1)), slowSectors(255, 59991, 60000, textOf(150, 1)), framesOf(bodiesOf(0)), framesOf(bodiesOf(3, 16))}
	for _, s := range sectors {
		lists = append(lists, []string{s}, []string{s, s})
	}
	for _, l := range lists {
		if s, ok := impl.JoinBody(l); !ok && s != "" {
			t.Fatalf("JoinBody %x: %x", l, s)
		}
		for _, kind := range []int{0, 1, 255, 256, -1, math.MinInt, math.MaxInt} {
			for _, at := range anyFields() {
				for _, least := range []int{0, 7, 60000, 60001, -1, math.MinInt, math.MaxInt} {
					s, code, ok := impl.ReadAll(l, kind, at, least)
					counted := len(l) >= 1 && len(l) <= 10
					if !ok && s != "" || ok && (s == "" || code != 0) || code < 0 || code > 5 || counted && ok != (code == 0) || !counted && (ok || code != 0) {
						t.Fatalf("ReadAll %x %d %d %d: %q %d %v", l, kind, at, least, s, code, ok)
					}
				}
			}
		}
	}
}

func TestPromise19FrameMemory(t *testing.T) {
	for _, body := range anyBodies() {
		h := holdText(body, "behind it")
		for _, kind := range []int{0, 1, 255} {
			impl.GoodFrame(impl.Frame{Kind: kind, Body: h.text})
			want, wantOk := impl.FrameBytes(impl.Frame{Kind: kind, Body: strings.Clone(body)})
			got, ok := impl.FrameBytes(impl.Frame{Kind: kind, Body: h.text})
			if got != want || ok != wantOk {
				t.Errorf("%d bytes: %x %v", len(body), got, ok)
			}
			h.isNew(t, got)
			h.stays(t)
		}
	}
}

// What lies behind a sector would make another one of it.
func TestPromise19SectorMemory(t *testing.T) {
	for _, s := range anySectors() {
		for _, behind := range []string{"\x00", "\xff\x01", textOf(28, 9)} {
			h := holdText(s, behind)
			want, wantCode, wantOk := impl.ReadFrame(strings.Clone(s))
			got, code, ok := impl.ReadFrame(h.text)
			if got != want || code != wantCode || ok != wantOk {
				t.Errorf("ReadFrame %x: %#v %d %v", s, got, code, ok)
			}
			h.isNew(t, got.Body)
			checked, _, _ := impl.CheckFrame(h.text, want.Kind, want.At, want.Epoch)
			if checked != want {
				t.Errorf("CheckFrame %x: %#v", s, checked)
			}
			h.isNew(t, checked.Body)
			h.stays(t)
		}
	}
	s := slowFrame(impl.Frame{Kind: 1, At: 5, Epoch: 7, Body: "ab"})
	if _, code, ok := impl.ReadFrame(holdText(s[:27], s[27:]).text); code != impl.FrSize || ok {
		t.Error("read what lies behind", code, ok)
	}
}

// areNew asks that no two texts of an answer share a byte, and none one with what was handed in.
func areNew(t *testing.T, answers []string, given ...heldText) {
	t.Helper()
	for k, s := range answers {
		for _, h := range given {
			h.isNew(t, s)
		}
		if len(s) < 2 {
			continue // texts of one byte are the language's own
		}
		for _, other := range answers[:k] {
			if len(other) > 1 {
				heldText{bytes: bytesOf(other)}.isNew(t, s)
			}
		}
	}
}

func TestPromise19SplitMemory(t *testing.T) {
	for n := range 165 {
		s := textOf(n, n)
		h := holdText(s, "behind it")
		want, wantOk := impl.SplitBody(strings.Clone(s))
		got, ok := impl.SplitBody(h.text)
		if !slices.Equal(got, want) || ok != wantOk {
			t.Errorf("SplitBody of %d bytes: %q %v", n, got, ok)
		}
		areNew(t, got, h)
		want, wantOk = impl.FrameAll(1, 5, 7, strings.Clone(s))
		got, ok = impl.FrameAll(1, 5, 7, h.text)
		if !slices.Equal(got, want) || ok != wantOk {
			t.Errorf("FrameAll of %d bytes: %x %v", n, got, ok)
		}
		areNew(t, got, h)
		h.stays(t)
	}
}

// heldTexts is a list of texts that lie in memory which can be looked at, with more texts behind the list.
type heldTexts struct {
	list  []string
	whole []string
	texts []heldText
}

func holdTexts(l []string, behind ...string) heldTexts {
	h := heldTexts{}
	memory := []string{}
	for _, s := range l {
		text := holdText(s, "behind it")
		h.texts = append(h.texts, text)
		memory = append(memory, text.text)
	}
	memory = append(memory, behind...)
	h.list, h.whole = memory[:len(l)], slices.Clone(memory)
	return h
}

func (h heldTexts) stay(t *testing.T) {
	t.Helper()
	if !slices.Equal(h.list[:len(h.whole)], h.whole) {
		t.Fatalf("written into %q %q", h.list[:len(h.whole)], h.whole)
	}
	for _, text := range h.texts {
		text.stays(t)
	}
}

func TestPromise19JoinMemory(t *testing.T) {
	lists := append(notJoined(), anyBodies())
	for n := 1; n <= 160; n++ {
		lists = append(lists, slowSplit(textOf(n, n)))
	}
	for _, l := range lists {
		for _, behind := range []string{"", "a", textOf(16, 16)} {
			h := holdTexts(l, behind, behind)
			want, wantOk := impl.JoinBody(slices.Clone(l))
			got, ok := impl.JoinBody(h.list)
			if got != want || ok != wantOk {
				t.Errorf("JoinBody %q: %q %v", l, got, ok)
			}
			areNew(t, []string{got}, h.texts...)
			h.stay(t)
		}
	}
}

func TestPromise19ReadMemory(t *testing.T) {
	lists := [][]string{nil, {"no sector"}, framesOf(bodiesOf(0)), framesOf(bodiesOf(16, 3, 16)), anySectors()}
	for n := 1; n <= 160; n++ {
		lists = append(lists, slowSectors(1, 5, 7, textOf(n, n)))
	}
	for _, l := range lists {
		next := slowFrame(impl.Frame{Kind: 1, At: 5 + len(l)%100, Epoch: 7, Body: "next"})
		h := holdTexts(l, next, "")
		for _, least := range []int{7, 8} {
			want, wantCode, wantOk := impl.ReadAll(slices.Clone(l), 1, 5, least)
			got, code, ok := impl.ReadAll(h.list, 1, 5, least)
			if got != want || code != wantCode || ok != wantOk {
				t.Errorf("ReadAll %x: %q %d %v", l, got, code, ok)
			}
			areNew(t, []string{got}, h.texts...)
			h.stay(t)
		}
	}
}
