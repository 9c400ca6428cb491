package tests

import (
	"slices"
	"strings"
	"testing"

	"loop.example/g00405/impl"
)

func anyCutTexts() []string {
	return slices.Concat(anyTexts(), otherTexts(), rightTexts()[:10], tooLongTexts()[:12], textsOf(4), textsOf(5), textsOf(20), textsOf(21), textsOf(300))
}

func anyTextLists() [][]string {
	return append(slices.Concat(textLists()[:80], notTextLists()), anyTexts(), anyCutTexts(), textsAdded(80, 300), textsAdded(81, 300), textsAdded(80, 301))
}

func anyRecipes() []impl.Recipe {
	l := append(notRecipes(), impl.Recipe{}, impl.Recipe{Use: [][]int{nil}}, impl.Recipe{Chunks: chunkList(600), Use: [][]int{{599}}}, spoiltRecipe(func(r *impl.Recipe) {}))
	for _, texts := range textLists()[:80] {
		r, _ := slowDedup(texts)
		l = append(l, r)
	}
	for seed := range 200 {
		l = append(l, recipesOf(seed))
	}
	return l
}

func TestPromise19FingersOfAnything(t *testing.T) {
	for _, s := range anyCutTexts() {
		f, ok := impl.FingerOf(s)
		if ok != (len(s) == 4) || !ok && f != 0 || ok && f != slowFinger(s) {
			t.Errorf("FingerOf %q: %d %v", s, f, ok)
		}
	}
	numbers := slices.Concat(anyNumbers(), notBytes(), notFingers(), []int{255, 8190})
	for _, finger := range numbers {
		for _, out := range numbers {
			for _, in := range numbers {
				f, ok := impl.RollOn(finger, out, in)
				good := finger >= 0 && finger <= 8190 && out >= 0 && out <= 255 && in >= 0 && in <= 255
				if ok != good || !ok && f != 0 || f < 0 || f > 8190 {
					t.Fatal("RollOn", finger, out, in, f, ok)
				}
			}
		}
	}
}

func TestPromise19CutsOfAnything(t *testing.T) {
	for _, s := range anyCutTexts() {
		if len(s) <= 300 {
			isCut(t, s, slowCuts(s)...)
			continue
		}
		cuts, ok := impl.CutsOf(s)
		chunks, is := impl.ChunksOf(s)
		if len(cuts) != 0 || ok || len(chunks) != 0 || is {
			t.Errorf("%d bytes are cut: %v %v %q %v", len(s), cuts, ok, chunks, is)
		}
	}
}

func TestPromise19TextListsOfAnything(t *testing.T) {
	for _, l := range anyTextLists() {
		all := strings.Join(l, "")
		joined, ok := impl.JoinChunks(l)
		if ok != (len(l) <= 80 && len(all) <= 300) || !ok && joined != "" || ok && joined != all {
			t.Errorf("JoinChunks %q: %q %v", l, joined, ok)
		}
		want, wantOk := slowDedup(l)
		if !wantOk {
			want, all = impl.Recipe{}, ""
		}
		if r, ok := impl.DedupAll(l); !sameRecipe(r, want) || ok != wantOk {
			t.Errorf("DedupAll %q: %#v %v", l, r, ok)
		}
		if n, kept, ok := impl.SavedBy(l); n != len(all) || kept != len(strings.Join(want.Chunks, "")) || ok != wantOk {
			t.Errorf("SavedBy %q: %d %d %v", l, n, kept, ok)
		}
	}
}

func TestPromise19RecipesOfAnything(t *testing.T) {
	for _, r := range anyRecipes() {
		for _, k := range append(anyNumbers(), 5, 6) {
			want, wantOk := slowRebuild(r, k)
			if s, ok := impl.RebuildText(r, k); s != want || ok != wantOk {
				t.Errorf("RebuildText %#v %d: %q %v, want %q %v", r, k, s, ok, want, wantOk)
			}
		}
	}
}

func TestPromise19CutMemory(t *testing.T) {
	for _, s := range anyCutTexts() {
		for _, behind := range []string{"\x00", "\xff\x01", rightWindows(1)[0]} {
			h := holdText(s, behind)
			want, wantOk := impl.CutsOf(strings.Clone(s))
			finger, isWindow := impl.FingerOf(strings.Clone(s))
			if f, ok := impl.FingerOf(h.text); f != finger || ok != isWindow {
				t.Fatalf("FingerOf reads behind %q: %d %v", s, f, ok)
			}
			for range 2 {
				cuts, ok := impl.CutsOf(h.text)
				if !slices.Equal(cuts, want) || ok != wantOk {
					t.Fatalf("CutsOf %q: %v %v, want %v", s, cuts, ok, want)
				}
				spoil(cuts)
			}
			h.stays(t)
		}
	}
}

func TestPromise19ChunkMemory(t *testing.T) {
	for _, s := range anyCutTexts() {
		for _, behind := range []string{"\x00", "\xff\x01", rightWindows(1)[0]} {
			h := holdText(s, behind)
			want, wantOk := impl.ChunksOf(strings.Clone(s))
			for range 2 {
				chunks, ok := impl.ChunksOf(h.text)
				if !slices.Equal(chunks, want) || ok != wantOk {
					t.Fatalf("ChunksOf %q: %q %v, want %q", s, chunks, ok, want)
				}
				areNew(t, chunks, h)
				overwrite(chunks, "spoilt")
			}
			h.stays(t)
		}
	}
}

func TestPromise19JoinChunksMemory(t *testing.T) {
	lists := append(anyTextLists(), []string{"ab"}, []string{"", "ab", ""}, []string{textOf(300, 1)}, []string{"\xc3\xa4"})
	for _, l := range lists {
		want, wantOk := impl.JoinChunks(slices.Clone(l))
		for _, behind := range []string{"", "a", textOf(300, 2)} {
			h := holdTexts(l, behind, behind)
			s, ok := impl.JoinChunks(h.list)
			if s != want || ok != wantOk {
				t.Fatalf("JoinChunks reads behind %q: %q %v", l, s, ok)
			}
			areNew(t, []string{s}, h.texts...)
			h.stay(t)
		}
	}
}

// spoilRecipe writes over all memory that a recipe has, list by list, and looks whether the others stay.
func spoilRecipe(t *testing.T, r impl.Recipe) {
	t.Helper()
	chunks := slices.Clone(r.Chunks)
	spoilRows(t, r.Use)
	if !slices.Equal(r.Chunks, chunks) {
		t.Fatal("Use and Chunks share memory")
	}
	overwrite(r.Chunks, "spoilt")
}

func TestPromise19DedupMemory(t *testing.T) {
	for _, l := range anyTextLists() {
		want, wantOk := impl.DedupAll(slices.Clone(l))
		wantAll, wantKept, _ := impl.SavedBy(slices.Clone(l))
		for _, behind := range []string{"", "abc"} {
			h := holdTexts(l, behind, behind)
			for range 2 {
				r, ok := impl.DedupAll(h.list)
				if !sameRecipe(r, want) || ok != wantOk {
					t.Fatalf("DedupAll %q: %#v %v, want %#v", l, r, ok, want)
				}
				areNew(t, r.Chunks, h.texts...)
				spoilRecipe(t, r)
				h.stay(t)
			}
			if all, kept, ok := impl.SavedBy(h.list); all != wantAll || kept != wantKept || ok != wantOk {
				t.Fatalf("SavedBy reads behind %q: %d %d %v", l, all, kept, ok)
			}
			h.stay(t)
		}
	}
}

func TestPromise19RecipeMemory(t *testing.T) {
	for _, r := range anyRecipes() {
		for _, behind := range []int{0, 1, -9} {
			chunks, use := holdTexts(r.Chunks, "behind", ""), holdMatrix(r.Use, behind)
			held := impl.Recipe{Chunks: chunks.list, Use: use.rows}
			for _, k := range []int{-1, 0, 1, 2, 3, 7, 8, len(r.Use) - 1, len(r.Use), len(r.Use) + 1} {
				want, wantOk := slowRebuild(r, k)
				s, ok := impl.RebuildText(held, k)
				if s != want || ok != wantOk {
					t.Fatalf("RebuildText reads behind %#v %d: %q %v, want %q %v", r, k, s, ok, want, wantOk)
				}
				areNew(t, []string{s}, chunks.texts...)
			}
			chunks.stay(t)
			use.stays(t)
		}
	}
}

// A text of one chunk is not that chunk's memory.
func TestPromise19RebuiltOfOneChunk(t *testing.T) {
	for n := 1; n <= 20; n++ {
		chunks := holdTexts([]string{textOf(n, n)}, "behind")
		s, ok := impl.RebuildText(impl.Recipe{Chunks: chunks.list, Use: [][]int{{0}}}, 0)
		if s != textOf(n, n) || !ok {
			t.Errorf("%q %v", s, ok)
		}
		areNew(t, []string{s}, chunks.texts...)
	}
}

// Texts that share memory, and lists that are one, tell what copies of them tell.
func TestPromise19SharedTexts(t *testing.T) {
	whole := holdText(rightTexts()[2], "behind")
	s := whole.text
	texts := []string{s, s, s[4:], s[1:], s[:200], s[100:200], s[:0]}
	want, _ := slowDedup(texts)
	r, ok := impl.DedupAll(texts)
	if !sameRecipe(r, want) || !ok {
		t.Errorf("DedupAll: %#v %v", r, ok)
	}
	areNew(t, r.Chunks, whole)
	spoilRecipe(t, r)
	joined, ok := impl.JoinChunks([]string{s[:100], s[50:150], s[:100]})
	if joined != s[:100]+s[50:150]+s[:100] || !ok {
		t.Errorf("JoinChunks: %q %v", joined, ok)
	}
	whole.stays(t)
	use := []int{1, 0, 1}
	shared := impl.Recipe{Chunks: []string{s[:10], s[5:20]}, Use: [][]int{use, use, use[:2], use[1:]}}
	for k, want := range []string{s[5:20] + s[:10] + s[5:20], s[5:20] + s[:10] + s[5:20], s[5:20] + s[:10], s[:10] + s[5:20]} {
		isRebuilt(t, shared, k, want)
	}
	whole.stays(t)
}
