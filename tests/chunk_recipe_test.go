package tests

import (
	"math"
	"slices"
	"strings"
	"testing"

	"loop.example/g00405/impl"
)

func sameRecipe(a impl.Recipe, b impl.Recipe) bool {
	return slices.Equal(a.Chunks, b.Chunks) && sameMatrix(a.Use, b.Use)
}

func isNoRecipe(r impl.Recipe) bool {
	return len(r.Chunks) == 0 && len(r.Use) == 0
}

func areSlowTexts(texts []string) bool {
	return len(texts) <= 8 && !slices.ContainsFunc(texts, func(s string) bool { return len(s) > 300 })
}

func slowDedup(texts []string) (impl.Recipe, bool) {
	r := impl.Recipe{}
	if !areSlowTexts(texts) {
		return r, false
	}
	for _, s := range texts {
		use := []int{}
		for _, chunk := range slowChunks(s) {
			if !slices.Contains(r.Chunks, chunk) {
				r.Chunks = append(r.Chunks, chunk)
			}
			use = append(use, slices.Index(r.Chunks, chunk))
		}
		r.Use = append(r.Use, use)
	}
	return r, true
}

func isSlowRecipe(r impl.Recipe) bool {
	if len(r.Use) > 8 || len(r.Chunks) > 600 {
		return false
	}
	for k, chunk := range r.Chunks {
		if len(chunk) < 1 || len(chunk) > 20 || slices.Index(r.Chunks, chunk) != k {
			return false
		}
	}
	for _, use := range r.Use {
		if len(use) > 80 || len(use) > 0 && (slices.Min(use) < 0 || slices.Max(use) >= len(r.Chunks)) {
			return false
		}
	}
	return true
}

func slowRebuild(r impl.Recipe, k int) (string, bool) {
	if !isSlowRecipe(r) || k < 0 || k >= len(r.Use) {
		return "", false
	}
	s := ""
	for _, n := range r.Use[k] {
		s += r.Chunks[n]
	}
	if len(s) > 300 {
		return "", false
	}
	return s, true
}

func isRebuilt(t *testing.T, r impl.Recipe, k int, want string) {
	t.Helper()
	if s, ok := impl.RebuildText(r, k); s != want || !ok {
		t.Errorf("RebuildText %#v %d: %q %v, want %q", r, k, s, ok, want)
	}
}

func refusedRecipe(t *testing.T, r impl.Recipe, k int) {
	t.Helper()
	if s, ok := impl.RebuildText(r, k); s != "" || ok {
		t.Errorf("RebuildText %#v %d: %q %v", r, k, s, ok)
	}
}

func isDeduped(t *testing.T, texts []string, want impl.Recipe) {
	t.Helper()
	r, ok := impl.DedupAll(texts)
	if !sameRecipe(r, want) || !ok {
		t.Errorf("DedupAll %q: %#v %v, want %#v", texts, r, ok, want)
	}
	for k, s := range texts {
		isRebuilt(t, r, k, s)
	}
	refusedRecipe(t, r, len(texts))
	refusedRecipe(t, r, -1)
	all, kept, ok := impl.SavedBy(texts)
	if all != len(strings.Join(texts, "")) || kept != len(strings.Join(want.Chunks, "")) || !ok {
		t.Errorf("SavedBy %q: %d %d %v", texts, all, kept, ok)
	}
}

// textLists have chunks that are alike in one text and in several of them.
func textLists() [][]string {
	plain, right := plainTexts()[0], rightTexts()[2]
	l := [][]string{nil, {}, {""}, {"", ""}, make([]string, 8), {"", "a", "", "a"}, {"abc", "abc"}, {"a", "b", "a"}, {strings.Repeat("\x00", 300)}, {strings.Repeat("\x00", 299), strings.Repeat("\x00", 300)}}
	l = append(l, []string{plain, plain[60:], plain[:120] + "x" + plain[121:]}, []string{right, right[4:], right[100:] + right[:100], right[:4]}, []string{quiet(20) + right[:40], right[:40] + quiet(20)})
	for n := range 9 {
		like, unlike, mixed := []string{}, []string{}, []string{}
		for k := range n {
			like = append(like, right[:200])
			unlike = append(unlike, textOf(300, 10*n+k))
			mixed = append(mixed, textOf(7*k, n)+plain[20*k:20*k+100]+right[4*k:4*n+60])
		}
		l = append(l, like, unlike, mixed, otherTexts()[n:n+n], heads()[5*n:6*n])
	}
	for _, s := range cutTexts()[:150] {
		l = append(l, []string{s}, []string{s, "a", s})
	}
	return l
}

func TestPromise9KnownRecipes(t *testing.T) {
	a, b := rightWindows(2)[0], rightWindows(2)[1]
	isDeduped(t, nil, impl.Recipe{})
	isDeduped(t, []string{""}, impl.Recipe{Use: [][]int{{}}})
	isDeduped(t, []string{"", "", ""}, impl.Recipe{Use: [][]int{{}, {}, {}}})
	isDeduped(t, []string{"abc", "abc"}, impl.Recipe{Chunks: []string{"abc"}, Use: [][]int{{0}, {0}}})
	isDeduped(t, []string{"b", "", "a", "b"}, impl.Recipe{Chunks: []string{"b", "a"}, Use: [][]int{{0}, {}, {1}, {0}}})
	isDeduped(t, []string{b + a + b + b + "c", a + "c", a + "d"}, impl.Recipe{Chunks: []string{b, a, "c", "d"}, Use: [][]int{{0, 1, 0, 0, 2}, {1, 2}, {1, 3}}})
	isDeduped(t, []string{strings.Repeat("\x00", 65), "\x00\x00\x00\x00\x00"}, impl.Recipe{Chunks: []string{quiet(20), quiet(5)}, Use: [][]int{{0, 0, 0, 1}, {1}}})
}

func TestPromise9Recipes(t *testing.T) {
	for _, texts := range textLists() {
		want, ok := slowDedup(texts)
		if !ok {
			t.Fatalf("not as said %q", texts)
		}
		isDeduped(t, texts, want)
	}
}

// A text has 75 chunks at most, eight texts 600: so many can be unlike, and so many alike.
func TestPromise9RecipesOfAllChunks(t *testing.T) {
	windows := rightWindows(600)
	unlike, use := make([]string, 8), make([][]int, 8)
	for k := range unlike {
		unlike[k] = strings.Join(windows[75*k:75*k+75], "")
		for n := range 75 {
			use[k] = append(use[k], 75*k+n)
		}
	}
	isDeduped(t, unlike, impl.Recipe{Chunks: windows, Use: use})
	alike := slices.Repeat([]string{strings.Repeat(windows[0], 75)}, 8)
	isDeduped(t, alike, impl.Recipe{Chunks: windows[:1], Use: slices.Repeat([][]int{make([]int, 75)}, 8)})
}

// notTextLists have too many texts, or one that is too long.
func notTextLists() [][]string {
	l := [][]string{make([]string, 9), make([]string, 10), make([]string, 5000), slices.Repeat([]string{"abc"}, 9), slices.Repeat([]string{textOf(300, 1)}, 9)}
	for n := range 9 {
		for k := range n {
			texts := slices.Repeat([]string{"abc"}, n)
			texts[k] = textOf(301, n)
			l = append(l, texts)
		}
	}
	for _, s := range tooLongTexts() {
		l = append(l, []string{s}, []string{"", s})
	}
	return l
}

func TestPromise9TextsThatAreNotAsSaid(t *testing.T) {
	for _, texts := range notTextLists() {
		if r, ok := impl.DedupAll(texts); !isNoRecipe(r) || ok {
			t.Errorf("DedupAll of %d texts: %#v %v", len(texts), r, ok)
		}
		if all, kept, ok := impl.SavedBy(texts); all != 0 || kept != 0 || ok {
			t.Errorf("SavedBy of %d texts: %d %d %v", len(texts), all, kept, ok)
		}
	}
}

func chunkList(n int) []string {
	l := []string{}
	for k := range n {
		l = append(l, string([]byte{byte(k / 256), byte(k % 256)}))
	}
	return l
}

// bigUse has so many numbers of 1 and of 2.
func bigUse(ones int, twos int) []int {
	return append(slices.Repeat([]int{1}, ones), slices.Repeat([]int{2}, twos)...)
}

func TestPromise9RecipesAtTheirBounds(t *testing.T) {
	refusedRecipe(t, impl.Recipe{}, 0)
	refusedRecipe(t, impl.Recipe{Chunks: []string{"a"}}, 0)
	isRebuilt(t, impl.Recipe{Use: [][]int{nil}}, 0, "")
	isRebuilt(t, impl.Recipe{Use: make([][]int, 8)}, 7, "")
	isRebuilt(t, impl.Recipe{Chunks: []string{"a"}, Use: [][]int{{}, {0}}}, 0, "")
	isRebuilt(t, impl.Recipe{Chunks: chunkList(600), Use: [][]int{{599, 0, 258}}}, 0, "\x02\x57\x00\x00\x01\x02")
	isRebuilt(t, impl.Recipe{Chunks: chunkList(600), Use: [][]int{{}}}, 0, "")
	isRebuilt(t, impl.Recipe{Chunks: []string{"never", "a", "too"}, Use: [][]int{{1, 1}}}, 0, "aa")
	isRebuilt(t, impl.Recipe{Chunks: []string{textOf(20, 1), "\xff"}, Use: [][]int{{0, 1, 0}}}, 0, textOf(20, 1)+"\xff"+textOf(20, 1))
	isRebuilt(t, impl.Recipe{Chunks: []string{"b", "a"}, Use: [][]int{{0}, {1}, {1, 0}, {0, 1}}}, 2, "ab")
}

func TestPromise9RebuiltTextsAtTheirBounds(t *testing.T) {
	r := impl.Recipe{Chunks: []string{"x", "abc", "defg", textOf(20, 1)}}
	r.Use = [][]int{bigUse(20, 60), bigUse(19, 61), make([]int, 80), slices.Repeat([]int{3}, 15), append(slices.Repeat([]int{3}, 15), 0), slices.Repeat([]int{3}, 80), {0}}
	isRebuilt(t, r, 0, strings.Repeat("abc", 20)+strings.Repeat("defg", 60))
	refusedRecipe(t, r, 1) // 301 bytes
	isRebuilt(t, r, 2, strings.Repeat("x", 80))
	isRebuilt(t, r, 3, strings.Repeat(textOf(20, 1), 15))
	refusedRecipe(t, r, 4) // 301 bytes
	refusedRecipe(t, r, 5) // 1600 bytes
	isRebuilt(t, r, 6, "x")
	for _, k := range []int{7, 8, -1, -7, 1 << 32, math.MinInt, math.MaxInt} {
		refusedRecipe(t, r, k)
	}
}

// spoiltRecipe hands out a good one of its own.
func spoiltRecipe(spoil func(r *impl.Recipe)) impl.Recipe {
	r := impl.Recipe{Chunks: []string{"ab", "a", "b", "abc", "\x00", textOf(20, 1)}, Use: [][]int{{0, 1, 2}, {}, {5, 4}, {3}}}
	spoil(&r)
	return r
}

// notRecipes have one fault each, also in what no text has a use for.
func notRecipes() []impl.Recipe {
	l := []impl.Recipe{{Use: make([][]int, 9)}, {Use: make([][]int, 5000)}, {Use: [][]int{{0}}}, {Use: [][]int{{}, {-1}}}, {Chunks: chunkList(601), Use: [][]int{{0}}}, {Chunks: chunkList(5000), Use: [][]int{{}}}, {Chunks: append(chunkList(599), "\x00\x00"), Use: [][]int{{0}}}}
	for n := 5; n <= 9; n++ {
		l = append(l, spoiltRecipe(func(r *impl.Recipe) { r.Use = append(r.Use, make([][]int, n)...) }))
	}
	for _, n := range []int{81, 82, 160, 5000} {
		for k := range 4 {
			l = append(l, spoiltRecipe(func(r *impl.Recipe) { r.Use[k] = slices.Repeat([]int{1}, n) }))
		}
	}
	for k := range 6 {
		for _, bad := range []string{"", textOf(21, 1), textOf(300, 1), textOf(301, 1)} {
			l = append(l, spoiltRecipe(func(r *impl.Recipe) { r.Chunks[k] = bad }))
		}
		l = append(l, spoiltRecipe(func(r *impl.Recipe) { r.Chunks = append(r.Chunks, r.Chunks[k]) }))
		l = append(l, spoiltRecipe(func(r *impl.Recipe) { r.Chunks = slices.Insert(r.Chunks, 0, r.Chunks[k]) }))
		l = append(l, spoiltRecipe(func(r *impl.Recipe) { r.Chunks[k] = r.Chunks[(k+1)%6] }))
	}
	for _, bad := range []int{6, 7, 600, -1, -6, 1 << 32, math.MinInt, math.MaxInt} {
		for k := range 4 {
			l = append(l, spoiltRecipe(func(r *impl.Recipe) { r.Use[k] = append(r.Use[k], bad) }))
			l = append(l, spoiltRecipe(func(r *impl.Recipe) { r.Use[k] = slices.Insert(r.Use[k], 0, bad) }))
		}
	}
	return l
}

func TestPromise9RecipesThatAreNotAsSaid(t *testing.T) {
	good := spoiltRecipe(func(r *impl.Recipe) {})
	for k, want := range []string{"abab", "", textOf(20, 1) + "\x00", "abc"} {
		isRebuilt(t, good, k, want)
	}
	for _, r := range notRecipes() {
		if isSlowRecipe(r) {
			t.Fatalf("good %#v", r)
		}
		for k := -1; k < 11; k++ {
			refusedRecipe(t, r, k)
		}
	}
}

// recipesOf has good ones and not: some with like chunks, or with numbers of none.
func recipesOf(seed int) impl.Recipe {
	r, bytes := impl.Recipe{}, textOf(200, seed)
	for k := range int(bytes[0]) % 6 {
		n := 20*k + 1
		r.Chunks = append(r.Chunks, strings.Repeat("ab", 11)[:int(bytes[n])%22])
		if seed%2 == 0 {
			r.Chunks[k] = bytes[n : n+1+int(bytes[n])%20]
		}
	}
	for k := range int(bytes[100]) % 10 {
		use := []int{}
		for _, b := range []byte(bytes[101+k : 101+k+int(bytes[110+k])%40]) {
			use = append(use, int(b)%(len(r.Chunks)+bitOf(seed%5 == 0)+bitOf(len(r.Chunks) == 0)))
		}
		r.Use = append(r.Use, use)
	}
	return r
}

func TestPromise9RecipesOfAllKinds(t *testing.T) {
	told := 0
	for seed := range 3000 {
		r := recipesOf(seed)
		for k := -1; k < 10; k++ {
			want, wantOk := slowRebuild(r, k)
			if s, ok := impl.RebuildText(r, k); s != want || ok != wantOk {
				t.Fatalf("RebuildText %#v %d: %q %v, want %q %v", r, k, s, ok, want, wantOk)
			}
			told += bitOf(wantOk)
		}
	}
	if told < 1000 || told > 20000 {
		t.Error("too few of one kind", told)
	}
}
