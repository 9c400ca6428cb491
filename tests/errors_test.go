package tests

import (
	"math"
	"slices"
	"testing"

	"loop.example/g00405/impl"
)

func notWrongs() []int {
	return []int{0, -1, 4, 5, 24, math.MinInt, math.MaxInt, math.MinInt / 2, math.MaxInt/2 + 2}
}

// eachWord goes through all good numbers of wrong bytes and, for each, all lengths of a word.
func eachWord(do func(wrong int, long int)) {
	for wrong := 1; wrong <= 3; wrong++ {
		for long := 2*wrong + 1; long <= 24; long++ {
			do(wrong, long)
		}
	}
}

func slowValue(p []int, x int) int {
	sum, power := 0, 1
	for _, a := range p {
		sum ^= slowProduct(a, power)
		power = slowProduct(power, x)
	}
	return sum
}

func slowSyndromes(word []int, wrong int) []int {
	var l []int
	for k := range 2 * wrong {
		l = append(l, slowValue(word, slowPower(2, k)))
	}
	return l
}

// slowInverse is a to the 254, as 2 and 4 and so on up to 128.
func slowInverse(a int) int {
	inverse := 1
	for range 7 {
		a = slowProduct(a, a)
		inverse = slowProduct(inverse, a)
	}
	return inverse
}

// slowSolution is Cramer's rule: each value is a determinant divided by another one.
func slowSolution(m [][]int, v []int) []int {
	under := slowInverse(determinant(m))
	solution := make([]int, len(v))
	for k := range v {
		with := copyMatrix(m)
		for i, row := range with {
			row[k] = v[i]
		}
		solution[k] = slowProduct(determinant(with), under)
	}
	return solution
}

// placePowers has in row k what each of the places adds to syndrome k.
func placePowers(places []int) [][]int {
	m := make([][]int, len(places))
	for k := range m {
		for _, p := range places {
			m[k] = append(m[k], slowPower(2, p*k))
		}
	}
	return m
}

// changedAt adds values to a word at some places.
func changedAt(word []int, places []int, values []int) []int {
	changed := slices.Clone(word)
	for i, p := range places {
		changed[p] ^= values[i]
	}
	return changed
}

// slowWord solves for the checks that make all syndromes 0.
func slowWord(message []int, wrong int) []int {
	word := append(make([]int, 2*wrong), message...)
	return wordWith(word, slowSyndromes(word, wrong))
}

// wordWith changes the checks of a word so that its syndromes change by these.
func wordWith(word []int, syndromes []int) []int {
	var checks []int
	for k := range syndromes {
		checks = append(checks, k)
	}
	return changedAt(word, checks, slowSolution(placePowers(checks), syndromes))
}

func areNoughts(l []int) bool {
	return slices.Equal(l, make([]int, len(l)))
}

// slowDecode tries each set of places, the smallest ones first, and solves for what is wrong there.
func slowDecode(word []int, wrong int) ([]int, int, bool) {
	syndromes := slowSyndromes(word, wrong)
	if areNoughts(syndromes) {
		return word, 0, true
	}
	for n := 1; n <= wrong; n++ {
		for _, places := range placeSets(len(word), n) {
			right := changedAt(word, places, slowSolution(placePowers(places), syndromes[:n]))
			if areNoughts(slowSyndromes(right, wrong)) {
				return right, n, true
			}
		}
	}
	return nil, 0, false
}

// placeSets has all sets of n places below an end.
func placeSets(end int, n int) [][]int {
	if n == 0 {
		return [][]int{nil}
	}
	var l [][]int
	for last := n - 1; last < end; last++ {
		for _, places := range placeSets(last, n-1) {
			l = append(l, append(slices.Clone(places), last))
		}
	}
	return l
}

// valuesOf has n elements that are not 0.
func valuesOf(n int, seed int) []int {
	l := make([]int, n)
	for k := range l {
		seed = (seed*1103515245 + 12345) % 2147483648
		l[k] = 1 + seed/65536%255
	}
	return l
}

// messagesOf has messages of n elements: noughts alone, noughts at either end, and others.
func messagesOf(n int) [][]int {
	first, last, all := make([]int, n), make([]int, n), make([]int, n)
	first[0], last[n-1] = 200, 1
	for k := range all {
		all[k] = 255
	}
	return [][]int{make([]int, n), first, last, all, polyOf(n, n), polyOf(n, n+100), valuesOf(n, n)}
}

func TestPromise4Constants(t *testing.T) {
	if impl.MaxWord != 24 || impl.MaxWrong != 3 {
		t.Error(impl.MaxWord, impl.MaxWrong)
	}
}

func TestPromise4Generators(t *testing.T) {
	known := [][]int{{2, 3, 1}, {64, 120, 54, 15, 1}, {38, 227, 32, 218, 1, 63, 1}}
	for i, want := range known {
		wrong := i + 1
		if g, ok := impl.GeneratorOf(wrong); !ok || !slices.Equal(g, want) {
			t.Error(wrong, g, ok)
		}
		product := []int{1}
		for k := range 2 * wrong {
			product = slowPolyProduct(product, []int{slowPower(2, k), 1})
		}
		if !slices.Equal(product, want) {
			t.Error(wrong, product)
		}
	}
	for _, wrong := range notWrongs() {
		if g, ok := impl.GeneratorOf(wrong); len(g) != 0 || ok {
			t.Error(wrong, g, ok)
		}
	}
}

func TestPromise4Encoding(t *testing.T) {
	eachWord(func(wrong int, long int) {
		for _, message := range messagesOf(long - 2*wrong) {
			w, ok := impl.EncodeWord(message, wrong)
			if !ok || !slices.Equal(w, slowWord(message, wrong)) || !slices.Equal(w[2*wrong:], message) {
				t.Error(message, wrong, w, ok)
			}
			checkDivides(t, w, wrong)
		}
	})
	if w, ok := impl.EncodeWord([]int{1}, 3); !ok || !slices.Equal(w, []int{38, 227, 32, 218, 1, 63, 1}) {
		t.Error(w, ok)
	}
}

// checkDivides asks that the generator divides the word's polynomial without a rest.
func checkDivides(t *testing.T, word []int, wrong int) {
	t.Helper()
	p := slices.Clone(word)
	for len(p) > 0 && p[len(p)-1] == 0 {
		p = p[:len(p)-1]
	}
	g, _ := impl.GeneratorOf(wrong)
	if _, rest, ok := impl.DivPoly(p, g); len(rest) != 0 || !ok {
		t.Error("not divided", word, wrong, rest, ok)
	}
}

func TestPromise4EncodingOfWhatIsNotAsSaid(t *testing.T) {
	refused := func(message []int, wrong int) {
		t.Helper()
		if w, ok := impl.EncodeWord(message, wrong); len(w) != 0 || ok {
			t.Error(message, wrong, w, ok)
		}
	}
	for wrong := 1; wrong <= 3; wrong++ {
		for _, n := range []int{0, 25 - 2*wrong, 24, 25, 40, 41, 100} {
			refused(make([]int, n), wrong)
			refused(polyOf(n, 1), wrong)
		}
		refused(nil, wrong)
		for _, a := range notElements() {
			refused([]int{a}, wrong)
			refused([]int{a, 1, 1}, wrong)
			refused([]int{0, 0, a}, wrong)
			refused(append(make([]int, 23-2*wrong), a), wrong)
		}
	}
	for _, wrong := range notWrongs() {
		for n := range 26 {
			refused(polyOf(n, 2), wrong)
		}
	}
}

// notWords has what is no word for so many wrong bytes.
func notWords(wrong int) [][]int {
	l := [][]int{nil, {}, {0}, {1}}
	for _, n := range []int{2*wrong - 1, 2 * wrong, 25, 26, 40, 41, 100} {
		l = append(l, make([]int, n), polyOf(n, 1))
	}
	for _, a := range notElements() {
		for _, n := range []int{2*wrong + 1, 12, 24} {
			for _, at := range []int{0, 2*wrong - 1, 2 * wrong, n - 1} {
				with := polyOf(n, n)
				with[at] = a
				l = append(l, with)
				alone := make([]int, n)
				alone[at] = a
				l = append(l, alone)
			}
		}
	}
	return l
}

func refusedWord(t *testing.T, word []int, wrong int) {
	t.Helper()
	if s, ok := impl.SyndromesOf(word, wrong); len(s) != 0 || ok {
		t.Error("SyndromesOf", word, wrong, s, ok)
	}
	if is, ok := impl.IsWord(word, wrong); is || ok {
		t.Error("IsWord", word, wrong, is, ok)
	}
	if w, n, ok := impl.DecodeWord(word, wrong); len(w) != 0 || n != 0 || ok {
		t.Error("DecodeWord", word, wrong, w, n, ok)
	}
}

func TestPromise4WhatIsNoWord(t *testing.T) {
	for wrong := 1; wrong <= 3; wrong++ {
		for _, word := range notWords(wrong) {
			refusedWord(t, word, wrong)
		}
	}
	for _, wrong := range notWrongs() {
		refusedWord(t, nil, wrong)
		for long := 1; long <= 25; long++ {
			refusedWord(t, make([]int, long), wrong)
			refusedWord(t, polyOf(long, 1), wrong)
		}
	}
}

// A word for one number of wrong bytes may be too short for the next one.
func TestPromise4LengthsOfWords(t *testing.T) {
	for wrong := 1; wrong <= 3; wrong++ {
		for long := range 30 {
			good := long > 2*wrong && long <= 24
			if is, ok := impl.IsWord(make([]int, long), wrong); is != good || ok != good {
				t.Error(long, wrong, is, ok)
			}
		}
	}
}

func TestPromise4Syndromes(t *testing.T) {
	eachWord(func(wrong int, long int) {
		for _, word := range messagesOf(long) {
			want := slowSyndromes(word, wrong)
			if s, ok := impl.SyndromesOf(word, wrong); !ok || !slices.Equal(s, want) {
				t.Error(word, wrong, s, ok, want)
			}
			if is, ok := impl.IsWord(word, wrong); !ok || is != areNoughts(want) {
				t.Error(word, wrong, is, ok)
			}
		}
	})
	if s, ok := impl.SyndromesOf([]int{5, 0, 1}, 1); !ok || !slices.Equal(s, []int{4, 1}) {
		t.Error(s, ok)
	}
}

// Just so many checks make a word of a message: one value at each place.
func TestPromise4OneChangeMakesNoWord(t *testing.T) {
	eachWord(func(wrong int, long int) {
		word := slowWord(polyOf(long-2*wrong, long), wrong)
		if is, ok := impl.IsWord(word, wrong); !is || !ok {
			t.Fatal(word, wrong, is, ok)
		}
		for p := range word {
			for _, value := range []int{1, 2, 128, 255} {
				changed := changedAt(word, []int{p}, []int{value})
				if is, ok := impl.IsWord(changed, wrong); is || !ok {
					t.Error(changed, wrong, is, ok)
				}
			}
		}
	})
}

func TestPromise4WrongPlaces(t *testing.T) {
	for long := range 25 {
		a := valuesOf(long, 1)
		all := make([]int, long)
		for k := range all {
			all[k] = k
		}
		if p, ok := impl.WrongPlaces(a, slices.Clone(a)); len(p) != 0 || !ok {
			t.Error("alike", a, p, ok)
		}
		if p, ok := impl.WrongPlaces(a, make([]int, long)); !slices.Equal(p, all) || !ok {
			t.Error("unlike", a, p, ok)
		}
		for set := range min(1<<long, 2000) {
			places := bitsOf(set * 7919 % (1 << long))
			if p, ok := impl.WrongPlaces(changedAt(a, places, valuesOf(len(places), 2)), a); !slices.Equal(p, places) || !ok {
				t.Error(a, places, p, ok)
			}
		}
	}
	if p, ok := impl.WrongPlaces(nil, []int{}); len(p) != 0 || !ok {
		t.Error(p, ok)
	}
}

// The chapter asks of these lists that they are as long, and of nothing in them.
func TestPromise4WrongPlacesOfAnyNumbers(t *testing.T) {
	if p, ok := impl.WrongPlaces([]int{256, -1, math.MaxInt, 7}, []int{0, -1, math.MinInt, 7}); !slices.Equal(p, []int{0, 2}) || !ok {
		t.Error(p, ok)
	}
}

func TestPromise4WrongPlacesOfListsThatAreNotAsLong(t *testing.T) {
	for long := range 30 {
		for other := range 30 {
			p, ok := impl.WrongPlaces(make([]int, long), valuesOf(other, 1))
			good := long == other && long <= 24
			if ok != good || !good && len(p) != 0 {
				t.Error(long, other, p, ok)
			}
		}
	}
}
