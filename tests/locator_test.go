package tests

import (
	"slices"
	"testing"

	"loop.example/g00405/impl"
)

// slowLocator goes by the chapter's words, on polynomials that are long enough for all; it tells too how long the rule is.
func slowLocator(syndromes []int) ([]int, int) {
	var c, b [16]int
	c[0], b[0] = 1, 1
	long, m, last := 0, 1, 1
	for k := range syndromes {
		d := 0
		for i := 0; i <= long; i++ {
			d ^= slowProduct(c[i], syndromes[k-i])
		}
		if d == 0 {
			m++
			continue
		}
		was := c
		for i := range b {
			if i+m < len(c) {
				c[i+m] ^= slowProduct(slowProduct(d, slowInverse(last)), b[i])
			}
		}
		if 2*long <= k {
			b, long, last, m = was, k+1-long, d, 1
		} else {
			m++
		}
	}
	n := len(c)
	for c[n-1] == 0 {
		n--
	}
	return c[:n], long
}

// eachList goes through all lists of n of some elements.
func eachList(n int, of []int, do func(l []int)) {
	l := make([]int, n)
	var fill func(at int)
	fill = func(at int) {
		if at == n {
			do(l)
			return
		}
		for _, a := range of {
			l[at] = a
			fill(at + 1)
		}
	}
	fill(0)
}

func checkLocator(t *testing.T, syndromes []int) {
	t.Helper()
	want, _ := slowLocator(syndromes)
	if c, ok := impl.LocatorOf(syndromes); !ok || !slices.Equal(c, want) {
		t.Fatal(syndromes, c, ok, want)
	}
}

func TestPromise4KnownLocators(t *testing.T) {
	for _, x := range []struct{ syndromes, want []int }{
		{[]int{0, 0}, []int{1}},
		{[]int{0, 0, 0, 0, 0, 0}, []int{1}},
		{[]int{1, 1}, []int{1, 1}},
		{[]int{10, 20}, []int{1, 2}},
		{[]int{0, 7}, []int{1, 0, 7}},
		{[]int{0, 0, 0, 7}, []int{1, 0, 0, 0, 7}},
		{[]int{0, 0, 0, 0, 0, 9}, []int{1, 0, 0, 0, 0, 0, 9}},
		{[]int{7, 0}, []int{1}},
		{[]int{7, 0, 0, 0}, []int{1}},
		{[]int{7, 0, 0, 0, 0, 0}, []int{1}},
		{[]int{0, 1, 0, 0}, []int{1}},
		{[]int{1, 2, 4, 8}, []int{1, 2}},
		{[]int{1, 1, 1, 1, 1, 1}, []int{1, 1}},
		{[]int{0, 3, 5, 9}, []int{1, 3, 2}}, // by 1 wrong at the places 0 and 1
	} {
		if c, ok := impl.LocatorOf(x.syndromes); !ok || !slices.Equal(c, x.want) {
			t.Error(x.syndromes, c, ok, x.want)
		}
	}
}

// Of two syndromes the rule is told by dividing.
func TestPromise4LocatorsOfAllPairs(t *testing.T) {
	for a := range 256 {
		under := slowInverse(a)
		for b := range 256 {
			want := []int{1, slowProduct(b, under)}
			if a == 0 {
				want = []int{1, 0, b}
			}
			if b == 0 {
				want = []int{1}
			}
			if c, ok := impl.LocatorOf([]int{a, b}); !ok || !slices.Equal(c, want) {
				t.Fatal(a, b, c, ok)
			}
		}
	}
}

func TestPromise4Locators(t *testing.T) {
	eachList(4, []int{0, 1, 2, 3, 7, 142, 255}, func(l []int) { checkLocator(t, l) })
	eachList(6, []int{0, 1, 2, 29}, func(l []int) { checkLocator(t, l) })
	for seed := range 3000 {
		checkLocator(t, polyOf(4, seed))
		checkLocator(t, polyOf(6, seed))
		checkLocator(t, valuesOf(6, seed))
	}
}

// fits asks whether there is a rule so long (a 1 and so many elements) that holds from there on.
func fits(syndromes []int, long int) bool {
	var without, with [][]int
	for k := long; k < len(syndromes); k++ {
		row := slices.Clone(syndromes[k-long : k])
		without = append(without, row)
		with = append(with, append(slices.Clone(row), syndromes[k]))
	}
	return len(without) == 0 || slowRank(without) == slowRank(with)
}

// No shorter rule holds, and this one holds from its length on.
func TestPromise4LocatorsAreTheShortest(t *testing.T) {
	check := func(syndromes []int) {
		c, _ := impl.LocatorOf(syndromes)
		_, long := slowLocator(syndromes)
		if len(c) > long+1 || long > 0 && fits(syndromes, long-1) {
			t.Fatal("not the shortest", syndromes, c, long)
		}
		for k := long; k < len(syndromes); k++ {
			sum := 0
			for i, a := range c {
				sum ^= slowProduct(a, syndromes[k-i])
			}
			if sum != 0 {
				t.Fatal("does not hold", syndromes, c, k)
			}
		}
	}
	eachList(2, []int{0, 1, 2, 3, 255}, check)
	eachList(4, []int{0, 1, 2, 7}, check)
	eachList(6, []int{0, 1, 2}, check)
}

// The rule of a word has a root for each wrong place, inverted, and no other.
func TestPromise4LocatorsTellPlaces(t *testing.T) {
	for wrong := 1; wrong <= 3; wrong++ {
		for n := range wrong + 1 {
			for i, places := range placeSets(24, n) {
				want := []int{1}
				for _, p := range places {
					want = slowPolyProduct(want, []int{1, slowPower(2, p)})
				}
				word := changedAt(make([]int, 24), places, valuesOf(n, i))
				if c, ok := impl.LocatorOf(slowSyndromes(word, wrong)); !ok || !slices.Equal(c, want) {
					t.Fatal(wrong, places, c, ok, want)
				}
			}
		}
	}
}

func TestPromise4WhatAreNoSyndromes(t *testing.T) {
	refused := func(syndromes []int) {
		t.Helper()
		if c, ok := impl.LocatorOf(syndromes); len(c) != 0 || ok {
			t.Error(syndromes, c, ok)
		}
	}
	for n := range 50 {
		if n != 2 && n != 4 && n != 6 {
			refused(make([]int, n))
			refused(valuesOf(n, 1))
		}
	}
	refused(nil)
	for _, n := range []int{2, 4, 6} {
		for at := range n {
			for _, a := range notElements() {
				with, alone := valuesOf(n, 2), make([]int, n)
				with[at], alone[at] = a, a
				refused(with)
				refused(alone)
			}
		}
	}
}
