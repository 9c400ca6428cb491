package tests

import (
	"slices"
	"testing"

	"loop.example/g00405/impl"
)

func decodes(t *testing.T, word []int, wrong int, want []int, unlike int) {
	t.Helper()
	if w, n, ok := impl.DecodeWord(word, wrong); !ok || n != unlike || !slices.Equal(w, want) {
		t.Fatal(word, wrong, w, n, ok, want, unlike)
	}
}

func decodesAsSlow(t *testing.T, word []int, wrong int) {
	t.Helper()
	want, unlike, good := slowDecode(word, wrong)
	if w, n, ok := impl.DecodeWord(word, wrong); ok != good || n != unlike || !slices.Equal(w, want) {
		t.Fatal(word, wrong, w, n, ok, want, unlike, good)
	}
}

func TestPromise4NothingWrong(t *testing.T) {
	eachWord(func(wrong int, long int) {
		for _, message := range messagesOf(long - 2*wrong) {
			word := slowWord(message, wrong)
			decodes(t, word, wrong, word, 0)
		}
	})
}

// One wrong byte is put right at each place, whatever it became.
func TestPromise4OneByteWrong(t *testing.T) {
	eachWord(func(wrong int, long int) {
		word := slowWord(polyOf(long-2*wrong, long), wrong)
		for p := range word {
			for value := 1; value < 256; value += 1 + long/3 {
				decodes(t, changedAt(word, []int{p}, []int{value}), wrong, word, 1)
			}
		}
	})
}

// So many wrong bytes, or fewer, are put right at any places: among the checks, in the message, at both ends.
func TestPromise4SoManyBytesWrong(t *testing.T) {
	for wrong := 1; wrong <= 3; wrong++ {
		for _, long := range []int{2*wrong + 1, 2*wrong + 2, 13, 24} {
			for n := 1; n <= wrong; n++ {
				for i, places := range placeSets(long, n) {
					for _, message := range [][]int{make([]int, long-2*wrong), polyOf(long-2*wrong, i)} {
						word := slowWord(message, wrong)
						decodes(t, changedAt(word, places, valuesOf(n, i)), wrong, word, n)
						decodes(t, changedAt(word, places, []int{1, 1, 1}), wrong, word, n)
					}
				}
			}
		}
	}
}

// Bytes may be wrong by alike values, by ones that take each other out of a syndrome, and by values that leave noughts.
func TestPromise4WrongBytesThatHideEachOther(t *testing.T) {
	for _, places := range placeSets(9, 3) {
		eachList(3, []int{1, 2, 3, 4, 6, 255}, func(values []int) {
			word := slowWord([]int{9, 0, 7}, 3)
			decodes(t, changedAt(word, places, values), 3, word, 3)
		})
	}
	for _, places := range placeSets(7, 2) {
		eachList(2, []int{1, 2, 3, 4, 6, 8, 16, 29, 255}, func(values []int) {
			word := slowWord([]int{5, 1, 200}, 2)
			decodes(t, changedAt(word, places, values), 2, word, 2)
		})
	}
}

// The words of wrong 1 with any checks are put right, or not, as a search tells.
func TestPromise4AllChecksOfOneWrong(t *testing.T) {
	for _, long := range []int{3, 4, 24} {
		eachList(2, valuesAndNought(400/long), func(checks []int) {
			decodesAsSlow(t, append(slices.Clone(checks), make([]int, long-2)...), 1)
		})
	}
}

// valuesAndNought has at most so many unlike elements, 0 among them.
func valuesAndNought(n int) []int {
	l := []int{0}
	for a := 1; a < 256 && len(l) < n; a++ {
		l = append(l, a*73%255+1)
	}
	return l
}

// One byte more is wrong: the word that is told is another one, near enough, or there is none.
func TestPromise4OneByteMoreWrong(t *testing.T) {
	for wrong := 1; wrong <= 3; wrong++ {
		for _, long := range []int{2*wrong + 1, 2*wrong + 2, 11} {
			word := slowWord(polyOf(long-2*wrong, 5), wrong)
			for i, places := range placeSets(long, wrong+1) {
				if len(places)*i%3 == 0 || long < 11 {
					decodesAsSlow(t, changedAt(word, places, valuesOf(wrong+1, i)), wrong)
				}
			}
		}
	}
	if w, n, ok := impl.DecodeWord([]int{1, 1, 0}, 1); len(w) != 0 || n != 0 || ok {
		t.Error(w, n, ok)
	}
}

// A generator is a word with one element more than it has checks, none of them 0: with wrong and one of them it is nearer to it than to noughts.
func TestPromise4TheNearestWordIsTold(t *testing.T) {
	for wrong := 1; wrong <= 3; wrong++ {
		generator, _ := impl.GeneratorOf(wrong)
		for before := 0; before+len(generator) <= 24; before++ {
			word := make([]int, 24)
			copy(word[before:], generator)
			for _, places := range placeSets(len(generator), wrong) {
				spoilt := slices.Clone(word)
				for _, p := range places {
					spoilt[before+p] = 0
				}
				decodes(t, spoilt, wrong, word, wrong)
			}
			for _, places := range placeSets(len(generator), wrong+1) {
				spoilt := slices.Clone(word)
				for _, p := range places {
					spoilt[before+p] = 0
				}
				decodes(t, spoilt, wrong, make([]int, 24), wrong)
			}
		}
	}
}

// A rule may have just the roots that it must have and yet be told by no wrong bytes: it is longer than its degree.
func TestPromise4RulesThatAreLongerThanTheirDegree(t *testing.T) {
	seen := 0
	check := func(syndromes []int) {
		wrong := len(syndromes) / 2
		c, long := slowLocator(syndromes)
		if len(c)-1 == long || len(c) == 1 {
			return
		}
		word := wordWith(append(make([]int, 2*wrong), 0, 0, 0), syndromes)
		if w, n, ok := impl.DecodeWord(word, wrong); len(w) != 0 || n != 0 || ok {
			t.Fatal(word, wrong, w, n, ok)
		}
		seen++
	}
	eachList(4, []int{0, 1, 2, 3, 4, 8, 16, 32}, check)
	eachList(6, []int{0, 1, 2, 4}, check)
	if seen == 0 {
		t.Error("none of them seen")
	}
}

// A rule may have a root for each of its degrees, all of them places, and yet too many.
func TestPromise4RulesOfTooManyPlaces(t *testing.T) {
	seen := [4]int{}
	for wrong := 2; wrong <= 3; wrong++ {
		for _, places := range placeSets(24, wrong+1) {
			rule := []int{1}
			for _, p := range places {
				rule = slowPolyProduct(rule, []int{1, slowPower(2, p)})
			}
			// Noughts, and what goes on by the rule: of such syndromes this rule is found if it has a nought there.
			if rule[wrong] != 0 {
				continue
			}
			syndromes := append(make([]int, wrong), rule[wrong+1])
			for k := wrong + 1; k < 2*wrong; k++ {
				next := 0
				for i := 1; i <= k && i < len(rule); i++ {
					next ^= slowProduct(rule[i], syndromes[k-i])
				}
				syndromes = append(syndromes, next)
			}
			if c, ok := impl.LocatorOf(syndromes); !ok || !slices.Equal(c, rule) {
				t.Fatal(places, syndromes, c, ok, rule)
			}
			word := wordWith(make([]int, 24), syndromes)
			if w, n, ok := impl.DecodeWord(word, wrong); len(w) != 0 || n != 0 || ok {
				t.Fatal(word, wrong, w, n, ok)
			}
			seen[wrong]++
		}
	}
	if seen[2] == 0 || seen[3] == 0 {
		t.Error("none of them seen", seen)
	}
}

// What a place behind the word's end would tell does not count: a short word has fewer places.
func TestPromise4PlacesBehindTheEnd(t *testing.T) {
	for wrong := 1; wrong <= 3; wrong++ {
		for p := range 30 {
			long := 2*wrong + 2
			var syndromes []int
			for k := range 2 * wrong {
				syndromes = append(syndromes, slowProduct(77, slowPower(2, p*k)))
			}
			word := wordWith(make([]int, long), syndromes)
			w, n, ok := impl.DecodeWord(word, wrong)
			if p < long {
				decodes(t, word, wrong, changedAt(word, []int{p}, []int{77}), 1)
			} else if len(w) != 0 || n != 0 || ok {
				t.Error(p, word, wrong, w, n, ok)
			}
		}
	}
}

func TestPromise4AnyWords(t *testing.T) {
	for wrong := 1; wrong <= 3; wrong++ {
		for _, long := range []int{2*wrong + 1, 2*wrong + 2, 10} {
			for seed := range 60 {
				decodesAsSlow(t, polyOf(long, seed), wrong)
			}
		}
		for seed := range 4 {
			decodesAsSlow(t, valuesOf(24, seed), wrong)
		}
	}
	eachList(4, []int{0, 1, 2, 3, 4}, func(checks []int) {
		decodesAsSlow(t, append(slices.Clone(checks), 0), 2)
	})
	eachList(6, []int{0, 1, 3}, func(checks []int) {
		decodesAsSlow(t, append(slices.Clone(checks), 0), 3)
	})
}

// What is told is a word, no more than so many places away, and to decode it changes nothing.
func TestPromise4WhatIsToldIsAWord(t *testing.T) {
	told := 0
	for wrong := 1; wrong <= 3; wrong++ {
		for seed := range 3000 {
			word := polyOf(2*wrong+1+seed%4, seed)
			w, n, ok := impl.DecodeWord(word, wrong)
			if !ok {
				continue
			}
			told++
			places, _ := impl.WrongPlaces(word, w)
			if is, good := impl.IsWord(w, wrong); !is || !good || n > wrong || n != len(places) {
				t.Fatal(word, wrong, w, n)
			}
			decodes(t, w, wrong, w, 0)
		}
	}
	if told == 0 {
		t.Error("none of them told")
	}
}
