package tests

import (
	"math"
	"slices"
	"strings"
	"testing"

	"loop.example/g00405/impl"
)

func write(at int, text string) impl.DiskStep {
	return impl.DiskStep{Kind: impl.DkWrite, At: at, Text: text}
}

func rot(at int, mask string) impl.DiskStep {
	return impl.DiskStep{Kind: impl.DkRot, At: at, Text: mask}
}

func crash(kept ...int) impl.DiskStep {
	return impl.DiskStep{Kind: impl.DkCrash, Kept: kept}
}

func sync() impl.DiskStep {
	return impl.DiskStep{Kind: impl.DkSync}
}

func bad(at int) impl.DiskStep {
	return impl.DiskStep{Kind: impl.DkBad, At: at}
}

func heal(at int) impl.DiskStep {
	return impl.DiskStep{Kind: impl.DkHeal, At: at}
}

// goodSteps can each be done on some disk.
func goodSteps() []impl.DiskStep {
	return []impl.DiskStep{
		write(0, "a"), write(1, "bc"), write(0, textOf(28, 1)), write(23, "\x00"), sync(), crash(), crash(0), crash(1), crash(0, 1), rot(0, "\x01"), rot(1, "\x00"),
		rot(0, "\xff\xff"), rot(23, textOf(28, 2)), bad(0), bad(1), bad(23), heal(0), heal(1), heal(23),
	}
}

// badSteps can be done on no disk.
func badSteps() []impl.DiskStep {
	l := []impl.DiskStep{{}, {Text: "a"}, {Kind: 7}, {Kind: -1, Text: "a"}, {Kind: 257, Text: "a"}, {Kind: math.MinInt}, {Kind: math.MaxInt, Text: "a"}}
	for _, n := range []int{29, 30, 255, 256, 257, 5000} {
		l = append(l, write(0, textOf(n, n)), rot(0, textOf(n, n)))
	}
	l = append(l, write(0, ""), rot(0, ""))
	for _, at := range []int{-1, -2, 24, 25, 1 << 32, math.MinInt, math.MaxInt} {
		l = append(l, write(at, "a"), rot(at, "\x01"), bad(at), heal(at))
	}
	return append(l, needlessSteps()...)
}

// needlessSteps have a field that they have no use for.
func needlessSteps() []impl.DiskStep {
	l := []impl.DiskStep{}
	for _, kept := range [][]int{{0}, {1}, {-1}, {0, 1}, make([]int, 3)} {
		l = append(l, impl.DiskStep{Kind: 1, Text: "a", Kept: kept}, impl.DiskStep{Kind: 2, Kept: kept}, impl.DiskStep{Kind: 4, Text: "a", Kept: kept}, impl.DiskStep{Kind: 5, Kept: kept}, impl.DiskStep{Kind: 6, Kept: kept})
	}
	for _, text := range []string{"a", "\x00", textOf(28, 3), textOf(29, 3)} {
		for _, kind := range []int{2, 3, 5, 6} {
			l = append(l, impl.DiskStep{Kind: kind, Text: text})
		}
	}
	for _, at := range []int{1, -1, 23, 24, math.MinInt, math.MaxInt} {
		l = append(l, impl.DiskStep{Kind: 2, At: at}, impl.DiskStep{Kind: 3, At: at})
	}
	return l
}

func TestPromise7StepsThatAreNot(t *testing.T) {
	for _, d := range someDisks() {
		for _, x := range badSteps() {
			if next, ok := impl.StepDisk(d, x); !isNoDisk(next) || ok {
				t.Errorf("%#v %+v: %#v %v", d, x, next, ok)
			}
		}
	}
}

func TestPromise7StepsOfAllDisks(t *testing.T) {
	for _, d := range someDisks() {
		for _, x := range goodSteps() {
			checkStep(t, d, x)
		}
		for at := -1; at <= len(d.Plate); at++ {
			for _, n := range []int{0, 1, 2, 27, 28, 29} {
				checkStep(t, d, write(at, textOf(n, at)))
			}
			checkStep(t, d, bad(at))
			checkStep(t, d, heal(at))
		}
		// An empty list is no Kept.
		checkStep(t, d, impl.DiskStep{Kind: impl.DkSync, Kept: []int{}})
	}
}

func TestPromise7Writes(t *testing.T) {
	for _, n := range []int{1, 2, 24} {
		for at := range n {
			for long := 1; long <= 28; long++ {
				text := textOf(long, at)
				d, done, ok := impl.PlayDisk(n, []impl.DiskStep{write(at, text)})
				if !ok || !done[0] || d.Held[at] != text || d.Plate[at] != "" {
					t.Fatalf("%d %d %d: %#v %v", n, at, long, d, ok)
				}
				if s, ok := impl.ReadSector(d, at); s != text || !ok {
					t.Fatalf("%d %d: %#v %v", n, at, s, ok)
				}
				if l, ok := impl.HeldIn(d); !slices.Equal(l, []int{at}) || !ok {
					t.Fatal(n, at, l, ok)
				}
			}
		}
	}
}

// plays asks which steps are done, and for the sectors in the end.
func plays(t *testing.T, l []impl.DiskStep, done []bool, want impl.Disk) {
	t.Helper()
	d, got, ok := impl.PlayDisk(len(want.Plate), l)
	if !sameDisk(d, want) || !slices.Equal(got, done) || !ok {
		t.Errorf("%+v: %#v %v %v", l, d, got, ok)
	}
}

func TestPromise7WrittenTwice(t *testing.T) {
	yes := []bool{true, true, true, true, true}
	twice := []impl.DiskStep{write(0, "long text"), write(0, "b")}
	plays(t, twice, yes[:2], impl.Disk{Plate: []string{""}, Held: []string{"b"}, Bad: []bool{false}})
	plays(t, append(slices.Clone(twice), sync()), yes[:3], impl.Disk{Plate: []string{"b"}, Held: []string{""}, Bad: []bool{false}})
	plays(t, append(slices.Clone(twice), crash(0)), yes[:3], impl.Disk{Plate: []string{"b"}, Held: []string{""}, Bad: []bool{false}})
	plays(t, append(slices.Clone(twice), crash()), yes[:3], emptyDisk(1))
	synced := append([]impl.DiskStep{write(0, "old"), sync()}, twice...)
	plays(t, append(synced, crash()), yes, impl.Disk{Plate: []string{"old"}, Held: []string{""}, Bad: []bool{false}})
}

func TestPromise7BadAndHealed(t *testing.T) {
	l := []impl.DiskStep{
		write(0, "a"), write(1, "b"), sync(), write(0, "lost"), write(1, "held"), bad(0), write(0, "no"), crash(0), bad(0), sync(), heal(1), heal(0), heal(0), crash(0), write(0, "c"),
	}
	done := []bool{true, true, true, true, true, true, false, false, true, true, false, true, false, false, true}
	wants := map[int]impl.Disk{
		5:  {Plate: []string{"a", "b"}, Held: []string{"lost", "held"}, Bad: []bool{false, false}},
		6:  {Plate: []string{"a", "b"}, Held: []string{"", "held"}, Bad: []bool{true, false}},
		9:  {Plate: []string{"a", "b"}, Held: []string{"", "held"}, Bad: []bool{true, false}},
		10: {Plate: []string{"a", "held"}, Held: []string{"", ""}, Bad: []bool{true, false}},
		12: {Plate: []string{"", "held"}, Held: []string{"", ""}, Bad: []bool{false, false}},
		15: {Plate: []string{"", "held"}, Held: []string{"c", ""}, Bad: []bool{false, false}},
	}
	for n, want := range wants {
		plays(t, l[:n], done[:n], want)
		if _, ok := impl.ReadSector(want, 0); ok == want.Bad[0] {
			t.Error(n, ok)
		}
	}
}

func TestPromise7Rot(t *testing.T) {
	for long := range 29 {
		d := emptyDisk(3)
		d.Plate[0], d.Plate[1], d.Plate[2] = textOf(28, 1), textOf(long, 2), textOf(28, 3)
		for n := range 31 {
			for _, mask := range textsOf(n) {
				checkStep(t, d, rot(1, mask))
				rotten, ok := impl.StepDisk(d, rot(1, mask))
				if ok != (n >= 1 && n <= long) {
					t.Fatal(long, n, ok)
				}
				if back, ok := impl.StepDisk(rotten, rot(1, mask)); ok && !sameDisk(back, d) {
					t.Fatalf("%#v: %#v", d, back)
				}
			}
		}
		same, ok := impl.StepDisk(d, rot(1, strings.Repeat("\x00", long)))
		if ok != (long > 0) || ok && !sameDisk(same, d) {
			t.Errorf("bytes 0: %#v %#v %v", d, same, ok)
		}
	}
}

// What is Held at another sector does not matter, nor that the sector is Bad.
func TestPromise7RotBesideOthers(t *testing.T) {
	d := impl.Disk{Plate: []string{"ab", "ab", "ab", ""}, Held: []string{"", "held", "", ""}, Bad: []bool{false, false, true, false}}
	for at, want := range []string{"aC", "", "aC", ""} {
		next, ok := impl.StepDisk(d, rot(at, "\x00!"))
		if ok != (want != "") || ok && next.Plate[at] != want {
			t.Errorf("%d: %#v %v", at, next, ok)
		}
		checkStep(t, d, rot(at, "\x00!"))
	}
}

// fewSteps makes every kind of change on a disk of two sectors, and asks for what can't be done.
func fewSteps() []impl.DiskStep {
	return []impl.DiskStep{
		write(0, "ab"), write(0, "c"), write(1, "de"), sync(), crash(), crash(0), crash(1), crash(0, 1), rot(0, "\x01"), rot(0, "\x02\x03"), bad(0), bad(1), heal(0), heal(1),
		write(2, "a"), crash(1, 0), {},
	}
}

// eachPlay goes through all lists of n of some steps.
func eachPlay(n int, of []impl.DiskStep, do func(l []impl.DiskStep)) {
	eachList(n, bitsOf(1<<len(of)-1), func(numbers []int) {
		l := make([]impl.DiskStep, n)
		for k, x := range numbers {
			l[k] = of[x]
		}
		do(l)
	})
}

func TestPromise7EveryFewSteps(t *testing.T) {
	for n := range 5 {
		eachPlay(n, fewSteps(), func(l []impl.DiskStep) { checkPlay(t, 2, l) })
	}
}

// manySteps changes a disk of n sectors, mostly by steps that can be done.
func manySteps(n int, long int, seed int) []impl.DiskStep {
	l := make([]impl.DiskStep, long)
	d := emptyDisk(n)
	for k := range l {
		b := []byte(textOf(4, seed+97*k))
		at, size := int(b[1])%n, int(b[2])%28+1
		switch int(b[0]) % 16 {
		case 0:
			l[k] = sync()
		case 1:
			held := slowHeld(d)
			l[k] = crash(slices.DeleteFunc(held, func(at int) bool { return (at+int(b[3]))%3 == 0 })...)
		case 2, 3:
			l[k] = rot(at, textOf(int(b[2])%4+1, seed))
		case 4:
			l[k] = bad(at)
		case 5, 6:
			l[k] = heal(at)
		case 7:
			l[k] = impl.DiskStep{Kind: int(b[1]) % 9, At: int(b[2])%30 - 2, Text: textOf(int(b[3])%31, seed), Kept: []int{0}[:b[3]%2]}
		default:
			l[k] = write(at, textOf(size, seed))
		}
		if next, ok := slowStep(d, l[k]); ok {
			d = next
		}
	}
	return l
}

func TestPromise7LongPlays(t *testing.T) {
	for _, n := range []int{1, 2, 3, 5, 23, 24} {
		for seed := range 200 {
			checkPlay(t, n, manySteps(n, 80, seed))
		}
	}
}

func TestPromise7HowManySteps(t *testing.T) {
	for _, n := range []int{1, 24} {
		for long := range 81 {
			checkPlay(t, n, manySteps(n, long, long))
			checkPlay(t, n, slices.Repeat([]impl.DiskStep{write(0, "a")}, long))
		}
		for _, long := range []int{81, 82, 160, 5000} {
			for _, l := range [][]impl.DiskStep{make([]impl.DiskStep, long), slices.Repeat([]impl.DiskStep{sync()}, long)} {
				if d, done, ok := impl.PlayDisk(n, l); !isNoDisk(d) || len(done) != 0 || ok {
					t.Errorf("%d %d: %#v %v %v", n, long, d, done, ok)
				}
			}
		}
		if d, done, ok := impl.PlayDisk(n, nil); !sameDisk(d, emptyDisk(n)) || len(done) != 0 || !ok {
			t.Errorf("%d: %#v %v %v", n, d, done, ok)
		}
	}
	for _, n := range notSectorCounts() {
		if d, done, ok := impl.PlayDisk(n, goodSteps()); !isNoDisk(d) || len(done) != 0 || ok {
			t.Errorf("%d: %#v %v %v", n, d, done, ok)
		}
	}
}

// A step that can't be done leaves the disk as it was for those behind it.
func TestPromise7StepsThatAreRefused(t *testing.T) {
	for _, x := range badSteps() {
		l := []impl.DiskStep{write(0, "a"), x, write(1, "b"), sync(), x, write(1, "c"), x}
		want := impl.Disk{Plate: []string{"a", "b"}, Held: []string{"", "c"}, Bad: []bool{false, false}}
		plays(t, l, []bool{true, false, true, true, false, true, false}, want)
	}
}
