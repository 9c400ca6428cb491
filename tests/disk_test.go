package tests

import (
	"math"
	"slices"
	"strings"
	"testing"

	"loop.example/g00405/impl"
)

func emptyDisk(n int) impl.Disk {
	return impl.Disk{Plate: make([]string, n), Held: make([]string, n), Bad: make([]bool, n)}
}

func cloneDisk(d impl.Disk) impl.Disk {
	return impl.Disk{Plate: slices.Clone(d.Plate), Held: slices.Clone(d.Held), Bad: slices.Clone(d.Bad)}
}

func sameDisk(a impl.Disk, b impl.Disk) bool {
	return slices.Equal(a.Plate, b.Plate) && slices.Equal(a.Held, b.Held) && slices.Equal(a.Bad, b.Bad)
}

func isNoDisk(d impl.Disk) bool {
	return len(d.Plate) == 0 && len(d.Held) == 0 && len(d.Bad) == 0
}

func isSlowGood(d impl.Disk) bool {
	n := len(d.Plate)
	good := n > 0 && n < 25 && n == len(d.Held) && n == len(d.Bad)
	for k := 0; good && k < n; k++ {
		good = len(d.Plate[k]) < 29 && len(d.Held[k]) < 29 && (d.Held[k] == "" || !d.Bad[k])
	}
	return good
}

// isSlowKept goes through the sectors: kept has to be those of it where something is Held, in their order.
func isSlowKept(d impl.Disk, kept []int) bool {
	l := []int{}
	for k, s := range d.Held {
		if s != "" && slices.Contains(kept, k) {
			l = append(l, k)
		}
	}
	return slices.Equal(l, kept)
}

func slowCrash(d impl.Disk, kept []int) impl.Disk {
	after := emptyDisk(len(d.Plate))
	for k := range d.Plate {
		after.Plate[k], after.Bad[k] = d.Plate[k], d.Bad[k]
		if slices.Contains(kept, k) {
			after.Plate[k] = d.Held[k]
		}
	}
	return after
}

func slowRot(s string, mask string) string {
	for k := range len(mask) {
		s = s[:k] + string([]byte{s[k] ^ mask[k]}) + s[k+1:]
	}
	return s
}

// canSlowStep asks of a good disk whether the step can be done.
func canSlowStep(d impl.Disk, x impl.DiskStep) bool {
	there := x.At >= 0 && x.At < len(d.Plate)
	bare := x.Text == "" && len(x.Kept) == 0
	switch x.Kind {
	case 1:
		return there && !d.Bad[x.At] && len(x.Text) > 0 && len(x.Text) < 29 && len(x.Kept) == 0
	case 2:
		return x.At == 0 && bare
	case 3:
		return x.At == 0 && x.Text == "" && isSlowKept(d, x.Kept)
	case 4:
		return there && d.Held[x.At] == "" && len(x.Text) > 0 && len(x.Text) <= len(d.Plate[x.At]) && len(x.Kept) == 0
	case 5:
		return there && bare
	case 6:
		return there && bare && d.Bad[x.At]
	}
	return false
}

func slowStep(d impl.Disk, x impl.DiskStep) (impl.Disk, bool) {
	if !isSlowGood(d) || !canSlowStep(d, x) {
		return impl.Disk{}, false
	}
	d = cloneDisk(d)
	switch x.Kind {
	case 1:
		d.Held[x.At] = x.Text
	case 2:
		for k, s := range d.Held {
			if s != "" {
				d.Plate[k], d.Held[k] = s, ""
			}
		}
	case 3:
		d = slowCrash(d, x.Kept)
	case 4:
		d.Plate[x.At] = slowRot(d.Plate[x.At], x.Text)
	case 5:
		d.Held[x.At], d.Bad[x.At] = "", true
	case 6:
		d.Plate[x.At], d.Bad[x.At] = "", false
	}
	return d, true
}

func slowPlay(n int, l []impl.DiskStep) (impl.Disk, []bool) {
	d := emptyDisk(n)
	done := make([]bool, len(l))
	for k, x := range l {
		if next, ok := slowStep(d, x); ok {
			d, done[k] = next, true
		}
	}
	return d, done
}

func checkPlay(t *testing.T, n int, l []impl.DiskStep) {
	t.Helper()
	want, wantDone := slowPlay(n, l)
	d, done, ok := impl.PlayDisk(n, l)
	if !sameDisk(d, want) || !slices.Equal(done, wantDone) || !ok {
		t.Fatalf("PlayDisk %d %+v: %#v %v %v, want %#v %v", n, l, d, done, ok, want, wantDone)
	}
}

func checkStep(t *testing.T, d impl.Disk, x impl.DiskStep) {
	t.Helper()
	want, wantOk := slowStep(d, x)
	if got, ok := impl.StepDisk(d, x); !sameDisk(got, want) || ok != wantOk {
		t.Fatalf("StepDisk %#v %+v: %#v %v, want %#v %v", d, x, got, ok, want, wantOk)
	}
}

func notSectorCounts() []int {
	return []int{0, -1, -24, 25, 26, 100, 1 << 20, 1 << 40, math.MinInt, math.MinInt + 1, math.MaxInt, math.MaxInt - 1}
}

func TestPromise7Constants(t *testing.T) {
	if impl.MaxSectors != 24 || impl.MaxDiskSteps != 80 {
		t.Error(impl.MaxSectors, impl.MaxDiskSteps)
	}
	kinds := []int{impl.DkWrite, impl.DkSync, impl.DkCrash, impl.DkRot, impl.DkBad, impl.DkHeal}
	if !slices.Equal(kinds, []int{1, 2, 3, 4, 5, 6}) {
		t.Error(kinds)
	}
}

func TestPromise7NewDisks(t *testing.T) {
	for n := 1; n <= 24; n++ {
		d, ok := impl.NewDisk(n)
		if !sameDisk(d, emptyDisk(n)) || !ok || !impl.GoodDisk(d) {
			t.Error(n, d, ok)
		}
		for at := range n {
			if s, ok := impl.ReadSector(d, at); s != "" || !ok {
				t.Error(n, at, s, ok)
			}
		}
		if l, ok := impl.HeldIn(d); len(l) != 0 || !ok {
			t.Error(n, l, ok)
		}
	}
	for _, n := range notSectorCounts() {
		if d, ok := impl.NewDisk(n); !isNoDisk(d) || ok {
			t.Error(n, d, ok)
		}
		if d, done, ok := impl.PlayDisk(n, nil); !isNoDisk(d) || len(done) != 0 || ok {
			t.Error(n, d, done, ok)
		}
	}
}

// fullDisk has texts of all lengths: every third sector Held something, every fifth one is Bad.
func fullDisk(n int, seed int) impl.Disk {
	d := emptyDisk(n)
	for k := range n {
		d.Plate[k] = textOf((k*5+seed)%29, k+seed)
		if d.Bad[k] = (k+seed)%5 == 4; !d.Bad[k] && (k+seed)%3 == 0 {
			d.Held[k] = textOf(1+(k*11+seed)%28, k-seed)
		}
	}
	return d
}

func someDisks() []impl.Disk {
	sector := strings.Repeat("s", 28)
	l := []impl.Disk{
		emptyDisk(1), emptyDisk(24),
		{Plate: []string{"a"}, Held: []string{""}, Bad: []bool{false}},
		{Plate: []string{""}, Held: []string{"b"}, Bad: []bool{false}},
		{Plate: []string{sector}, Held: []string{sector}, Bad: []bool{false}},
		{Plate: []string{sector}, Held: []string{""}, Bad: []bool{true}},
		{Plate: []string{""}, Held: []string{""}, Bad: []bool{true}},
		{Plate: []string{"a", "\x00"}, Held: []string{"\x00", ""}, Bad: []bool{false, true}},
		{Plate: []string{"same", "same", ""}, Held: []string{"same", "other", "new"}, Bad: []bool{false, false, false}},
		{Plate: []string{"\xc3", "\xff\x00", "a"}, Held: []string{"", "", ""}, Bad: []bool{false, false, true}},
	}
	all := emptyDisk(24)
	for k := range 24 {
		all.Plate[k], all.Held[k] = textOf(28, k), textOf(28, k+100)
	}
	l = append(l, all)
	for n := 1; n <= 24; n++ {
		l = append(l, fullDisk(n, n), fullDisk(n, 2*n+1))
	}
	return l
}

// notLongDisks have lists that are not as long as each other, or too many or too few sectors.
func notLongDisks() []impl.Disk {
	l := []impl.Disk{{}, {Plate: []string{}, Held: []string{}, Bad: []bool{}}, emptyDisk(25), emptyDisk(1000)}
	for a := range 4 {
		for b := range 4 {
			for c := range 4 {
				if a != b || b != c {
					l = append(l, impl.Disk{Plate: make([]string, a), Held: make([]string, b), Bad: make([]bool, c)})
				}
			}
		}
	}
	for _, n := range []int{0, 23, 25} {
		d, e, f := emptyDisk(24), emptyDisk(24), emptyDisk(24)
		d.Plate, e.Held, f.Bad = make([]string, n), make([]string, n), make([]bool, n)
		l = append(l, d, e, f)
	}
	return l
}

func notDisks() []impl.Disk {
	l := notLongDisks()
	for _, n := range []int{1, 2, 24} {
		for _, k := range []int{0, n / 2, n - 1} {
			for _, long := range []int{29, 30, 400, 5000} {
				d, e := emptyDisk(n), emptyDisk(n)
				d.Plate[k], e.Held[k] = textOf(long, k), textOf(long, k)
				f := cloneDisk(d)
				f.Bad[k] = true
				l = append(l, d, e, f)
			}
			for _, s := range []string{"a", "\x00", textOf(28, k)} {
				d := emptyDisk(n)
				d.Held[k], d.Bad[k] = s, true
				l = append(l, d)
			}
		}
	}
	return l
}

func TestPromise7GoodDisks(t *testing.T) {
	for _, d := range someDisks() {
		if !impl.GoodDisk(d) || !isSlowGood(d) {
			t.Errorf("not good %#v", d)
		}
	}
	for _, d := range notDisks() {
		if impl.GoodDisk(d) || isSlowGood(d) {
			t.Errorf("good %#v", d)
		}
	}
}

func TestPromise7DisksThatAreNot(t *testing.T) {
	for _, d := range notDisks() {
		for _, at := range []int{0, 1, -1, 23, 24} {
			if s, ok := impl.ReadSector(d, at); s != "" || ok {
				t.Errorf("ReadSector %#v %d: %#v %v", d, at, s, ok)
			}
		}
		if l, ok := impl.HeldIn(d); len(l) != 0 || ok {
			t.Errorf("HeldIn %#v: %v %v", d, l, ok)
		}
		for _, kept := range [][]int{nil, {0}, {1}} {
			if after, ok := impl.AfterCrash(d, kept); !isNoDisk(after) || ok {
				t.Errorf("AfterCrash %#v %v: %#v %v", d, kept, after, ok)
			}
		}
		for _, x := range goodSteps() {
			if next, ok := impl.StepDisk(d, x); !isNoDisk(next) || ok {
				t.Errorf("StepDisk %#v %+v: %#v %v", d, x, next, ok)
			}
		}
	}
}

func TestPromise7SectorsRead(t *testing.T) {
	for _, d := range someDisks() {
		for at := range d.Plate {
			want := d.Held[at]
			if want == "" {
				want = d.Plate[at]
			}
			if d.Bad[at] {
				want = ""
			}
			if s, ok := impl.ReadSector(d, at); s != want || ok == d.Bad[at] {
				t.Errorf("%#v %d: %#v %v", d, at, s, ok)
			}
		}
		n := len(d.Plate)
		for _, at := range []int{-1, n, n + 1, -n, 1 << 32, math.MinInt, math.MaxInt} {
			if s, ok := impl.ReadSector(d, at); s != "" || ok {
				t.Errorf("%#v %d: %#v %v", d, at, s, ok)
			}
		}
	}
}

func slowHeld(d impl.Disk) []int {
	l := []int{}
	for k := len(d.Held) - 1; k >= 0; k-- {
		if len(d.Held[k]) > 0 {
			l = slices.Insert(l, 0, k)
		}
	}
	return l
}

func TestPromise7WhereSomethingIsHeld(t *testing.T) {
	for _, d := range someDisks() {
		if l, ok := impl.HeldIn(d); !slices.Equal(l, slowHeld(d)) || !ok {
			t.Errorf("%#v: %v %v", d, l, ok)
		}
	}
}

// someKept has sets of the places: none, all, each alone, all but each, every second one.
func someKept(places []int) [][]int {
	l := [][]int{nil, {}, places}
	second := []int{}
	for k := range places {
		l = append(l, places[k:k+1], slices.Delete(slices.Clone(places), k, k+1))
		if k%2 == 1 {
			second = append(second, places[k])
		}
	}
	return append(l, second)
}

func TestPromise7Crashes(t *testing.T) {
	for _, d := range someDisks() {
		for _, kept := range someKept(slowHeld(d)) {
			want := slowCrash(d, kept)
			if after, ok := impl.AfterCrash(d, kept); !sameDisk(after, want) || !ok {
				t.Errorf("AfterCrash %#v %v: %#v %v", d, kept, after, ok)
			}
			checkStep(t, d, impl.DiskStep{Kind: impl.DkCrash, Kept: kept})
		}
	}
}

// notKept are no places where something is Held, or not rising.
func notKept(d impl.Disk) [][]int {
	n := len(d.Plate)
	held := slowHeld(d)
	l := [][]int{{-1}, {n}, {n + 1}, {math.MinInt}, {math.MaxInt}, append(slices.Clone(held), n), append([]int{-1}, held...), append(slices.Clone(held), held...), make([]int, 100)}
	for k := range n {
		l = append(l, []int{k, k})
		if d.Held[k] == "" {
			l = append(l, []int{k}, slices.Sorted(slices.Values(append(slices.Clone(held), k))))
		}
	}
	for k := 1; k < len(held); k++ {
		l = append(l, []int{held[k], held[k-1]}, []int{held[k-1], held[k], held[k]}, []int{held[k], held[0], held[k]})
		swapped := slices.Clone(held)
		swapped[k], swapped[k-1] = swapped[k-1], swapped[k]
		l = append(l, swapped)
	}
	return slices.DeleteFunc(l, func(kept []int) bool { return len(kept) == 0 })
}

func TestPromise7KeptThatIsNot(t *testing.T) {
	for _, d := range someDisks() {
		for _, kept := range notKept(d) {
			if after, ok := impl.AfterCrash(d, kept); !isNoDisk(after) || ok {
				t.Errorf("AfterCrash %#v %v: %#v %v", d, kept, after, ok)
			}
			if after, ok := impl.StepDisk(d, impl.DiskStep{Kind: impl.DkCrash, Kept: kept}); !isNoDisk(after) || ok {
				t.Errorf("StepDisk %#v %v: %#v %v", d, kept, after, ok)
			}
		}
	}
}

// Every set of numbers near a small disk's, in every order.
func TestPromise7EveryKept(t *testing.T) {
	d := impl.Disk{Plate: []string{"a", "b", "c", ""}, Held: []string{"new", "", "d", "e"}, Bad: make([]bool, 4)}
	for n := range 5 {
		eachList(n, []int{-1, 0, 1, 2, 3, 4}, func(kept []int) {
			checkStep(t, d, impl.DiskStep{Kind: impl.DkCrash, Kept: kept})
			want, wantOk := slowStep(d, impl.DiskStep{Kind: 3, Kept: kept})
			if after, ok := impl.AfterCrash(d, kept); !sameDisk(after, want) || ok != wantOk {
				t.Fatalf("AfterCrash %v: %#v %v", kept, after, ok)
			}
		})
	}
}
