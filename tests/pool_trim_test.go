package tests

import (
	"slices"
	"testing"

	"loop.example/g00405/impl"
)

// slowTrim takes away one branch at a time, and moves down who names what stood behind it.
func slowTrim(p impl.Pool) (impl.Pool, int, bool) {
	if !isSlowPool(p) {
		return impl.Pool{}, 0, false
	}
	x, gone := clonePool(p), 0
	for k := 0; k < len(x.Branches); {
		if isComeTo(x, k) {
			k++
			continue
		}
		x.Branches = slices.Delete(x.Branches, k, k+1)
		moveDown(x.Versions, k)
		for _, branch := range x.Branches {
			if !branch.Leaf {
				moveDown(branch.Kids, k)
			}
		}
		gone++
	}
	return x, gone, true
}

func isComeTo(p impl.Pool, k int) bool {
	return slices.ContainsFunc(p.Versions, func(n int) bool { return n == k || n != -1 && slices.Contains(p.Branches[n].Kids, k) })
}

func moveDown(names []int, behind int) {
	for k, n := range names {
		if n > behind {
			names[k]--
		}
	}
}

func isTrimmed(t *testing.T, p impl.Pool, want impl.Pool, gone int) {
	t.Helper()
	if x, n, ok := impl.TrimPool(p); !samePool(x, want) || n != gone || !ok {
		t.Errorf("TrimPool %v: %v %v %v, want %v %v", p, x, n, ok, want, gone)
	}
}

func TestPromise11KnownTrims(t *testing.T) {
	isTrimmed(t, impl.Pool{}, impl.Pool{}, 0)
	isTrimmed(t, impl.NewPool(), impl.NewPool(), 0)
	isTrimmed(t, poolOf(nil, -1, -1, -1), poolOf(nil, -1, -1, -1), 0)
	p := knownPool()
	isTrimmed(t, p, poolOf(p.Branches[:6], p.Versions...), 1)
	// All goes: without versions, and where none names a branch.
	isTrimmed(t, poolOf(p.Branches), impl.Pool{}, 7)
	isTrimmed(t, poolOf(p.Branches, -1), impl.NewPool(), 7)
	isTrimmed(t, poolOf(p.Branches, -1, -1), poolOf(nil, -1, -1), 7)
	// Nothing goes, all being come to.
	whole := poolOf(p.Branches[:5], 4, 2)
	isTrimmed(t, whole, whole, 0)
	// 40 branches stay, the leaf ahead of each, the one ahead of these, and the first one.
	big, _, _ := slowTrim(manyPool(200, 40))
	isTrimmed(t, manyPool(200, 40), big, 200-40-40-1-1)
}

// What goes is told by name alone, and the names behind it move up.
func TestPromise11NamesBehindATrim(t *testing.T) {
	p := knownPool()
	isTrimmed(t, poolOf(p.Branches, 4), poolOf([]impl.Branch{leafOf(5, 0, 0, 0), stemOf(-1, -1, 0, -1)}, 1), 5)
	isTrimmed(t, poolOf(p.Branches, -1, 5, 4, -1, 5), poolOf([]impl.Branch{leafOf(5, 0, 0, 0), stemOf(-1, -1, 0, -1), stemOf(-1, -1, -1, -1)}, -1, 2, 1, -1, 2), 4)
	isTrimmed(t, poolOf(p.Branches, 5), poolOf([]impl.Branch{stemOf(-1, -1, -1, -1)}, 0), 6)
	isTrimmed(t, poolOf(p.Branches, 2), poolOf([]impl.Branch{leafOf(1, 2, 3, 4), leafOf(0, 0, 0, 9999), stemOf(0, 1, -1, 0)}, 2), 4)
	// A leaf goes, and the branch behind it stays.
	isTrimmed(t, poolOf([]impl.Branch{leafOf(9, 9, 9, 9), stemOf(-1, -1, -1, -1)}, 1), poolOf([]impl.Branch{stemOf(-1, -1, -1, -1)}, 0), 1)
	isTrimmed(t, poolOf([]impl.Branch{leafOf(9, 9, 9, 9), leafOf(8, 0, 0, 1), stemOf(1, -1, 1, -1)}, 2), poolOf([]impl.Branch{leafOf(8, 0, 0, 1), stemOf(0, -1, 0, -1)}, 1), 1)
	// Values that could be numbers of branches stay as they are.
	isTrimmed(t, poolOf([]impl.Branch{leafOf(0, 0, 0, 0), leafOf(0, 1, 2, 3), leafOf(3, 2, 1, 0), stemOf(2, 1, 2, -1)}, 3), poolOf([]impl.Branch{leafOf(0, 1, 2, 3), leafOf(3, 2, 1, 0), stemOf(1, 0, 1, -1)}, 2), 1)
}

// A leaf that two branches name stays as long as one of them does.
func TestPromise11SharedLeavesBehindATrim(t *testing.T) {
	branches := []impl.Branch{leafOf(4, 0, 0, 0), leafOf(5, 0, 0, 0), stemOf(0, 1, -1, -1), leafOf(6, 0, 0, 0), stemOf(-1, 1, 3, -1)}
	isTrimmed(t, poolOf(branches, 2, 4), poolOf(branches, 2, 4), 0)
	isTrimmed(t, poolOf(branches, 2), poolOf(branches[:3], 2), 2)
	isTrimmed(t, poolOf(branches, 4, 4), poolOf([]impl.Branch{leafOf(5, 0, 0, 0), leafOf(6, 0, 0, 0), stemOf(-1, 0, 1, -1)}, 2, 2), 2)
	isTrimmed(t, poolOf(branches, -1), impl.NewPool(), 5)
	one := []impl.Branch{leafOf(1, 2, 3, 4), leafOf(9, 9, 9, 9), stemOf(0, 0, 0, 0), stemOf(0, -1, 0, 0)}
	isTrimmed(t, poolOf(one, 3, 2), poolOf([]impl.Branch{one[0], one[2], one[3]}, 2, 1), 1)
	isTrimmed(t, poolOf(one, 3), poolOf([]impl.Branch{one[0], one[3]}, 1), 2)
}

// What puts left behind goes when nobody names their versions any more.
func TestPromise11TrimsBehindPuts(t *testing.T) {
	p := impl.NewPool()
	for n := range 6 {
		p, _ = impl.PutIn(p, n, n%2, n+1)
	}
	isTrimmed(t, p, p, 0)
	for version := 1; version < 7; version++ {
		values := slowMap(p, version)
		left := poolOf(p.Branches, p.Versions[version])
		isTrimmed(t, left, poolOf([]impl.Branch{leafOf(values[:4]...), stemOf(0, -1, -1, -1)}, 1), 10)
	}
}

// checkPut holds a put against the model, and looks whether all that were stay.
func checkPut(t *testing.T, p impl.Pool, version int, key int, value int) {
	t.Helper()
	want, wantOk := slowPut(p, version, key, value)
	x, ok := impl.PutIn(p, version, key, value)
	if !samePool(x, want) || ok != wantOk || !impl.GoodPool(x) {
		t.Fatalf("PutIn %v %d %d %d: %v %v, want %v %v", p, version, key, value, x, ok, want, wantOk)
	}
	if !ok {
		return
	}
	values := slowMap(p, version)
	values[key] = value
	for k, was := range append(slowMaps(p), values) {
		if l, ok := impl.AllIn(x, k); !slices.Equal(l, was) || !ok {
			t.Fatalf("behind PutIn %v %d %d %d: %d is %v %v, not %v", p, version, key, value, k, l, ok, was)
		}
	}
}

func checkTrim(t *testing.T, p impl.Pool) {
	t.Helper()
	want, wantGone, wantOk := slowTrim(p)
	x, gone, ok := impl.TrimPool(p)
	if !samePool(x, want) || gone != wantGone || ok != wantOk || !impl.GoodPool(x) {
		t.Fatalf("TrimPool %v: %v %v %v, want %v %v %v", p, x, gone, ok, want, wantGone, wantOk)
	}
	if again, gone, _ := impl.TrimPool(x); !samePool(again, x) || gone != 0 {
		t.Fatalf("TrimPool twice %v: %v %v", p, again, gone)
	}
	if ok && !sameMatrix(slowMaps(p), slowMaps(x)) {
		t.Fatalf("TrimPool changes maps %v: %v", p, x)
	}
}

func checkVersion(t *testing.T, p impl.Pool, version int) {
	t.Helper()
	is, values := isSlowVersion(p, version), []int(nil)
	if is {
		values = slowMap(p, version)
	}
	if l, ok := impl.AllIn(p, version); !slices.Equal(l, values) || ok != is {
		t.Fatalf("AllIn %v %d: %v %v, want %v %v", p, version, l, ok, values, is)
	}
	for _, key := range []int{-1, 0, 1, 2, 3, 4, 5, 6, 7, 8, 9, 10, 11, 12, 13, 14, 15, 16} {
		want, isKey := 0, is && key >= 0 && key < 16
		if isKey {
			want = values[key]
		}
		if n, ok := impl.GetIn(p, version, key); n != want || ok != isKey {
			t.Fatalf("GetIn %v %d %d: %v %v, want %v %v", p, version, key, n, ok, want, isKey)
		}
	}
	want, wantOk := slowCloneOf(p, version)
	if x, ok := impl.CloneOf(p, version); !samePool(x, want) || ok != wantOk || !impl.GoodPool(x) {
		t.Fatalf("CloneOf %v %d: %v %v, want %v %v", p, version, x, ok, want, wantOk)
	}
}

func checkDiff(t *testing.T, p impl.Pool, a int, b int) {
	t.Helper()
	want, wantOk := slowDiff(p, a, b)
	if l, ok := impl.DiffIn(p, a, b); !slices.Equal(l, want) || ok != wantOk {
		t.Fatalf("DiffIn %v %d %d: %v %v, want %v %v", p, a, b, l, ok, want, wantOk)
	}
}

// checkPool asks everything of a pool but puts, good or not.
func checkPool(t *testing.T, p impl.Pool) {
	t.Helper()
	if impl.GoodPool(p) != isSlowPool(p) {
		t.Fatalf("GoodPool %v: %v", p, impl.GoodPool(p))
	}
	checkTrim(t, p)
	for version := -1; version <= len(p.Versions); version++ {
		checkVersion(t, p, version)
		checkDiff(t, p, version, version)
		checkDiff(t, p, version, version/2)
		checkDiff(t, p, 0, version)
	}
}

// fewBranches has each list of at most 3 branches of some kinds; some are not as said.
func fewBranches() [][]impl.Branch {
	l := [][]impl.Branch{nil}
	for n, last := 0, [][]impl.Branch{nil}; n < 3; n++ {
		next := [][]impl.Branch{}
		for _, branches := range last {
			add := func(branch impl.Branch) { next = append(next, append(slices.Clone(branches), branch)) }
			add(leafOf(0, 0, 0, 0))
			add(leafOf(n, 9999, 0, 1))
			names := append([]int{-1}, bitsOf(1<<n-1)...)
			eachList(2, names, func(kids []int) { add(stemOf(kids[0], kids[1], -1, kids[0])) })
		}
		l, last = append(l, next...), next
	}
	return l
}

func TestPromise11EveryFewBranches(t *testing.T) {
	good := 0
	for _, branches := range fewBranches() {
		names := append([]int{-1}, bitsOf(1<<len(branches)-1)...)
		for n := range 3 {
			eachList(n, names, func(versions []int) {
				p := poolOf(branches, slices.Clone(versions)...)
				checkPool(t, p)
				for version := range versions {
					for _, key := range []int{0, 3, 6, 9, 12, 15} {
						checkPut(t, p, version, key, key)
					}
				}
				good += bitOf(isSlowPool(p))
			})
		}
	}
	if good < 500 {
		t.Error("too few good ones", good)
	}
}

// somePool has branches and versions of all kinds, as said.
func somePool(branches int, versions int, seed int) impl.Pool {
	b := textOf(10*branches+2*versions, seed)
	leaves, stems, p := []int{-1}, []int{-1}, impl.Pool{}
	for k := range branches {
		own, branch := b[10*k:10*k+10], impl.Branch{Leaf: b[10*k]%2 == 0}
		for at := range 4 {
			n := int(own[2+2*at])*256 + int(own[3+2*at])
			if branch.Leaf {
				branch.Kids = append(branch.Kids, n%10000*(n/16%2))
				continue
			}
			branch.Kids = append(branch.Kids, leaves[n/16%len(leaves)])
		}
		p.Branches = append(p.Branches, branch)
		if branch.Leaf {
			leaves = append(leaves, k)
		} else {
			stems = append(stems, k)
		}
	}
	for k := range versions {
		n := int(b[10*branches+2*k])*256 + int(b[10*branches+2*k+1])
		p.Versions = append(p.Versions, stems[n/16%len(stems)])
	}
	return p
}

func TestPromise11ManyBranches(t *testing.T) {
	stay, went := 0, 0
	for seed := range 300 {
		p := somePool(seed*37%201, seed*11%41, seed)
		if !isSlowPool(p) {
			t.Fatal("not good", seed, p)
		}
		checkPool(t, p)
		for version := range p.Versions {
			checkPut(t, p, version, (version+seed)%16, version*seed%10000)
		}
		x, gone, _ := impl.TrimPool(p)
		stay, went = stay+len(x.Branches), went+gone
		checkPool(t, x)
	}
	if stay < 2000 || went < 2000 {
		t.Error("too few of one kind", stay, went)
	}
}

// In a walk versions are put, cloned, left out and trimmed; a list of maps, each a copy, tells what they are.
func TestPromise11Walks(t *testing.T) {
	full, trimmed := 0, 0
	for seed := range 60 {
		p, maps := impl.NewPool(), [][]int{noughts()}
		for step, c := range []byte(textOf(150, seed)) {
			b := []byte(textOf(4, seed+97*step))
			version, key, value := int(b[0])%len(maps), int(b[1])%16, int(b[2])*39+int(b[3])%39
			switch {
			case c%16 == 0:
				p, _, _ = impl.TrimPool(p)
				trimmed++
			case c%16 < 4 && len(maps) > 1:
				p.Versions, maps = slices.Delete(p.Versions, version, version+1), slices.Delete(maps, version, version+1)
			case c%16 < 7:
				x, ok := impl.CloneOf(p, version)
				if ok != (len(maps) < 40) {
					t.Fatal("CloneOf", p, version, ok)
				}
				if ok {
					p, maps = x, append(maps, slices.Clone(maps[version]))
				}
			default:
				x, ok := impl.PutIn(p, version, key, value)
				if ok != (len(maps) < 40 && len(p.Branches) < 199) {
					t.Fatal("PutIn", p, version, key, value, ok)
				}
				if !ok {
					full++
					break
				}
				p, maps = x, append(maps, slices.Clone(maps[version]))
				maps[len(maps)-1][key] = value
			}
			areMaps(t, p, maps)
		}
	}
	if full < 50 || trimmed < 50 {
		t.Error("too few of one kind", full, trimmed)
	}
}

func areMaps(t *testing.T, p impl.Pool, maps [][]int) {
	t.Helper()
	if len(p.Versions) != len(maps) || !impl.GoodPool(p) {
		t.Fatal("not good", p, maps)
	}
	for version, values := range maps {
		if l, ok := impl.AllIn(p, version); !slices.Equal(l, values) || !ok {
			t.Fatalf("AllIn %v %d: %v %v, want %v", p, version, l, ok, values)
		}
	}
}
