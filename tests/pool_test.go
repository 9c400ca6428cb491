package tests

import (
	"math"
	"slices"
	"testing"

	"loop.example/g00405/impl"
)

func leafOf(values ...int) impl.Branch {
	return impl.Branch{Kids: values, Leaf: true}
}

func stemOf(kids ...int) impl.Branch {
	return impl.Branch{Kids: kids}
}

func poolOf(branches []impl.Branch, versions ...int) impl.Pool {
	return impl.Pool{Branches: branches, Versions: versions}
}

func sameBranch(a impl.Branch, b impl.Branch) bool {
	return slices.Equal(a.Kids, b.Kids) && a.Leaf == b.Leaf
}

func samePool(a impl.Pool, b impl.Pool) bool {
	return slices.EqualFunc(a.Branches, b.Branches, sameBranch) && slices.Equal(a.Versions, b.Versions)
}

func isNoPool(p impl.Pool) bool {
	return len(p.Branches) == 0 && len(p.Versions) == 0
}

func clonePool(p impl.Pool) impl.Pool {
	l := slices.Clone(p.Branches)
	for k := range l {
		l[k].Kids = slices.Clone(l[k].Kids)
	}
	return impl.Pool{Branches: l, Versions: slices.Clone(p.Versions)}
}

func isSlowBranch(branches []impl.Branch, k int) bool {
	if len(branches[k].Kids) != 4 {
		return false
	}
	for _, kid := range branches[k].Kids {
		if branches[k].Leaf && (kid < 0 || kid > 9999) {
			return false
		}
		if !branches[k].Leaf && kid != -1 && (kid < 0 || kid >= k || !branches[kid].Leaf) {
			return false
		}
	}
	return true
}

func isSlowPool(p impl.Pool) bool {
	if len(p.Branches) > 200 || len(p.Versions) > 40 {
		return false
	}
	for k := range p.Branches {
		if !isSlowBranch(p.Branches, k) {
			return false
		}
	}
	return !slices.ContainsFunc(p.Versions, func(n int) bool {
		return n < -1 || n >= len(p.Branches) || n >= 0 && p.Branches[n].Leaf
	})
}

func isSlowVersion(p impl.Pool, version int) bool {
	return isSlowPool(p) && version >= 0 && version < len(p.Versions)
}

// slowMap lays the leaves of a version side by side.
func slowMap(p impl.Pool, version int) []int {
	none := []int{0, 0, 0, 0}
	if p.Versions[version] == -1 {
		return slices.Repeat(none, 4)
	}
	l := []int{}
	for _, n := range p.Branches[p.Versions[version]].Kids {
		if n == -1 {
			l = append(l, none...)
			continue
		}
		l = append(l, p.Branches[n].Kids...)
	}
	return l
}

func slowMaps(p impl.Pool) [][]int {
	l := [][]int{}
	for version := range p.Versions {
		l = append(l, slowMap(p, version))
	}
	return l
}

func slowPut(p impl.Pool, version int, key int, value int) (impl.Pool, bool) {
	if !isSlowVersion(p, version) || key < 0 || key > 15 || value < 0 || value > 9999 || len(p.Branches) > 198 || len(p.Versions) > 39 {
		return impl.Pool{}, false
	}
	values := slowMap(p, version)[key/4*4 : key/4*4+4]
	values[key%4] = value
	kids := []int{-1, -1, -1, -1}
	if n := p.Versions[version]; n != -1 {
		kids = slices.Clone(p.Branches[n].Kids)
	}
	kids[key/4] = len(p.Branches)
	x := clonePool(p)
	x.Branches = append(x.Branches, leafOf(values...), stemOf(kids...))
	x.Versions = append(x.Versions, len(x.Branches)-1)
	return x, true
}

func slowCloneOf(p impl.Pool, version int) (impl.Pool, bool) {
	if !isSlowVersion(p, version) || len(p.Versions) > 39 {
		return impl.Pool{}, false
	}
	x := clonePool(p)
	x.Versions = append(x.Versions, x.Versions[version])
	return x, true
}

func slowDiff(p impl.Pool, a int, b int) ([]int, bool) {
	if !isSlowVersion(p, a) || !isSlowVersion(p, b) {
		return nil, false
	}
	l, other := []int{}, slowMap(p, b)
	for key, value := range slowMap(p, a) {
		if value != other[key] {
			l = append(l, key)
		}
	}
	return l, true
}

// notMapNumbers are neither keys, nor values, nor numbers of versions.
func notMapNumbers() []int {
	return []int{-1, -2, -4, -16, -10000, 1 << 32, -1 << 32, math.MinInt, math.MaxInt}
}

func notMapKeys() []int {
	return append(notMapNumbers(), 16, 17, 19, 32, 64, 255)
}

func notMapValues() []int {
	return append(notMapNumbers(), 10000, 10001, 65536)
}

func notVersions(p impl.Pool) []int {
	n := len(p.Versions)
	return append(notMapNumbers(), n, n+1, n+40, n+200, -n-1)
}

func refusedPut(t *testing.T, p impl.Pool, version int, key int, value int) {
	t.Helper()
	if x, ok := impl.PutIn(p, version, key, value); !isNoPool(x) || ok {
		t.Errorf("PutIn %v %d %d %d: %v %v", p, version, key, value, x, ok)
	}
}

func refusedGet(t *testing.T, p impl.Pool, version int, key int) {
	t.Helper()
	if n, ok := impl.GetIn(p, version, key); n != 0 || ok {
		t.Errorf("GetIn %v %d %d: %v %v", p, version, key, n, ok)
	}
}

func refusedClone(t *testing.T, p impl.Pool, version int) {
	t.Helper()
	if x, ok := impl.CloneOf(p, version); !isNoPool(x) || ok {
		t.Errorf("CloneOf %v %d: %v %v", p, version, x, ok)
	}
}

func refusedDiff(t *testing.T, p impl.Pool, a int, b int) {
	t.Helper()
	if l, ok := impl.DiffIn(p, a, b); len(l) != 0 || ok {
		t.Errorf("DiffIn %v %d %d: %v %v", p, a, b, l, ok)
	}
}

// refusedVersion asks everything of a version that is not there.
func refusedVersion(t *testing.T, p impl.Pool, version int) {
	t.Helper()
	if l, ok := impl.AllIn(p, version); len(l) != 0 || ok {
		t.Errorf("AllIn %v %d: %v %v", p, version, l, ok)
	}
	refusedClone(t, p, version)
	for _, key := range []int{0, 1, 5, 15, -1, 16} {
		refusedGet(t, p, version, key)
		refusedPut(t, p, version, key, 1)
	}
	for other := -1; other <= min(len(p.Versions), 40); other++ {
		refusedDiff(t, p, version, other)
		refusedDiff(t, p, other, version)
	}
	refusedDiff(t, p, version, version)
}

// refusedPool asks everything of a pool that is not good.
func refusedPool(t *testing.T, p impl.Pool) {
	t.Helper()
	if impl.GoodPool(p) {
		t.Errorf("good %v", p)
	}
	if x, n, ok := impl.TrimPool(p); !isNoPool(x) || n != 0 || ok {
		t.Errorf("TrimPool %v: %v %v %v", p, x, n, ok)
	}
	for version := -1; version <= min(len(p.Versions), 8); version++ {
		refusedVersion(t, p, version)
	}
}

func isAll(t *testing.T, p impl.Pool, version int, want ...int) {
	t.Helper()
	if l, ok := impl.AllIn(p, version); !slices.Equal(l, want) || len(l) != 16 || !ok {
		t.Errorf("AllIn %v %d: %v %v, want %v", p, version, l, ok, want)
	}
	for key, value := range want {
		if n, ok := impl.GetIn(p, version, key); n != value || !ok {
			t.Errorf("GetIn %v %d %d: %v %v, want %v", p, version, key, n, ok, value)
		}
	}
}

func isPut(t *testing.T, p impl.Pool, version int, key int, value int, want impl.Pool) {
	t.Helper()
	if x, ok := impl.PutIn(p, version, key, value); !samePool(x, want) || !ok {
		t.Errorf("PutIn %v %d %d %d: %v %v, want %v", p, version, key, value, x, ok, want)
	}
}

func isClone(t *testing.T, p impl.Pool, version int, want impl.Pool) {
	t.Helper()
	if x, ok := impl.CloneOf(p, version); !samePool(x, want) || !ok {
		t.Errorf("CloneOf %v %d: %v %v, want %v", p, version, x, ok, want)
	}
}

func isDiff(t *testing.T, p impl.Pool, a int, b int, want ...int) {
	t.Helper()
	for _, pair := range [][2]int{{a, b}, {b, a}} {
		if l, ok := impl.DiffIn(p, pair[0], pair[1]); !slices.Equal(l, want) || !ok {
			t.Errorf("DiffIn %v %v: %v %v, want %v", p, pair, l, ok, want)
		}
	}
}

func noughts() []int {
	return make([]int, 16)
}

func TestPromise11Constants(t *testing.T) {
	if impl.MapSize != 16 || impl.MaxPool != 200 || impl.MaxVersions != 40 {
		t.Error(impl.MapSize, impl.MaxPool, impl.MaxVersions)
	}
}

func TestPromise11NewPool(t *testing.T) {
	p := impl.NewPool()
	if len(p.Branches) != 0 || !slices.Equal(p.Versions, []int{-1}) || !impl.GoodPool(p) {
		t.Fatal(p)
	}
	isAll(t, p, 0, noughts()...)
	isDiff(t, p, 0, 0)
	isClone(t, p, 0, poolOf(nil, -1, -1))
	for _, version := range notVersions(p) {
		refusedVersion(t, p, version)
	}
}

// A pool of nothing at all is good; it has no version that could be asked for.
func TestPromise11NoVersions(t *testing.T) {
	for _, p := range []impl.Pool{{}, {Branches: []impl.Branch{}, Versions: []int{}}, poolOf([]impl.Branch{leafOf(1, 2, 3, 4), stemOf(0, -1, -1, 0)})} {
		if !impl.GoodPool(p) {
			t.Error("not good", p)
		}
		for _, version := range append(notVersions(p), 0) {
			refusedVersion(t, p, version)
		}
	}
}

// knownPool hands out a good one of its own, with branches that no version comes to.
func knownPool() impl.Pool {
	return poolOf([]impl.Branch{
		leafOf(1, 2, 3, 4), leafOf(0, 0, 0, 9999), stemOf(0, 1, -1, 0), leafOf(5, 0, 0, 0), stemOf(-1, -1, 3, -1), stemOf(-1, -1, -1, -1), leafOf(7, 7, 7, 7),
	}, -1, 2, 5, 4, 2)
}

func TestPromise11KnownMaps(t *testing.T) {
	p := knownPool()
	if !impl.GoodPool(p) {
		t.Fatal("not good", p)
	}
	isAll(t, p, 0, noughts()...)
	isAll(t, p, 1, 1, 2, 3, 4, 0, 0, 0, 9999, 0, 0, 0, 0, 1, 2, 3, 4)
	isAll(t, p, 2, noughts()...)
	isAll(t, p, 3, 0, 0, 0, 0, 0, 0, 0, 0, 5, 0, 0, 0, 0, 0, 0, 0)
	isAll(t, p, 4, 1, 2, 3, 4, 0, 0, 0, 9999, 0, 0, 0, 0, 1, 2, 3, 4)
	for version := range p.Versions {
		for _, key := range notMapKeys() {
			refusedGet(t, p, version, key)
		}
	}
	for _, version := range notVersions(p) {
		refusedVersion(t, p, version)
	}
}

// Each key has one place of one leaf.
func TestPromise11EachKey(t *testing.T) {
	for key := range 16 {
		for _, value := range []int{1, 9999} {
			values, kids := make([]int, 4), []int{-1, -1, -1, -1}
			values[key%4], kids[key/4] = value, 0
			want := noughts()
			want[key] = value
			p := poolOf([]impl.Branch{leafOf(values...), stemOf(kids...)}, -1, 1)
			isAll(t, p, 0, noughts()...)
			isAll(t, p, 1, want...)
			isPut(t, impl.NewPool(), 0, key, value, p)
			isDiff(t, p, 0, 1, key)
		}
	}
	all := poolOf([]impl.Branch{leafOf(1, 2, 3, 4), leafOf(5, 6, 7, 8), leafOf(9, 10, 11, 12), leafOf(13, 14, 15, 16), stemOf(0, 1, 2, 3), stemOf(3, 2, 1, 0)}, 4, 5)
	isAll(t, all, 0, 1, 2, 3, 4, 5, 6, 7, 8, 9, 10, 11, 12, 13, 14, 15, 16)
	isAll(t, all, 1, 13, 14, 15, 16, 9, 10, 11, 12, 5, 6, 7, 8, 1, 2, 3, 4)
	isDiff(t, all, 0, 1, bitsOf(1<<16-1)...)
}

func TestPromise11KnownPuts(t *testing.T) {
	p := knownPool()
	put := func(version int, key int, value int, leaf impl.Branch, kids ...int) {
		t.Helper()
		want := knownPool()
		want.Branches = append(want.Branches, leaf, stemOf(kids...))
		want.Versions = append(want.Versions, 8)
		isPut(t, p, version, key, value, want)
	}
	put(0, 0, 8, leafOf(8, 0, 0, 0), 7, -1, -1, -1)
	put(0, 15, 9999, leafOf(0, 0, 0, 9999), -1, -1, -1, 7)
	put(1, 0, 8, leafOf(8, 2, 3, 4), 7, 1, -1, 0)
	put(1, 3, 9999, leafOf(1, 2, 3, 9999), 7, 1, -1, 0)
	put(1, 7, 0, leafOf(0, 0, 0, 0), 0, 7, -1, 0)
	put(1, 9, 6, leafOf(0, 6, 0, 0), 0, 1, 7, 0)
	put(1, 15, 8, leafOf(1, 2, 3, 8), 0, 1, -1, 7)
	put(2, 6, 1, leafOf(0, 0, 1, 0), -1, 7, -1, -1)
	put(3, 8, 0, leafOf(0, 0, 0, 0), -1, -1, 7, -1)
	put(3, 0, 3, leafOf(3, 0, 0, 0), 7, -1, 3, -1)
	put(4, 12, 9, leafOf(9, 2, 3, 4), 0, 1, -1, 7)
	// What was there already is put all the same.
	put(1, 0, 1, leafOf(1, 2, 3, 4), 7, 1, -1, 0)
	put(1, 7, 9999, leafOf(0, 0, 0, 9999), 0, 7, -1, 0)
	put(0, 4, 0, leafOf(0, 0, 0, 0), -1, 7, -1, -1)
	put(2, 15, 0, leafOf(0, 0, 0, 0), -1, -1, -1, 7)
	put(1, 11, 0, leafOf(0, 0, 0, 0), 0, 1, 7, 0)
}

// A put into a version in the middle, or into a clone, leaves that one and all others as they were.
func TestPromise11PutsLeaveWhatWas(t *testing.T) {
	p := knownPool()
	was := slowMaps(p)
	for version := range p.Versions {
		for key := range 16 {
			for _, value := range []int{0, 1, 77, 9999} {
				x, ok := impl.PutIn(p, version, key, value)
				want := slices.Clone(was[version])
				want[key] = value
				if !ok || !impl.GoodPool(x) {
					t.Fatal(version, key, value, x, ok)
				}
				isAll(t, x, 5, want...)
				for k, values := range was {
					isAll(t, x, k, values...)
				}
			}
		}
	}
	c, ok := impl.CloneOf(p, 3)
	x, is := impl.PutIn(c, 5, 8, 6)
	x, are := impl.PutIn(x, 3, 9, 7)
	if !ok || !is || !are {
		t.Fatal(c, x, ok, is, are)
	}
	isAll(t, x, 3, 0, 0, 0, 0, 0, 0, 0, 0, 5, 0, 0, 0, 0, 0, 0, 0)
	isAll(t, x, 5, 0, 0, 0, 0, 0, 0, 0, 0, 5, 0, 0, 0, 0, 0, 0, 0)
	isAll(t, x, 6, 0, 0, 0, 0, 0, 0, 0, 0, 6, 0, 0, 0, 0, 0, 0, 0)
	isAll(t, x, 7, 0, 0, 0, 0, 0, 0, 0, 0, 5, 7, 0, 0, 0, 0, 0, 0)
}

func TestPromise11NumbersThatAreNotThere(t *testing.T) {
	for _, p := range []impl.Pool{impl.NewPool(), knownPool()} {
		for version := range p.Versions {
			for _, key := range notMapKeys() {
				refusedPut(t, p, version, key, 1)
				refusedPut(t, p, version, key, key)
			}
			for _, value := range notMapValues() {
				refusedPut(t, p, version, 0, value)
				refusedPut(t, p, version, 15, value)
				refusedPut(t, p, version, value, value)
			}
		}
		for _, version := range notVersions(p) {
			refusedPut(t, p, version, 0, 0)
			refusedPut(t, p, version, version, version)
		}
	}
}

// manyPool has so many branches and versions, which are its stems by turns.
func manyPool(branches int, versions int) impl.Pool {
	p := impl.Pool{}
	for k := range branches {
		if k%2 == 0 {
			p.Branches = append(p.Branches, leafOf(k, 0, 9999-k, k*k%10000))
			continue
		}
		p.Branches = append(p.Branches, stemOf(k-1, max(k-3, -1), -1, 0))
	}
	for k := range versions {
		n := -1
		if branches > 1 {
			n = branches - 1 - branches%2 - 2*(k%(branches/2))
		}
		p.Versions = append(p.Versions, n)
	}
	return p
}

func TestPromise11Room(t *testing.T) {
	for branches := 196; branches <= 202; branches++ {
		for versions := 37; versions <= 42; versions++ {
			p := manyPool(branches, versions)
			good := branches <= 200 && versions <= 40
			if impl.GoodPool(p) != good || isSlowPool(p) != good {
				t.Fatal(branches, versions, good)
			}
			if !good {
				refusedPool(t, p)
				continue
			}
			checkPool(t, p)
			for version := range p.Versions {
				x, ok := impl.PutIn(p, version, version%16, 4321)
				if ok != (branches <= 198 && versions <= 39) || isNoPool(x) == ok || ok && !impl.GoodPool(x) {
					t.Fatal("PutIn", branches, versions, version, x, ok)
				}
				x, ok = impl.CloneOf(p, version)
				if ok != (versions <= 39) || isNoPool(x) == ok || ok && !impl.GoodPool(x) {
					t.Fatal("CloneOf", branches, versions, version, x, ok)
				}
				checkPut(t, p, version, 15-version%16, version)
			}
		}
	}
}

// From nothing on a pool takes as many puts as there is room for versions; the last one leaves the first as it was.
func TestPromise11PutsTillTheEnd(t *testing.T) {
	p, want := impl.NewPool(), [][]int{noughts()}
	for n := 1; n <= 39; n++ {
		x, ok := impl.PutIn(p, n-1, n*7%16, n*251%10000)
		values := slices.Clone(want[n-1])
		values[n*7%16] = n * 251 % 10000
		want = append(want, values)
		if !ok || len(x.Branches) != 2*n || len(x.Versions) != n+1 {
			t.Fatal(n, x, ok)
		}
		p = x
	}
	for version, values := range want {
		isAll(t, p, version, values...)
		refusedPut(t, p, version, 3, 3)
		refusedClone(t, p, version)
	}
}

func TestPromise11ClonesTillTheEnd(t *testing.T) {
	p := knownPool()
	for n := 5; n < 40; n++ {
		version := n * 3 % 5
		want := knownPool()
		want.Versions = append(slices.Clone(p.Versions), want.Versions[version])
		isClone(t, p, version, want)
		p, _ = impl.CloneOf(p, version)
	}
	for version := range 40 {
		refusedClone(t, p, version)
		refusedPut(t, p, version, 0, 1)
	}
}

func TestPromise11KnownDiffs(t *testing.T) {
	p := knownPool()
	for version := range p.Versions {
		isDiff(t, p, version, version)
	}
	isDiff(t, p, 1, 4)
	isDiff(t, p, 0, 2)
	isDiff(t, p, 0, 1, 0, 1, 2, 3, 7, 12, 13, 14, 15)
	isDiff(t, p, 2, 1, 0, 1, 2, 3, 7, 12, 13, 14, 15)
	isDiff(t, p, 0, 3, 8)
	isDiff(t, p, 1, 3, 0, 1, 2, 3, 7, 8, 12, 13, 14, 15)
	// Unlike branches, and unlike leaves, may have like values.
	like := poolOf([]impl.Branch{
		leafOf(1, 2, 3, 4), leafOf(1, 2, 3, 4), leafOf(0, 0, 0, 0), stemOf(0, -1, 1, 2), stemOf(1, 2, 0, -1), stemOf(0, -1, 0, -1), leafOf(2, 2, 3, 4), leafOf(0, 0, 0, 1), stemOf(6, 2, 1, 7), stemOf(6, -1, 1, -1), stemOf(0, 2, 0, 7),
	}, 3, 4, 5, 8, 9, 10)
	for _, pair := range [][2]int{{0, 1}, {0, 2}, {1, 2}} {
		isDiff(t, like, pair[0], pair[1])
	}
	for k := range 3 {
		isDiff(t, like, k, 3, 0, 15)
		isDiff(t, like, k, 4, 0)
		isDiff(t, like, k, 5, 15)
	}
	isDiff(t, like, 3, 4, 15)
	isDiff(t, like, 3, 5, 0)
	isDiff(t, like, 4, 5, 0, 15)
}

func spoiltPool(spoil func(p *impl.Pool)) impl.Pool {
	p := knownPool()
	spoil(&p)
	return p
}

// notBranchPools have a branch each that is not as said.
func notBranchPools() []impl.Pool {
	l := []impl.Pool{
		poolOf([]impl.Branch{{}}), poolOf([]impl.Branch{{}}, -1), poolOf([]impl.Branch{{Leaf: true}}, -1), poolOf([]impl.Branch{stemOf(0, -1, -1, -1)}, 0), poolOf([]impl.Branch{stemOf(1, -1, -1, -1), leafOf(1, 1, 1, 1)}, 0),
		poolOf([]impl.Branch{stemOf(-1, -1, -1, -1), stemOf(0, -1, -1, -1)}, 1), poolOf([]impl.Branch{stemOf(-2, -1, -1, -1)}, 0), poolOf([]impl.Branch{leafOf(-1, 0, 0, 0)}, -1), poolOf([]impl.Branch{leafOf(0, 0, 0, 10000)}),
	}
	for k, branch := range knownPool().Branches {
		for n := range 9 {
			if n != 4 {
				kids := slices.Repeat(branch.Kids, 3)[:n]
				l = append(l, spoiltPool(func(p *impl.Pool) { p.Branches[k].Kids = kids }))
			}
		}
		l = append(l, spoiltPool(func(p *impl.Pool) { p.Branches[k].Kids = nil }))
		l = append(l, spoiltPool(func(p *impl.Pool) { p.Branches[k].Leaf = !p.Branches[k].Leaf }))
		bads := []int{-1, -2, 10000, 10001, 1 << 32, math.MinInt, math.MaxInt}
		if !branch.Leaf {
			bads = []int{k, k + 1, 2, 4, 5, 6, 7, 8, 200, -2, -3, -200, 1 << 32, math.MinInt, math.MaxInt}
		}
		for at := range 4 {
			for _, bad := range bads {
				if branch.Leaf || bad < 0 || bad >= k || bad == 2 || bad == 4 {
					l = append(l, spoiltPool(func(p *impl.Pool) { p.Branches[k].Kids[at] = bad }))
				}
			}
		}
	}
	return l
}

// notVersionPools have a version each that is not as said.
func notVersionPools() []impl.Pool {
	l := []impl.Pool{poolOf(nil, 0), poolOf(nil, -2), poolOf(nil, 1), poolOf([]impl.Branch{leafOf(0, 0, 0, 0)}, 0)}
	for _, bad := range []int{0, 1, 3, 6, 7, 8, 40, 200, -2, -3, -7, 1 << 32, math.MinInt, math.MaxInt} {
		for at := range 6 {
			l = append(l, spoiltPool(func(p *impl.Pool) { p.Versions = slices.Insert(p.Versions, at, bad) }))
		}
	}
	return l
}

func tooManyPools() []impl.Pool {
	return []impl.Pool{
		poolOf(slices.Repeat([]impl.Branch{leafOf(0, 0, 0, 0)}, 201)), poolOf(slices.Repeat([]impl.Branch{stemOf(-1, -1, -1, -1)}, 201), 200), manyPool(201, 1), manyPool(1000, 1), poolOf(nil, slices.Repeat([]int{-1}, 41)...), poolOf(nil, slices.Repeat([]int{-1}, 5000)...),
		manyPool(2, 41), manyPool(201, 41), spoiltPool(func(p *impl.Pool) { p.Branches = append(p.Branches, slices.Repeat(p.Branches[:1], 194)...) }), spoiltPool(func(p *impl.Pool) { p.Versions = append(p.Versions, slices.Repeat([]int{2}, 36)...) }),
	}
}

func notPools() []impl.Pool {
	return slices.Concat(notBranchPools(), notVersionPools(), tooManyPools())
}

func TestPromise11PoolsThatAreNotGood(t *testing.T) {
	for _, p := range notPools() {
		if isSlowPool(p) {
			t.Fatalf("good %v", p)
		}
		refusedPool(t, p)
	}
}
