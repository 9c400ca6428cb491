package tests

import (
	"math"
	"slices"
	"testing"

	"loop.example/g00405/impl"
)

var goneNode = impl.Node{Gone: true}

// nodesOf has a node for each list that is held, none of them Gone.
func nodesOf(holds ...[]int) []impl.Node {
	l := []impl.Node{}
	for _, held := range holds {
		l = append(l, impl.Node{Holds: held})
	}
	return l
}

// chainOf has n nodes, each of which holds the one ahead of it.
func chainOf(n int) []impl.Node {
	l := make([]impl.Node, n)
	for k := 1; k < n; k++ {
		l[k].Holds = []int{k - 1}
	}
	return l
}

func sameNode(a impl.Node, b impl.Node) bool {
	return slices.Equal(a.Holds, b.Holds) && a.Gone == b.Gone
}

func sameGraph(a impl.Graph, b impl.Graph) bool {
	return slices.EqualFunc(a.Nodes, b.Nodes, sameNode) && slices.Equal(a.Roots, b.Roots) && slices.Equal(a.Counts, b.Counts)
}

func isNoGraph(g impl.Graph) bool {
	return len(g.Nodes) == 0 && len(g.Roots) == 0 && len(g.Counts) == 0
}

func cloneNodes(nodes []impl.Node) []impl.Node {
	l := slices.Clone(nodes)
	for k := range l {
		l[k].Holds = slices.Clone(l[k].Holds)
	}
	return l
}

func cloneGraph(g impl.Graph) impl.Graph {
	return impl.Graph{Nodes: cloneNodes(g.Nodes), Roots: slices.Clone(g.Roots), Counts: slices.Clone(g.Counts)}
}

// slowCounts counts names of any nodes and roots, as said or not.
func slowCounts(nodes []impl.Node, roots []int) []int {
	names := slices.Clone(roots)
	for _, node := range nodes {
		names = append(names, node.Holds...)
	}
	counts := make([]int, len(nodes))
	for k := range counts {
		for _, n := range names {
			counts[k] += bitOf(n == k)
		}
	}
	return counts
}

// slowGraph has the Counts that its names tell, good or not.
func slowGraph(nodes []impl.Node, roots ...int) impl.Graph {
	return impl.Graph{Nodes: nodes, Roots: roots, Counts: slowCounts(nodes, roots)}
}

func areSlowNodes(nodes []impl.Node, roots []int) bool {
	if len(nodes) > 14 || len(roots) > 6 {
		return false
	}
	for k, node := range nodes {
		if len(node.Holds) > 6 || node.Gone && len(node.Holds) > 0 {
			return false
		}
		for _, n := range node.Holds {
			if n < 0 || n >= k || nodes[n].Gone {
				return false
			}
		}
	}
	return !slices.ContainsFunc(roots, func(n int) bool { return n < 0 || n >= len(nodes) || nodes[n].Gone })
}

func isSlowGraph(g impl.Graph) bool {
	if !areSlowNodes(g.Nodes, g.Roots) || !slices.Equal(g.Counts, slowCounts(g.Nodes, g.Roots)) {
		return false
	}
	for k, node := range g.Nodes {
		if !node.Gone && g.Counts[k] < 1 {
			return false
		}
	}
	return true
}

// slowReached looks as long as something new is come to.
func slowReached(nodes []impl.Node, roots []int) []int {
	l := []int{}
	for look := slices.Clone(roots); len(look) > 0; look = look[1:] {
		if !slices.Contains(l, look[0]) {
			l = append(l, look[0])
			look = append(look, nodes[look[0]].Holds...)
		}
	}
	slices.Sort(l)
	return l
}

func slowHold(g impl.Graph, node int) (impl.Graph, bool) {
	if !isSlowGraph(g) || len(g.Roots) > 5 || node < 0 || node >= len(g.Nodes) || g.Nodes[node].Gone {
		return impl.Graph{}, false
	}
	return slowGraph(cloneNodes(g.Nodes), append(slices.Clone(g.Roots), node)...), true
}

func slowLink(g impl.Graph, from int, to int) (impl.Graph, bool) {
	if !isSlowGraph(g) || to < 0 || from <= to || from >= len(g.Nodes) {
		return impl.Graph{}, false
	}
	nodes := cloneNodes(g.Nodes)
	if nodes[from].Gone || nodes[to].Gone || len(nodes[from].Holds) > 5 {
		return impl.Graph{}, false
	}
	nodes[from].Holds = append(nodes[from].Holds, to)
	return slowGraph(nodes, g.Roots...), true
}

func isGraph(t *testing.T, nodes []impl.Node, roots []int, counts ...int) {
	t.Helper()
	want := impl.Graph{Nodes: nodes, Roots: roots, Counts: counts}
	if g, ok := impl.NewGraph(nodes, roots); !sameGraph(g, want) || !ok || !impl.GoodGraph(want) {
		t.Errorf("NewGraph: %v %v, want %v", g, ok, want)
	}
	isCounted(t, nodes, roots, counts...)
}

func isCounted(t *testing.T, nodes []impl.Node, roots []int, counts ...int) {
	t.Helper()
	if l, ok := impl.CountsOf(nodes, roots); !slices.Equal(l, counts) || !ok {
		t.Errorf("CountsOf %v %v: %v %v, want %v", nodes, roots, l, ok, counts)
	}
}

func isReached(t *testing.T, g impl.Graph, want ...int) {
	t.Helper()
	if l, ok := impl.ReachedIn(g); !slices.Equal(l, want) || !ok {
		t.Errorf("ReachedIn %v: %v %v, want %v", g, l, ok, want)
	}
}

func TestPromise10KnownGraphs(t *testing.T) {
	isGraph(t, nil, nil)
	isGraph(t, nodesOf(nil), []int{0}, 1)
	isGraph(t, nodesOf(nil), []int{0, 0, 0, 0, 0, 0}, 6)
	isGraph(t, nodesOf(nil, nil), []int{1, 0}, 1, 1)
	isGraph(t, nodesOf(nil, []int{0}), []int{1}, 1, 1)
	isGraph(t, nodesOf(nil, []int{0, 0}, []int{1, 0}), []int{2, 0}, 4, 1, 1)
	isGraph(t, nodesOf(nil, nil, []int{1, 0, 1, 1, 0, 1}), []int{2}, 2, 4, 1)
	isGraph(t, nodesOf(nil, nil, nil, nil, nil, nil, []int{5, 3, 1, 0, 2, 4}), []int{6, 5, 6}, 1, 1, 1, 1, 1, 2, 2)
	isGraph(t, []impl.Node{goneNode}, nil, 0)
	isGraph(t, []impl.Node{goneNode, {}, goneNode, {Holds: []int{1, 1}}, goneNode}, []int{3, 1}, 0, 3, 0, 1, 0)
	isGraph(t, slices.Repeat([]impl.Node{goneNode}, 14), nil, make([]int, 14)...)
	isGraph(t, chainOf(14), []int{13}, slices.Repeat([]int{1}, 14)...)
	isGraph(t, chainOf(14), []int{13, 13, 13, 13, 13, 13}, append(slices.Repeat([]int{1}, 13), 6)...)
	isGraph(t, chainOf(14), []int{0, 7, 13, 1, 0, 0}, 4, 2, 1, 1, 1, 1, 1, 2, 1, 1, 1, 1, 1, 1)
}

// A node that nobody names is counted, but its graph is not good.
func TestPromise10CountsOfWhatNobodyHolds(t *testing.T) {
	isCounted(t, nodesOf(nil), nil, 0)
	isCounted(t, nodesOf(nil, nil, nil), []int{1}, 0, 1, 0)
	isCounted(t, nodesOf(nil, []int{0, 0}), []int{0}, 3, 0)
	isCounted(t, make([]impl.Node, 14), make([]int, 6), append([]int{6}, make([]int, 13)...)...)
	all := append(nodesOf(nil), slices.Repeat(nodesOf(make([]int, 6)), 13)...)
	isCounted(t, all, make([]int, 6), append([]int{84}, make([]int, 13)...)...)
	for _, nodes := range [][]impl.Node{nodesOf(nil), nodesOf(nil, []int{0, 0}), make([]impl.Node, 14), all} {
		for _, roots := range [][]int{nil, {0}, {0, 0, 0, 0, 0, 0}} {
			if len(nodes) > 1 || len(roots) == 0 {
				notNamed(t, slowGraph(nodes, roots...))
			}
		}
	}
}

// notNamed takes nodes and roots as said, of which the graph is not good.
func notNamed(t *testing.T, g impl.Graph) {
	t.Helper()
	if x, ok := impl.NewGraph(g.Nodes, g.Roots); !isNoGraph(x) || ok {
		t.Errorf("NewGraph %v: %v %v", g, x, ok)
	}
	isCounted(t, g.Nodes, g.Roots, slowCounts(g.Nodes, g.Roots)...)
	refusedGraph(t, g)
	if _, _, ok := impl.SweepGraph(g); !ok {
		t.Errorf("SweepGraph %v", g)
	}
}

// refusedGraph asks everything that needs a good graph.
func refusedGraph(t *testing.T, g impl.Graph) {
	t.Helper()
	if impl.GoodGraph(g) {
		t.Errorf("good %v", g)
	}
	if l, ok := impl.ReachedIn(g); len(l) != 0 || ok {
		t.Errorf("ReachedIn %v: %v %v", g, l, ok)
	}
	for k := -1; k < 16; k++ {
		refusedDrop(t, g, k)
		refusedHold(t, g, k)
		for n := -1; n < 16; n++ {
			refusedLink(t, g, k, n)
			refusedUnlink(t, g, k, n)
		}
	}
}

func refusedHold(t *testing.T, g impl.Graph, node int) {
	t.Helper()
	if x, ok := impl.HoldRoot(g, node); !isNoGraph(x) || ok {
		t.Errorf("HoldRoot %v %d: %v %v", g, node, x, ok)
	}
}

func refusedLink(t *testing.T, g impl.Graph, from int, to int) {
	t.Helper()
	if x, ok := impl.LinkNode(g, from, to); !isNoGraph(x) || ok {
		t.Errorf("LinkNode %v %d %d: %v %v", g, from, to, x, ok)
	}
}

func refusedDrop(t *testing.T, g impl.Graph, k int) {
	t.Helper()
	if x, l, ok := impl.DropRoot(g, k); !isNoGraph(x) || len(l) != 0 || ok {
		t.Errorf("DropRoot %v %d: %v %v %v", g, k, x, l, ok)
	}
}

func refusedUnlink(t *testing.T, g impl.Graph, from int, at int) {
	t.Helper()
	if x, l, ok := impl.UnlinkNode(g, from, at); !isNoGraph(x) || len(l) != 0 || ok {
		t.Errorf("UnlinkNode %v %d %d: %v %v %v", g, from, at, x, l, ok)
	}
}

// refusedNodes asks everything of nodes and roots that are not as said.
func refusedNodes(t *testing.T, g impl.Graph) {
	t.Helper()
	if l, ok := impl.CountsOf(g.Nodes, g.Roots); len(l) != 0 || ok {
		t.Errorf("CountsOf %v: %v %v", g, l, ok)
	}
	if x, ok := impl.NewGraph(g.Nodes, g.Roots); !isNoGraph(x) || ok {
		t.Errorf("NewGraph %v: %v %v", g, x, ok)
	}
	if x, l, ok := impl.SweepGraph(g); !isNoGraph(x) || len(l) != 0 || ok {
		t.Errorf("SweepGraph %v: %v %v %v", g, x, l, ok)
	}
	refusedGraph(t, g)
}

// spoiltGraph hands out a good one of its own, counted anew when it is spoilt.
func spoiltGraph(spoil func(g *impl.Graph)) impl.Graph {
	nodes := []impl.Node{{}, goneNode, {Holds: []int{0}}, {Holds: []int{2, 0, 2}}, goneNode, {Holds: []int{0, 3, 2, 2, 0, 0}}, {Holds: []int{5}}}
	g := slowGraph(nodes, 6, 3, 6)
	spoil(&g)
	return slowGraph(g.Nodes, g.Roots...)
}

// notNodes have one fault each, with the Counts that they tell.
func notNodes() []impl.Graph {
	l := []impl.Graph{
		slowGraph(chainOf(15), 14), slowGraph(chainOf(1000), 999), slowGraph(slices.Repeat([]impl.Node{goneNode}, 15)), slowGraph(nil, 0), slowGraph(nil, -1),
		slowGraph([]impl.Node{goneNode}, 0), slowGraph(nodesOf([]int{0}), 0), slowGraph(nodesOf([]int{-1}), 0), slowGraph(nodesOf([]int{1}), 0), slowGraph(nodesOf([]int{1}, nil), 0),
		slowGraph(nodesOf(nil, []int{1}), 0), slowGraph(nodesOf(nil, make([]int, 7)), 1), slowGraph(nodesOf(nil), make([]int, 7)...), slowGraph(nodesOf(nil), make([]int, 1000)...),
		slowGraph([]impl.Node{{}, {Holds: []int{0}, Gone: true}}, 0), slowGraph([]impl.Node{goneNode, {Holds: []int{0}}}, 1),
	}
	for n := 7; n < 10; n++ {
		l = append(l, spoiltGraph(func(g *impl.Graph) { g.Roots = append(g.Roots, make([]int, n-3)...) }))
		l = append(l, spoiltGraph(func(g *impl.Graph) { g.Nodes[5].Holds = append(g.Nodes[5].Holds, make([]int, n-6)...) }))
		l = append(l, spoiltGraph(func(g *impl.Graph) { g.Nodes = append(g.Nodes, slices.Repeat([]impl.Node{goneNode}, n+1)...) }))
	}
	for k := range 7 {
		for _, bad := range []int{k, k + 1, 1, 4, 6, 7, 14, -1, -7, 1 << 32, math.MinInt, math.MaxInt} {
			if bad < k && bad != 1 && bad != 4 && bad >= 0 {
				continue
			}
			l = append(l, spoiltGraph(func(g *impl.Graph) { g.Nodes[k].Holds = append(g.Nodes[k].Holds[:min(len(g.Nodes[k].Holds), 5)], bad) }))
			l = append(l, spoiltGraph(func(g *impl.Graph) { g.Nodes[k].Holds = []int{bad} }))
		}
	}
	for _, bad := range []int{1, 4, 7, 8, 14, -1, -7, 1 << 32, math.MinInt, math.MaxInt} {
		l = append(l, spoiltGraph(func(g *impl.Graph) { g.Roots = append(g.Roots, bad) }))
		l = append(l, spoiltGraph(func(g *impl.Graph) { g.Roots = slices.Insert(g.Roots, 0, bad) }))
	}
	for _, k := range []int{1, 4} {
		l = append(l, spoiltGraph(func(g *impl.Graph) { g.Nodes[k].Holds = []int{0} }))
	}
	for _, k := range []int{0, 2, 3, 5, 6} {
		l = append(l, spoiltGraph(func(g *impl.Graph) { g.Nodes[k].Gone = true }))
		l = append(l, spoiltGraph(func(g *impl.Graph) { g.Nodes[k] = goneNode }))
	}
	return l
}

func TestPromise10NodesThatAreNotAsSaid(t *testing.T) {
	good := spoiltGraph(func(g *impl.Graph) {})
	if !impl.GoodGraph(good) || !isSlowGraph(good) {
		t.Fatal("not good", good)
	}
	for _, g := range notNodes() {
		if areSlowNodes(g.Nodes, g.Roots) {
			t.Fatalf("as said %v", g)
		}
		refusedNodes(t, g)
	}
}

// notCounted have nodes and roots as said, and of these a good graph, but not these Counts.
func notCounted() []impl.Graph {
	l := []impl.Graph{{Counts: []int{0}}, {Counts: []int{1}}, {Nodes: []impl.Node{goneNode}}, {Nodes: nodesOf(nil), Roots: []int{0}}}
	good := spoiltGraph(func(g *impl.Graph) {})
	spoilt := func(spoil func(l []int) []int) {
		g := cloneGraph(good)
		g.Counts = spoil(g.Counts)
		l = append(l, g)
	}
	for n := range good.Counts {
		spoilt(func(l []int) []int { return l[:n] })
		spoilt(func(l []int) []int { return l[n+1:] })
		for _, by := range []int{1, -1, 1 << 32, math.MinInt, math.MaxInt} {
			spoilt(func(l []int) []int { l[n] += by; return l })
		}
		spoilt(func(l []int) []int { l[n] = 1 - l[n]; return l })
	}
	for _, more := range []int{0, 1, -1} {
		spoilt(func(l []int) []int { return append(l, more) })
		spoilt(func(l []int) []int { return append([]int{more}, l...) })
	}
	spoilt(func(l []int) []int { return append(l, make([]int, 7)...) })
	spoilt(func(l []int) []int { return append(l, make([]int, 1000)...) })
	spoilt(func(l []int) []int { return make([]int, len(l)) })
	return l
}

func TestPromise10CountsThatAreNotAsSaid(t *testing.T) {
	for _, g := range notCounted() {
		if isSlowGraph(g) {
			t.Fatalf("good %v", g)
		}
		refusedGraph(t, g)
		isGraph(t, g.Nodes, g.Roots, slowCounts(g.Nodes, g.Roots)...)
		isSwept(t, g, nil)
	}
}

func TestPromise10NodesThatNobodyNames(t *testing.T) {
	for _, g := range []impl.Graph{
		spoiltGraph(func(g *impl.Graph) { g.Roots = nil }),
		spoiltGraph(func(g *impl.Graph) { g.Roots = []int{5} }),
		spoiltGraph(func(g *impl.Graph) { g.Roots = []int{3, 2} }),
		spoiltGraph(func(g *impl.Graph) { g.Nodes[6].Holds = nil }),
		spoiltGraph(func(g *impl.Graph) { g.Nodes[1].Gone = false }),
		spoiltGraph(func(g *impl.Graph) { g.Nodes[4] = impl.Node{Holds: []int{0}} }),
		spoiltGraph(func(g *impl.Graph) { g.Nodes = append(g.Nodes, impl.Node{}) }),
		spoiltGraph(func(g *impl.Graph) { g.Nodes = append(g.Nodes, impl.Node{Holds: []int{6}}) }),
	} {
		notNamed(t, g)
	}
}

func TestPromise10KnownReached(t *testing.T) {
	isReached(t, impl.Graph{})
	isReached(t, slowGraph(nodesOf(nil), 0), 0)
	isReached(t, slowGraph(nodesOf(nil, nil), 1, 0, 1), 0, 1)
	isReached(t, slowGraph(nodesOf(nil, []int{0, 0}, []int{1, 0, 1}), 2, 2), 0, 1, 2)
	isReached(t, slowGraph([]impl.Node{goneNode, {}, goneNode, {Holds: []int{1}}}, 3), 1, 3)
	isReached(t, slowGraph(slices.Repeat([]impl.Node{goneNode}, 14)))
	isReached(t, slowGraph(chainOf(14), 13), bitsOf(1<<14-1)...)
	isReached(t, spoiltGraph(func(g *impl.Graph) {}), 0, 2, 3, 5, 6)
}

func isHeld(t *testing.T, g impl.Graph, node int, want impl.Graph) {
	t.Helper()
	if x, ok := impl.HoldRoot(g, node); !sameGraph(x, want) || !ok {
		t.Errorf("HoldRoot %v %d: %v %v, want %v", g, node, x, ok, want)
	}
}

func TestPromise10KnownHolds(t *testing.T) {
	nodes := []impl.Node{{}, goneNode, {Holds: []int{0, 0}}}
	g := impl.Graph{Nodes: nodes, Roots: []int{2}, Counts: []int{2, 0, 1}}
	isHeld(t, g, 0, impl.Graph{Nodes: nodes, Roots: []int{2, 0}, Counts: []int{3, 0, 1}})
	isHeld(t, g, 2, impl.Graph{Nodes: nodes, Roots: []int{2, 2}, Counts: []int{2, 0, 2}})
	for _, node := range []int{1, 3, 4, 14, -1, -2, 1 << 32, math.MinInt, math.MaxInt} {
		refusedHold(t, g, node)
	}
	refusedHold(t, impl.Graph{}, 0)
	refusedHold(t, impl.Graph{}, -1)
	refusedHold(t, slowGraph([]impl.Node{goneNode}), 0)
	five := slowGraph(chainOf(14), 13, 0, 0, 5, 13)
	isHeld(t, five, 7, slowGraph(chainOf(14), 13, 0, 0, 5, 13, 7))
	isHeld(t, five, 13, slowGraph(chainOf(14), 13, 0, 0, 5, 13, 13))
	for k := range 14 {
		refusedHold(t, slowGraph(chainOf(14), 13, 0, 0, 5, 13, 7), k)
	}
}

func isLinked(t *testing.T, g impl.Graph, from int, to int, want impl.Graph) {
	t.Helper()
	if x, ok := impl.LinkNode(g, from, to); !sameGraph(x, want) || !ok {
		t.Errorf("LinkNode %v %d %d: %v %v, want %v", g, from, to, x, ok, want)
	}
}

func TestPromise10KnownLinks(t *testing.T) {
	g := impl.Graph{Nodes: []impl.Node{{}, goneNode, {Holds: []int{0}}, {}}, Roots: []int{2, 3}, Counts: []int{1, 0, 1, 1}}
	isLinked(t, g, 2, 0, impl.Graph{Nodes: []impl.Node{{}, goneNode, {Holds: []int{0, 0}}, {}}, Roots: []int{2, 3}, Counts: []int{2, 0, 1, 1}})
	isLinked(t, g, 3, 0, impl.Graph{Nodes: []impl.Node{{}, goneNode, {Holds: []int{0}}, {Holds: []int{0}}}, Roots: []int{2, 3}, Counts: []int{2, 0, 1, 1}})
	isLinked(t, g, 3, 2, impl.Graph{Nodes: []impl.Node{{}, goneNode, {Holds: []int{0}}, {Holds: []int{2}}}, Roots: []int{2, 3}, Counts: []int{1, 0, 2, 1}})
	for _, x := range [][2]int{{0, 0}, {0, 2}, {2, 2}, {2, 3}, {3, 3}, {1, 0}, {2, 1}, {3, 1}, {1, 1}, {1, 2}, {4, 0}, {5, 4}, {-1, 0}, {-1, -2}, {3, -1}, {0, -1}, {3, 4}} {
		refusedLink(t, g, x[0], x[1])
	}
	for _, n := range []int{-14, 14, 1 << 32, math.MinInt, math.MaxInt} {
		refusedLink(t, g, n, 0)
		refusedLink(t, g, 3, n)
		refusedLink(t, g, n, n-1)
	}
	refusedLink(t, impl.Graph{}, 0, 0)
	refusedLink(t, impl.Graph{}, 1, 0)
	refusedLink(t, impl.Graph{}, 0, -1)
}

func TestPromise10LinksWhereThereIsRoom(t *testing.T) {
	for n := range 7 {
		held := append([]int{1}, make([]int, n)...)[:n]
		g := slowGraph(nodesOf(nil, nil, held), 2, 0, 1)
		for to := range 2 {
			if n < 6 {
				isLinked(t, g, 2, to, slowGraph(nodesOf(nil, nil, append(slices.Clone(held), to)), 2, 0, 1))
			} else {
				refusedLink(t, g, 2, to)
			}
		}
	}
	full := slowGraph(chainOf(14), 13)
	for from := range 14 {
		for to := range from {
			nodes := chainOf(14)
			nodes[from].Holds = append(nodes[from].Holds, to)
			isLinked(t, full, from, to, slowGraph(nodes, 13))
		}
	}
}
