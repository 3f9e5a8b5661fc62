package tests

import (
	"math"
	"slices"
	"testing"

	"loop.example/g01618/impl"
)

// Promise 5: RootDist is the minimum MapCost of all valid mappings that map root
// to root. Promise 4: CellsIn is bounded by the product of depths and leaves.
// Promise 7: with unit costs the distance is 0 exactly for equal trees, and the
// triangle inequality holds; exchanging the trees together with the costs of
// insertion and deletion gives the same distance. These tests hold them for the
// functions of chapter 8.

// leastCosts returns the least cost of all mappings of two subtrees, and the
// least cost of those that map root to root.
type leastCosts func(i int, k int) (int, int)

// A mapSearch goes through every valid mapping of two subtrees.
type mapSearch struct {
	a, b   *drawn
	c      impl.Cost
	pairs  [][2]int
	endA   int
	endB   int
	all    int
	rooted int
}

// searched finds the least costs by looking at every valid mapping.
func searched(a *drawn, b *drawn, c impl.Cost) leastCosts {
	return func(i int, k int) (int, int) {
		s := &mapSearch{a: a, b: b, c: c, endA: a.ends[i], endB: b.ends[k], all: math.MaxInt, rooted: math.MaxInt}
		inserted := 0
		for y := k; y < s.endB; y++ {
			inserted += c.Ins[b.nodes[y].Label]
		}
		s.try(i, k, i, k, inserted)
		return s.all, s.rooted
	}
}

// try decides about node x of a and those after it, which can be mapped to node
// y of b and those after it. The cost is that of the mapping so far, with all
// other nodes of b inserted.
func (s *mapSearch) try(i int, k int, x int, y int, cost int) {
	if x == s.endA {
		s.all = min(s.all, cost)
		if len(s.pairs) > 0 && s.pairs[0] == [2]int{i, k} {
			s.rooted = min(s.rooted, cost)
		}
		return
	}
	label := s.a.nodes[x].Label
	s.try(i, k, x+1, y, cost+s.c.Del[label])
	for to := y; to < s.endB; to++ {
		if !s.fits(x, to) {
			continue
		}
		other := s.b.nodes[to].Label
		s.pairs = append(s.pairs, [2]int{x, to})
		s.try(i, k, x+1, to+1, cost+s.c.Rel[6*label+other]-s.c.Ins[other])
		s.pairs = s.pairs[:len(s.pairs)-1]
	}
}

// fits reports whether each pair so far is above both nodes or above none.
func (s *mapSearch) fits(x int, to int) bool {
	for _, pair := range s.pairs {
		if s.a.isUnder(pair[0], x) != s.b.isUnder(pair[1], to) {
			return false
		}
	}
	return true
}

// A forestSearch takes forests apart from the left, for trees with too many
// mappings to look at each. What is left of a forest is always a range of nodes
// in preorder.
type forestSearch struct {
	a, b *drawn
	c    impl.Cost
	memo map[[4]int]int
}

// takenApart finds the least costs by taking forests apart.
func takenApart(a *drawn, b *drawn, c impl.Cost) leastCosts {
	s := &forestSearch{a, b, c, map[[4]int]int{}}
	return func(i int, k int) (int, int) {
		rel := c.Rel[6*a.nodes[i].Label+b.nodes[k].Label]
		return s.least(i, a.ends[i], k, b.ends[k]), rel + s.least(i+1, a.ends[i], k+1, b.ends[k])
	}
}

// least returns the least cost of a mapping of the nodes from i to j-1 of a and
// from k to m-1 of b.
func (s *forestSearch) least(i int, j int, k int, m int) int {
	if i == j && k == m {
		return 0
	}
	key := [4]int{i, j, k, m}
	if n, ok := s.memo[key]; ok {
		return n
	}
	least := math.MaxInt
	if i < j {
		least = min(least, s.c.Del[s.a.nodes[i].Label]+s.least(i+1, j, k, m))
	}
	if k < m {
		least = min(least, s.c.Ins[s.b.nodes[k].Label]+s.least(i, j, k+1, m))
	}
	if i < j && k < m {
		rel := s.c.Rel[6*s.a.nodes[i].Label+s.b.nodes[k].Label]
		below := s.least(i+1, s.a.ends[i], k+1, s.b.ends[k])
		least = min(least, rel+below+s.least(s.a.ends[i], j, s.b.ends[k], m))
	}
	s.memo[key] = least
	return least
}

// checkDists holds the distances to the least costs that a search finds.
func checkDists(t *testing.T, a *drawn, b *drawn, c impl.Cost, least leastCosts) {
	t.Helper()
	var want []int
	for _, i := range a.positions().order {
		for _, k := range b.positions().order {
			all, _ := least(i, k)
			want = append(want, all)
		}
	}
	_, rooted := least(0, 0)
	if got := impl.TreeDists(a.nodes, b.nodes, c); !slices.Equal(got, want) {
		t.Fatalf("TreeDists(%v, %v, %v) = %v, want %v", a.nodes, b.nodes, c, got, want)
	}
	if got := impl.TreeDist(a.nodes, b.nodes, c); got != want[len(want)-1] {
		t.Fatalf("TreeDist(%v, %v, %v) = %d, want %d", a.nodes, b.nodes, c, got, want[len(want)-1])
	}
	if got := impl.RootDist(a.nodes, b.nodes, c); got != rooted {
		t.Fatalf("RootDist(%v, %v, %v) = %d, want %d", a.nodes, b.nodes, c, got, rooted)
	}
}

// checkCells holds CellsIn to a sum over the pairs of key roots. A key root is
// the root, or a node that has a sibling before it.
func checkCells(t *testing.T, a *drawn, b *drawn) {
	t.Helper()
	want := 0
	for _, m := range keySizes(a) {
		for _, n := range keySizes(b) {
			want += m * n
		}
	}
	if got := impl.CellsIn(a.nodes, b.nodes); got != want {
		t.Errorf("CellsIn(%v, %v) = %d, want %d", a.nodes, b.nodes, got, want)
	}
}

// keySizes lists the sizes of the subtrees of the key roots.
func keySizes(d *drawn) []int {
	out := []int{len(d.nodes)}
	for _, kids := range d.kids {
		for _, kid := range kids[min(1, len(kids)):] {
			out = append(out, d.ends[kid]-kid)
		}
	}
	return out
}

// checkNoDists holds the functions of costs to their results for arguments of
// which one is invalid.
func checkNoDists(t *testing.T, a []impl.Node, b []impl.Node, c impl.Cost) {
	t.Helper()
	if got := impl.TreeDists(a, b, c); len(got) != 0 {
		t.Errorf("TreeDists(%v, %v, %v) = %v, want none", a, b, c, got)
	}
	if got := impl.TreeDist(a, b, c); got != -1 {
		t.Errorf("TreeDist(%v, %v, %v) = %d, want -1", a, b, c, got)
	}
	if got := impl.RootDist(a, b, c); got != -1 {
		t.Errorf("RootDist(%v, %v, %v) = %d, want -1", a, b, c, got)
	}
}

// checkNotCompared holds all functions to their results for a list that is no
// valid tree, on either side.
func checkNotCompared(t *testing.T, l []impl.Node, other []impl.Node, c impl.Cost) {
	t.Helper()
	for _, pair := range [][2][]impl.Node{{l, other}, {other, l}, {l, l}} {
		checkNoDists(t, pair[0], pair[1], c)
		if got := impl.CellsIn(pair[0], pair[1]); got != 0 {
			t.Errorf("CellsIn(%v, %v) = %d, want 0", pair[0], pair[1], got)
		}
	}
}

// A noResult holds a function of two trees to its result for arguments of which
// one is invalid.
type noResult func(t *testing.T, a []impl.Node, b []impl.Node, c impl.Cost)

// checkCostsBeyondTheirLimits calls check with costs of which one number is just
// too large or too small.
func checkCostsBeyondTheirLimits(t *testing.T, check noResult) {
	t.Helper()
	some := append(smallTrees(2), limitTrees()...)
	for _, c := range someCosts() {
		for table, size := range tableSizes {
			for i := range size {
				for n, a := range some {
					b := some[(n+1)%len(some)].nodes
					check(t, a.nodes, b, withElement(c, table, i, impl.MaxCost+1))
					check(t, a.nodes, b, withElement(c, table, i, -1))
				}
			}
		}
	}
}

// checkInvalidCosts calls check with costs that are not valid. The nodes need
// none of the numbers that are wrong, but all of them count.
func checkInvalidCosts(t *testing.T, check noResult) {
	t.Helper()
	for _, c := range invalidCosts() {
		for _, d := range []*drawn{draw(star(1)), draw(chain(2)), draw(star(impl.MaxNodes))} {
			check(t, d.nodes, d.nodes, c)
			check(t, d.nodes, treeIn("p(a b)"), c)
			check(t, treeIn("p(a b)"), d.nodes, c)
		}
		check(t, nil, nil, c)
		check(t, depthsOf(0, 2), treeIn("div"), c)
		check(t, treeIn("div"), depthsOf(0, 2), c)
	}
}

// levelCost returns costs that are the same for all labels.
func levelCost(del int, ins int, rel int) impl.Cost {
	return costFrom(func(table int, i int) int { return free(table, i, []int{del, ins, rel}[table]) })
}

// distCosts returns costs of which some make deleting and inserting a node
// cheaper than relabeling it, and some make it dearer.
func distCosts() []impl.Cost {
	return []impl.Cost{
		evenCost(0), evenCost(1), evenCost(impl.MaxCost),
		levelCost(1, 1, impl.MaxCost), levelCost(impl.MaxCost, impl.MaxCost, 1), levelCost(3, 5, 7), levelCost(1, 0, 2),
		levelCost(0, impl.MaxCost, 500), levelCost(impl.MaxCost, impl.MaxCost, 0), levelCost(0, 0, impl.MaxCost),
		countedCost(0, 20), countedCost(impl.MaxCost, -1), countedCost(110, 17),
		variedCost(3, 4), variedCost(5, 4), variedCost(7, impl.MaxCost+1), variedCost(8, impl.MaxCost+1),
	}
}

// fewCosts returns a few of distCosts.
func fewCosts() []impl.Cost {
	return []impl.Cost{evenCost(1), levelCost(3, 5, 7), countedCost(0, 20), variedCost(7, impl.MaxCost+1)}
}

// relabeled returns every tree with the shape of d and these labels.
func relabeled(d *drawn, labels []int) []*drawn {
	out := []*drawn{d}
	for i := range d.nodes {
		var next []*drawn
		for _, e := range out {
			for _, label := range labels {
				changed := *e
				changed.nodes = slices.Clone(e.nodes)
				changed.nodes[i].Label = label
				next = append(next, &changed)
			}
		}
		out = next
	}
	return out
}

// relabeledTrees returns every tree of at most n nodes with these labels.
func relabeledTrees(n int, labels ...int) []*drawn {
	var out []*drawn
	for _, d := range smallTrees(n) {
		out = append(out, relabeled(d, labels)...)
	}
	return out
}

// greatTrees returns trees with the most nodes or the greatest depth, and varied
// trees of other sizes.
func greatTrees() []*drawn {
	out := limitTrees()
	for n := 9; n <= impl.MaxNodes; n += 3 {
		out = append(out, variedTree(n, uint32(n)))
	}
	return append(out, variedTree(impl.MaxNodes, 1), variedTree(impl.MaxNodes, 2))
}

func drawnIn(s string) *drawn {
	return draw(branchOf(s))
}

func TestDistOfSomeTrees(t *testing.T) {
	cases := []struct {
		a, b string
		c    impl.Cost
		all  int
		root int
	}{
		{"div", "div", evenCost(1), 0, 0},
		{"div", "p", evenCost(1), 1, 1},
		{"div", "p", levelCost(3, 5, 7), 7, 7},
		{"div", "p", levelCost(3, 5, 9), 8, 9},
		{"div", "div(p)", levelCost(3, 5, 7), 5, 5},
		{"div(p)", "div", levelCost(3, 5, 7), 3, 3},
		{"div(p)", "p", levelCost(3, 5, 7), 3, 10},
		{"p", "div(p)", levelCost(3, 5, 7), 5, 12},
		{"div(p)", "p(div)", evenCost(1), 2, 2},
		{"div(p b)", "div(b p)", evenCost(1), 2, 2},
		{"div(p(a ul(b)) li)", "div(ul(p(a b)) li)", evenCost(1), 2, 2},
		{"div(p b)", "div(ul(p b))", evenCost(1), 1, 1},
		{"div(p(a b))", "div(p a b)", evenCost(1), 2, 2},
		{"div(p(a) b)", "p(a)", evenCost(1), 2, 3},
		{"div(p(a b) ul)", "p(a b)", evenCost(1), 2, 3},
	}
	for _, c := range cases {
		a, b := treeIn(c.a), treeIn(c.b)
		if got := impl.TreeDist(a, b, c.c); got != c.all {
			t.Errorf("TreeDist of %s and %s = %d, want %d", c.a, c.b, got, c.all)
		}
		if got := impl.RootDist(a, b, c.c); got != c.root {
			t.Errorf("RootDist of %s and %s = %d, want %d", c.a, c.b, got, c.root)
		}
	}
}

func TestTreeDistsOrder(t *testing.T) {
	// The positions are those of a, p, b and div, and of b and ul.
	got := impl.TreeDists(treeIn("div(p(a) b)"), treeIn("ul(b)"), levelCost(3, 5, 50))
	want := []int{8, 13, 11, 16, 0, 5, 9, 14}
	if !slices.Equal(got, want) {
		t.Errorf("TreeDists = %v, want %v", got, want)
	}
	// Which label of a pair is the old one, and which costs are for which tree.
	c := levelCost(100, 200, 50)
	c.Rel[6*1+2] = 7
	c.Del[1], c.Ins[2] = 60, 70
	if got := impl.TreeDists(treeIn("div(p)"), treeIn("div(a)"), c); !slices.Equal(got, []int{7, 120, 107, 7}) {
		t.Errorf("TreeDists = %v", got)
	}
}

func TestDistIsLeastOverSmallTrees(t *testing.T) {
	trees := smallTrees(5)
	for _, c := range distCosts() {
		for _, a := range trees {
			for _, b := range trees {
				checkDists(t, a, b, c, searched(a, b, c))
			}
		}
	}
}

func TestDistIsLeastOverAllLabels(t *testing.T) {
	for _, labels := range [][]int{{0, 1, 2}, {3, 5, 4}} {
		trees := relabeledTrees(3, labels...)
		for _, c := range fewCosts() {
			for _, a := range trees {
				for _, b := range trees {
					checkDists(t, a, b, c, searched(a, b, c))
				}
			}
		}
	}
}

func TestDistIsLeastOverVariedTrees(t *testing.T) {
	for seed := range uint32(60) {
		a := variedTree(5+int(seed)%4, seed)
		b := variedTree(5+int(seed)/4%4, seed+1000)
		for _, c := range []impl.Cost{evenCost(1), variedCost(seed, 5), variedCost(seed+100, impl.MaxCost+1)} {
			checkDists(t, a, b, c, searched(a, b, c))
		}
	}
}

func TestDistIsLeastOverGreatTrees(t *testing.T) {
	trees := greatTrees()
	for n, a := range trees {
		for k, b := range trees {
			c := fewCosts()[(n+k)%4]
			checkDists(t, a, b, c, takenApart(a, b, c))
		}
	}
}

// The two searches agree, so that the one for great trees can be relied on.
func TestDistSearchesAgree(t *testing.T) {
	trees := append(smallTrees(4), variedTree(7, 1), variedTree(8, 2), variedTree(8, 3))
	for _, c := range distCosts() {
		for _, a := range trees {
			for _, b := range trees {
				all, rooted := searched(a, b, c)(0, 0)
				if m, n := takenApart(a, b, c)(0, 0); m != all || n != rooted {
					t.Fatalf("%d and %d, but %d and %d for %v and %v", m, n, all, rooted, a.nodes, b.nodes)
				}
			}
		}
	}
}

func TestTreeDistsAreDistancesOfSubtrees(t *testing.T) {
	trees := append(smallTrees(4), greatTrees()...)
	for n, a := range trees {
		b := trees[(5*n+3)%len(trees)]
		c := fewCosts()[n%4]
		dists := impl.TreeDists(a.nodes, b.nodes, c)
		if len(dists) != len(a.nodes)*len(b.nodes) {
			t.Fatalf("TreeDists(%v, %v) has %d elements", a.nodes, b.nodes, len(dists))
		}
		at := 0
		for _, i := range impl.PostOrder(a.nodes) {
			for _, k := range impl.PostOrder(b.nodes) {
				if got := impl.TreeDist(impl.SubTree(a.nodes, i), impl.SubTree(b.nodes, k), c); got != dists[at] {
					t.Errorf("TreeDist of the subtrees %d and %d of %v and %v = %d, want %d", i, k, a.nodes, b.nodes, got, dists[at])
				}
				at++
			}
		}
		if got := impl.TreeDist(a.nodes, b.nodes, c); got != dists[len(dists)-1] {
			t.Errorf("TreeDist(%v, %v, %v) = %d, but TreeDists ends with %d", a.nodes, b.nodes, c, got, dists[len(dists)-1])
		}
	}
}

// A tree of one node, against every kind of tree: either the node is in no pair,
// or it is paired with one of the nodes of the other tree.
func TestDistSingleNode(t *testing.T) {
	trees := append(manyTrees(), relabeledTrees(2, upTo(6)...)...)
	for label := range 6 {
		one := draw(&branch{label: label})
		for n, b := range trees {
			c := distCosts()[n%len(distCosts())]
			checkDists(t, one, b, c, takenApart(one, b, c))
			checkDists(t, b, one, c, takenApart(b, one, c))
			checkCells(t, one, b)
			checkCells(t, b, one)
		}
		for other := range 6 {
			for _, c := range distCosts() {
				b := draw(&branch{label: other})
				checkDists(t, one, b, c, searched(one, b, c))
				if got, want := impl.RootDist(one.nodes, b.nodes, c), c.Rel[6*label+other]; got != want {
					t.Errorf("RootDist of the labels %d and %d = %d, want %d", label, other, got, want)
				}
			}
		}
	}
	if got := impl.CellsIn(treeIn("div"), treeIn("p")); got != 1 {
		t.Errorf("CellsIn of single nodes = %d, want 1", got)
	}
}

// What is below the roots is a forest with a single node on one side, and with
// none, one or several on the other.
func TestDistForestWithSingleNode(t *testing.T) {
	for label := range 6 {
		one := draw(&branch{label: 5, kids: []*branch{{label: label}}})
		for _, c := range distCosts() {
			for _, b := range smallTrees(5) {
				checkDists(t, one, b, c, searched(one, b, c))
				checkDists(t, b, one, c, searched(b, one, c))
			}
			for other := range 6 {
				b := draw(&branch{label: 5, kids: []*branch{{label: other}}})
				want := min(c.Rel[6*label+other], c.Del[label]+c.Ins[other])
				if got := impl.RootDist(one.nodes, b.nodes, c); got != want {
					t.Errorf("RootDist(%v, %v, %v) = %d, want %d", one.nodes, b.nodes, c, got, want)
				}
			}
		}
	}
	if got := impl.CellsIn(treeIn("div(p)"), treeIn("div(p)")); got != 4 {
		t.Errorf("CellsIn = %d, want 4", got)
	}
}

func TestDistSinglePath(t *testing.T) {
	for _, c := range fewCosts() {
		for m := 0; m <= impl.MaxDepth; m++ {
			for n := 0; n <= impl.MaxDepth; n++ {
				a, b := draw(chain(m)), draw(chain(n))
				checkDists(t, a, b, c, takenApart(a, b, c))
				if got := impl.CellsIn(a.nodes, b.nodes); got != (m+1)*(n+1) {
					t.Errorf("CellsIn of paths of %d and %d nodes = %d", m+1, n+1, got)
				}
			}
		}
	}
	// The nodes of a path have the labels n%6 from the deepest one up, so that
	// only the upper nodes of the longer one are without a pair.
	if got := impl.TreeDist(draw(chain(12)).nodes, draw(chain(5)).nodes, levelCost(3, 5, 7)); got != 7*3 {
		t.Errorf("TreeDist of paths = %d, want 21", got)
	}
	if got := impl.RootDist(draw(chain(12)).nodes, draw(chain(6)).nodes, levelCost(3, 5, 7)); got != 6*3 {
		t.Errorf("RootDist of paths = %d, want 18", got)
	}
}

func TestDistRootWithMostChildren(t *testing.T) {
	for _, c := range fewCosts() {
		for n := 2; n <= impl.MaxNodes; n++ {
			for _, m := range []int{1, 2, n - 1, impl.MaxNodes - 1, impl.MaxNodes} {
				a, b := draw(star(n)), draw(star(m))
				checkDists(t, a, b, c, takenApart(a, b, c))
				checkCells(t, a, b)
			}
		}
	}
	most := draw(star(impl.MaxNodes)).nodes
	if got := impl.CellsIn(most, most); got != 46*46 {
		t.Errorf("CellsIn of roots with 23 children = %d, want 2116", got)
	}
	if got := impl.RootDist(most, most[:1], levelCost(3, 5, 7)); got != 23*3 {
		t.Errorf("RootDist of 23 children and none = %d, want 69", got)
	}
	if got := impl.RootDist(most[:1], most, levelCost(3, 5, 7)); got != 23*5 {
		t.Errorf("RootDist of no children and 23 = %d, want 115", got)
	}
	checkNotCompared(t, draw(star(impl.MaxNodes+1)).nodes, most, evenCost(1))
}

func TestDistMostNodesAndGreatestDepth(t *testing.T) {
	for _, a := range limitTrees() {
		for _, b := range append(limitTrees(), smallTrees(3)...) {
			for _, c := range distCosts()[:7] {
				checkDists(t, a, b, c, takenApart(a, b, c))
				checkDists(t, b, a, c, takenApart(b, a, c))
			}
			checkCells(t, a, b)
			checkCells(t, b, a)
			if len(a.nodes) == impl.MaxNodes {
				last := impl.Node{Depth: 1}
				checkNotCompared(t, append(slices.Clone(a.nodes), last), b.nodes, evenCost(1))
			}
		}
	}
	for _, b := range append(limitTrees(), smallTrees(3)...) {
		checkNotCompared(t, draw(chain(impl.MaxDepth+1)).nodes, b.nodes, evenCost(1))
		checkNotCompared(t, draw(star(impl.MaxNodes+1)).nodes, b.nodes, evenCost(1))
	}
}

// sameLabel returns d with one label in place of all.
func sameLabel(d *drawn, label int) *drawn {
	return relabeled(d, []int{label})[0]
}

func TestDistLargestCosts(t *testing.T) {
	for _, n := range []int{1, 2, 12, impl.MaxNodes} {
		a, b := sameLabel(draw(star(n)), 0).nodes, sameLabel(draw(star(n)), 1).nodes
		if got := impl.TreeDist(a, b, evenCost(impl.MaxCost)); got != n*impl.MaxCost {
			t.Errorf("TreeDist of %d relabeled nodes = %d", n, got)
		}
		if got := impl.RootDist(a, b, evenCost(impl.MaxCost)); got != n*impl.MaxCost {
			t.Errorf("RootDist of %d relabeled nodes = %d", n, got)
		}
		if got := impl.RootDist(a, b[:1], evenCost(impl.MaxCost)); got != n*impl.MaxCost {
			t.Errorf("RootDist of %d deleted nodes = %d", n, got)
		}
		if got := impl.RootDist(a[:1], b, evenCost(impl.MaxCost)); got != n*impl.MaxCost {
			t.Errorf("RootDist of %d inserted nodes = %d", n, got)
		}
		// Only the root has to be relabeled where replacing it costs less.
		dear := levelCost(100, 200, impl.MaxCost)
		if got := impl.TreeDist(a, b, dear); got != n*300 {
			t.Errorf("TreeDist of %d replaced nodes = %d", n, got)
		}
		if got := impl.RootDist(a, b, dear); got != impl.MaxCost+(n-1)*300 {
			t.Errorf("RootDist of %d replaced nodes = %d", n, got)
		}
	}
}

func TestDistCostBeyondItsLimit(t *testing.T) {
	checkCostsBeyondTheirLimits(t, checkNoDists)
}

func TestDistInvalidCosts(t *testing.T) {
	checkInvalidCosts(t, checkNoDists)
}

func TestDistInvalidTrees(t *testing.T) {
	for _, l := range invalidTrees() {
		for _, other := range [][]impl.Node{treeIn("div"), treeIn("p(a(ul) b)"), draw(star(impl.MaxNodes)).nodes, nil, depthsOf(0, 1, 0)} {
			checkNotCompared(t, l, other, evenCost(1))
		}
		checkNoDists(t, l, treeIn("div"), impl.Cost{})
		checkNoDists(t, treeIn("div"), l, impl.Cost{})
	}
}

func TestCellsInOfManyTrees(t *testing.T) {
	trees := manyTrees()
	for n, a := range trees {
		for k := range 10 {
			checkCells(t, a, trees[(n*7+k*101)%len(trees)])
		}
		checkCells(t, a, a)
	}
	cases := []struct {
		a, b string
		want int
	}{
		{"div(p b)", "div", 4},
		{"div(p(a b) ul)", "div(p(a b) ul)", 49},
		{"div(p(a) b)", "div(b p(a))", 5 * 6},
		{"div(p(a(b)))", "div(p b)", 16},
	}
	for _, c := range cases {
		if got := impl.CellsIn(treeIn(c.a), treeIn(c.b)); got != c.want {
			t.Errorf("CellsIn of %s and %s = %d, want %d", c.a, c.b, got, c.want)
		}
	}
}

func TestCellsInDoesNotDependOnLabels(t *testing.T) {
	for _, a := range greatTrees() {
		for _, b := range greatTrees() {
			want := impl.CellsIn(a.nodes, b.nodes)
			if got := impl.CellsIn(sameLabel(a, 3).nodes, sameLabel(b, 4).nodes); got != want {
				t.Errorf("CellsIn(%v, %v) = %d, but %d with other labels", a.nodes, b.nodes, want, got)
			}
		}
	}
}

// No node is in the subtrees of more key roots than there are levels, or leaves.
func TestCellsInIsBounded(t *testing.T) {
	bound := func(l []impl.Node) int {
		return len(l) * min(impl.HeightOf(l), impl.LeavesOf(l))
	}
	trees := append(smallTrees(6), greatTrees()...)
	for _, a := range trees {
		for _, b := range trees {
			got, least := impl.CellsIn(a.nodes, b.nodes), len(a.nodes)*len(b.nodes)
			if got < least || got > bound(a.nodes)*bound(b.nodes) {
				t.Errorf("CellsIn(%v, %v) = %d, want from %d to %d", a.nodes, b.nodes, got, least, bound(a.nodes)*bound(b.nodes))
			}
		}
	}
}

func TestUnitDistIsZeroForEqualTreesOnly(t *testing.T) {
	trees := append(relabeledTrees(4, 1, 4), relabeledTrees(2, upTo(6)...)...)
	trees = append(trees, greatTrees()...)
	for _, a := range trees {
		for _, b := range trees {
			equal := slices.Equal(a.nodes, b.nodes)
			if got := impl.TreeDist(a.nodes, b.nodes, impl.UnitCost()); (got == 0) != equal || got < 0 {
				t.Errorf("TreeDist(%v, %v) = %d", a.nodes, b.nodes, got)
			}
			if got := impl.RootDist(a.nodes, b.nodes, impl.UnitCost()); (got == 0) != equal || got < 0 {
				t.Errorf("RootDist(%v, %v) = %d", a.nodes, b.nodes, got)
			}
		}
	}
}

// One change makes a distance of 1, wherever it is.
func TestUnitDistOfOneChange(t *testing.T) {
	for _, d := range append(smallTrees(5), greatTrees()...) {
		for i := range d.nodes {
			l := slices.Clone(d.nodes)
			l[i].Label = (l[i].Label + 1) % 6
			checkUnitDist(t, d.nodes, l, 1)
		}
		for i := 1; i < len(d.nodes); i++ {
			l := slices.Clone(d.nodes)
			for k := i; k < d.ends[i]; k++ {
				l[k].Depth--
			}
			l = slices.Delete(l, i, i+1)
			checkUnitDist(t, d.nodes, l, 1)
		}
		checkUnitDist(t, d.nodes, d.nodes, 0)
	}
}

// checkUnitDist holds both distances to a number, in both directions.
func checkUnitDist(t *testing.T, a []impl.Node, b []impl.Node, want int) {
	t.Helper()
	c := impl.UnitCost()
	got := []int{impl.TreeDist(a, b, c), impl.TreeDist(b, a, c), impl.RootDist(a, b, c), impl.RootDist(b, a, c)}
	if count(got, want) != len(got) {
		t.Errorf("distances of %v and %v are %v, want %d", a, b, got, want)
	}
}

// checkTriangles holds a distance of each pair of trees to being no more than
// the way over a third one.
func checkTriangles(t *testing.T, trees []*drawn, dist func(a []impl.Node, b []impl.Node, c impl.Cost) int) {
	t.Helper()
	table := make([][]int, len(trees))
	for i, a := range trees {
		for _, b := range trees {
			table[i] = append(table[i], dist(a.nodes, b.nodes, impl.UnitCost()))
		}
	}
	for i, a := range trees {
		for j, b := range trees {
			for k, c := range trees {
				if table[i][k] > table[i][j]+table[j][k] {
					t.Fatalf("%v, %v, %v: %d > %d + %d", a.nodes, b.nodes, c.nodes, table[i][k], table[i][j], table[j][k])
				}
			}
			if table[i][j] != table[j][i] {
				t.Fatalf("%v, %v: %d and %d", a.nodes, b.nodes, table[i][j], table[j][i])
			}
		}
	}
}

func TestUnitDistTriangles(t *testing.T) {
	great := greatTrees()
	for seed := range uint32(40) {
		great = append(great, variedTree(3+int(seed)%22, seed))
	}
	for _, trees := range [][]*drawn{relabeledTrees(4, 1, 4), smallTrees(6), great} {
		checkTriangles(t, trees, impl.TreeDist)
		checkTriangles(t, trees, impl.RootDist)
	}
}

// exchanged returns the costs of the way back.
func exchanged(c impl.Cost) impl.Cost {
	return costFrom(func(table int, i int) int {
		return [][]int{c.Ins, c.Del, turned(c.Rel)}[table][i]
	})
}

// turned returns the table of relabeling with the old and the new label
// exchanged.
func turned(rel []int) []int {
	var out []int
	for i := range rel {
		out = append(out, rel[i%6*6+i/6])
	}
	return out
}

func checkExchanged(t *testing.T, a []impl.Node, b []impl.Node, c impl.Cost, back impl.Cost) {
	t.Helper()
	there, again := impl.TreeDists(a, b, c), impl.TreeDists(b, a, back)
	if len(there) != len(a)*len(b) || len(again) != len(there) {
		t.Fatalf("TreeDists of %v and %v have %d and %d elements", a, b, len(there), len(again))
	}
	for at, n := range there {
		if other := again[at%len(b)*len(a)+at/len(b)]; other != n {
			t.Errorf("TreeDists(%v, %v, %v): element %d is %d, but %d when exchanged", a, b, c, at, n, other)
		}
	}
	if m, n := impl.TreeDist(a, b, c), impl.TreeDist(b, a, back); m != n {
		t.Errorf("TreeDist(%v, %v, %v) = %d, but %d when exchanged", a, b, c, m, n)
	}
	if m, n := impl.RootDist(a, b, c), impl.RootDist(b, a, back); m != n {
		t.Errorf("RootDist(%v, %v, %v) = %d, but %d when exchanged", a, b, c, m, n)
	}
}

func TestDistExchanged(t *testing.T) {
	trees := append(smallTrees(4), greatTrees()...)
	for n, a := range trees {
		for k, b := range trees {
			c := distCosts()[(n+3*k)%len(distCosts())]
			checkExchanged(t, a.nodes, b.nodes, c, exchanged(c))
			// If relabeling costs the same both ways, only the costs of
			// insertion and deletion are exchanged.
			level := levelCost(n, 5*k, 40)
			checkExchanged(t, a.nodes, b.nodes, level, impl.Cost{Del: level.Ins, Ins: level.Del, Rel: level.Rel})
			if m, n := impl.CellsIn(a.nodes, b.nodes), impl.CellsIn(b.nodes, a.nodes); m != n {
				t.Errorf("CellsIn(%v, %v) = %d, but %d when exchanged", a.nodes, b.nodes, m, n)
			}
		}
	}
}

func TestDistMultiplied(t *testing.T) {
	trees := append(smallTrees(4), greatTrees()...)
	for seed := range uint32(6) {
		c := variedCost(seed, 11)
		for _, factor := range []int{0, 1, 2, 7, 100} {
			many := costFrom(func(table int, i int) int { return factor * tablesOf(c)[table][i] })
			for n, a := range trees {
				b := trees[(n*5+int(seed))%len(trees)].nodes
				want := impl.TreeDists(a.nodes, b, c)
				for at := range want {
					want[at] *= factor
				}
				if got := impl.TreeDists(a.nodes, b, many); !slices.Equal(got, want) {
					t.Errorf("TreeDists(%v, %v, %v) = %v, want %v", a.nodes, b, many, got, want)
				}
				if got, want := impl.TreeDist(a.nodes, b, many), factor*impl.TreeDist(a.nodes, b, c); got != want {
					t.Errorf("TreeDist(%v, %v, %v) = %d, want %d", a.nodes, b, many, got, want)
				}
				if got, want := impl.RootDist(a.nodes, b, many), factor*impl.RootDist(a.nodes, b, c); got != want {
					t.Errorf("RootDist(%v, %v, %v) = %d, want %d", a.nodes, b, many, got, want)
				}
			}
		}
	}
}

func TestDistZeroCosts(t *testing.T) {
	trees := append(smallTrees(4), greatTrees()...)
	for _, a := range trees {
		for _, b := range trees {
			dists := impl.TreeDists(a.nodes, b.nodes, evenCost(0))
			if len(dists) != len(a.nodes)*len(b.nodes) || count(dists, 0) != len(dists) {
				t.Errorf("TreeDists(%v, %v) without costs = %v", a.nodes, b.nodes, dists)
			}
			if m, n := impl.TreeDist(a.nodes, b.nodes, evenCost(0)), impl.RootDist(a.nodes, b.nodes, evenCost(0)); m != 0 || n != 0 {
				t.Errorf("distances of %v and %v without costs = %d and %d", a.nodes, b.nodes, m, n)
			}
		}
	}
}

func TestDistArgumentsStayAsTheyAre(t *testing.T) {
	other := treeIn("p(a(ul) b)")
	checkArgumentStays(t, func(l []impl.Node) {
		for _, pair := range [][2][]impl.Node{{l, other}, {other, l}, {l, l}} {
			impl.TreeDists(pair[0], pair[1], evenCost(1))
			impl.TreeDist(pair[0], pair[1], evenCost(1))
			impl.RootDist(pair[0], pair[1], evenCost(1))
			impl.CellsIn(pair[0], pair[1])
		}
	})
	if !slices.Equal(other, treeIn("p(a(ul) b)")) {
		t.Errorf("p(a(ul) b) became %v", other)
	}
	for _, c := range append(distCosts(), invalidCosts()...) {
		held, full := heldCost(c)
		impl.TreeDists(other, treeIn("div(p)"), held)
		impl.TreeDist(other, treeIn("div(p)"), held)
		impl.RootDist(other, treeIn("div(p)"), held)
		_, want := heldCost(c)
		if !slices.EqualFunc(full, want, slices.Equal[[]int]) {
			t.Errorf("%v became %v", want, full)
		}
	}
}

// Nothing is left of one call for the next one, and a result is the caller's.
func TestDistResultsAreNewMemory(t *testing.T) {
	trees := append(smallTrees(4), greatTrees()...)
	for n, a := range trees {
		b, c := trees[(7*n+1)%len(trees)], fewCosts()[n%4]
		first, second := impl.TreeDists(a.nodes, b.nodes, c), impl.TreeDists(a.nodes, b.nodes, c)
		spoilTable(first)
		if third := impl.TreeDists(a.nodes, b.nodes, c); !slices.Equal(second, third) {
			t.Errorf("TreeDists(%v, %v, %v) = %v, and then %v", a.nodes, b.nodes, c, second, third)
		}
		checkDists(t, a, b, c, takenApart(a, b, c))
	}
}

// Nodes and costs in the unused capacity of a list do not count.
func TestDistUnusedCapacityDoesNotCount(t *testing.T) {
	for _, d := range append(smallTrees(4), limitTrees()...) {
		l := append(slices.Clone(d.nodes), impl.Node{Depth: 1})[:len(d.nodes)]
		checkUnitDist(t, l, d.nodes, 0)
		for _, c := range fewCosts() {
			held, _ := heldCost(c)
			if m, n := impl.RootDist(l, treeIn("p(a b)"), held), impl.RootDist(d.nodes, treeIn("p(a b)"), c); m != n {
				t.Errorf("RootDist(%v, p(a b), %v) = %d, want %d", l, c, m, n)
			}
			for table, list := range tablesOf(c) {
				checkNoDists(t, l, treeIn("p(a b)"), withTable(c, table, list[:len(list)-1]))
			}
		}
	}
}
