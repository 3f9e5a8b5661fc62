package tests

import (
	"math"
	"slices"
	"testing"

	"loop.example/g01618/impl"
)

// Promise 5: RootDist is the minimum MapCost of all valid mappings that map root
// to root, and BestMap attains it. Promise 8: the composition of two valid
// mappings is valid; so is the inverse of a mapping; the mapped nodes of both
// trees form trees of the same shape. These tests hold both for the functions of
// chapter 11.

// A traceback follows Trace and Match word for word as the chapter describes
// them. It counts which of the three alternatives have the cost of the ranges:
// deletion, insertion and match.
type traceback struct {
	a, b         *drawn
	fromA, fromB positions
	c            impl.Cost
	dist         leastForest
	seen         map[[3]bool]int
}

func newTraceback(a *drawn, b *drawn, c impl.Cost, dist leastForest) *traceback {
	return &traceback{a, b, a.positions(), b.positions(), c, dist, map[[3]bool]int{}}
}

// best returns Match of the full ranges, in ascending order of A.
func (s *traceback) best() []impl.Pair {
	m := s.match(s.a.whole(), s.b.whole())
	slices.SortFunc(m, func(p impl.Pair, q impl.Pair) int { return p.A - q.A })
	return m
}

func (s *traceback) trace(r span, u span) []impl.Pair {
	if r.i == r.j || u.i == u.j {
		return nil
	}
	d := s.dist(r, u)
	shorterR, shorterU := span{r.i, r.j - 1}, span{u.i, u.j - 1}
	label, other := s.a.nodes[s.fromA.order[r.j-1]].Label, s.b.nodes[s.fromB.order[u.j-1]].Label
	deleted := d == s.dist(shorterR, u)+s.c.Del[label]
	inserted := d == s.dist(r, shorterU)+s.c.Ins[other]
	before, below := s.beside(r, u)
	matched := d == s.c.Rel[6*label+other]+s.dist(before[0], before[1])+s.dist(below[0], below[1])
	s.seen[[3]bool{deleted, inserted, matched}]++
	if deleted {
		return s.trace(shorterR, u)
	}
	if inserted {
		return s.trace(r, shorterU)
	}
	return s.match(r, u)
}

func (s *traceback) match(r span, u span) []impl.Pair {
	before, below := s.beside(r, u)
	out := []impl.Pair{{A: s.fromA.order[r.j-1], B: s.fromB.order[u.j-1]}}
	out = append(out, s.trace(before[0], before[1])...)
	return append(out, s.trace(below[0], below[1])...)
}

// beside returns what the pair of the last nodes leaves of both ranges.
func (s *traceback) beside(r span, u span) ([2]span, [2]span) {
	p, q := max(r.i, s.fromA.left[r.j-1]), max(u.i, s.fromB.left[u.j-1])
	return [2]span{{r.i, p}, {u.i, q}}, [2]span{{p, r.j - 1}, {q, u.j - 1}}
}

// forestDist asks the program for the distance of two ranges, once for each.
func forestDist(a *drawn, b *drawn, c impl.Cost) leastForest {
	found := map[[2]span]int{}
	return func(r span, s span) int {
		key := [2]span{r, s}
		if _, ok := found[key]; !ok {
			found[key] = impl.ForestDist(a.nodes, r.i, r.j, b.nodes, s.i, s.j, c)
		}
		return found[key]
	}
}

func checkBestMap(t *testing.T, a []impl.Node, b []impl.Node, c impl.Cost, want []impl.Pair) {
	t.Helper()
	if got := impl.BestMap(a, b, c); !slices.Equal(got, want) {
		t.Fatalf("BestMap(%v, %v, %v) = %v, want %v", a, b, c, got, want)
	}
}

// checkNoBestMap holds BestMap to its result for arguments of which one is
// invalid.
func checkNoBestMap(t *testing.T, a []impl.Node, b []impl.Node, c impl.Cost) {
	t.Helper()
	if got := impl.BestMap(a, b, c); len(got) != 0 {
		t.Fatalf("BestMap(%v, %v, %v) = %v, want none", a, b, c, got)
	}
}

// checkNoBestMapOf holds BestMap to its result for a list that is no valid tree,
// on either side.
func checkNoBestMapOf(t *testing.T, l []impl.Node, other []impl.Node) {
	t.Helper()
	checkNoBestMap(t, l, other, evenCost(1))
	checkNoBestMap(t, other, l, evenCost(1))
	checkNoBestMap(t, l, l, evenCost(1))
}

// checkLeast holds BestMap to being a valid mapping that maps root to root, in
// ascending order of A and of B, and that costs the least that a search finds.
func checkLeast(t *testing.T, a *drawn, b *drawn, c impl.Cost, least int) {
	t.Helper()
	m := impl.BestMap(a.nodes, b.nodes, c)
	if !isMapping(a, b, m) || !impl.MapOk(a.nodes, b.nodes, m) {
		t.Fatalf("BestMap(%v, %v, %v) = %v is no mapping", a.nodes, b.nodes, c, m)
	}
	if len(m) == 0 || m[0] != (impl.Pair{}) || !impl.RootsPaired(m) {
		t.Fatalf("BestMap(%v, %v, %v) = %v does not pair the roots", a.nodes, b.nodes, c, m)
	}
	if got := summed(a, b, c, m); got != least {
		t.Fatalf("BestMap(%v, %v, %v) = %v costs %d, want %d", a.nodes, b.nodes, c, m, got, least)
	}
	if n := impl.RootDist(a.nodes, b.nodes, c); n != least {
		t.Fatalf("RootDist(%v, %v, %v) = %d, want %d", a.nodes, b.nodes, c, n, least)
	}
	checkMapCost(t, a.nodes, b.nodes, c, m, least)
	checkAllNodesOnce(t, a.nodes, b.nodes, m)
}

// checkTraced holds BestMap to the traceback over the program's own distances.
func checkTraced(t *testing.T, a *drawn, b *drawn, c impl.Cost) {
	t.Helper()
	checkBestMap(t, a.nodes, b.nodes, c, newTraceback(a, b, c, forestDist(a, b, c)).best())
}

// checkApart holds BestMap to the traceback over distances that the test finds.
func checkApart(t *testing.T, a *drawn, b *drawn, c impl.Cost) {
	t.Helper()
	checkBestMap(t, a.nodes, b.nodes, c, newTraceback(a, b, c, setsApart(a, b, c)).best())
}

// without returns the numbers from 0 to n-1 that are not in a list.
func without(n int, list []int) []int {
	in := map[int]bool{}
	for _, i := range list {
		in[i] = true
	}
	return slices.DeleteFunc(upTo(n), func(i int) bool { return in[i] })
}

// checkUnpaired holds Unmapped and Missing to the nodes that no pair has. It
// accepts any lists.
func checkUnpaired(t *testing.T, a []impl.Node, b []impl.Node, m []impl.Pair) {
	t.Helper()
	as, bs := nodesOf(m)
	if got, want := impl.Unmapped(a, m), without(len(a), as); !slices.Equal(got, want) {
		t.Fatalf("Unmapped(%v, %v) = %v, want %v", a, m, got, want)
	}
	if got, want := impl.Missing(b, m), without(len(b), bs); !slices.Equal(got, want) {
		t.Fatalf("Missing(%v, %v) = %v, want %v", b, m, got, want)
	}
}

// checkAllNodesOnce holds the nodes of a valid mapping, together with those that
// it leaves, to being all nodes of both trees.
func checkAllNodesOnce(t *testing.T, a []impl.Node, b []impl.Node, m []impl.Pair) {
	t.Helper()
	checkUnpaired(t, a, b, m)
	as, bs := nodesOf(m)
	as, bs = append(as, impl.Unmapped(a, m)...), append(bs, impl.Missing(b, m)...)
	slices.Sort(as)
	slices.Sort(bs)
	if !slices.Equal(as, upTo(len(a))) || !slices.Equal(bs, upTo(len(b))) {
		t.Fatalf("%v of %v and %v has and leaves the nodes %v and %v", m, a, b, as, bs)
	}
}

func TestBestMapOfSomeTrees(t *testing.T) {
	cases := []struct {
		a, b string
		c    impl.Cost
		want []impl.Pair
	}{
		{"div", "div", evenCost(1), pairsOf(0, 0)},
		{"div", "p", evenCost(1), pairsOf(0, 0)},
		{"div(p)", "div(a)", evenCost(1), pairsOf(0, 0, 1, 1)},
		{"div(p(a b) ul)", "div(a b li)", evenCost(1), pairsOf(0, 0, 2, 1, 3, 2, 4, 3)},
		{"div(a b li)", "div(p(a b) ul)", evenCost(1), pairsOf(0, 0, 1, 2, 2, 3, 3, 4)},
		{"div(p b)", "div(ul(p b))", evenCost(1), pairsOf(0, 0, 1, 2, 2, 3)},
		{"div(p(a) b)", "p(a)", evenCost(1), pairsOf(0, 0, 2, 1)},
		{"div(p(a ul(b)) li)", "div(ul(p(a b)) li)", evenCost(1), pairsOf(0, 0, 1, 2, 2, 3, 4, 4, 5, 5)},
		{"div(p a b)", "div(b(ul li))", levelCost(3, 5, 7), pairsOf(0, 0, 3, 1)},
		// The whole trees are closer without the pair of the roots.
		{"div(p)", "p", levelCost(3, 5, 7), pairsOf(0, 0)},
		{"p", "div(p)", levelCost(3, 5, 7), pairsOf(0, 0)},
		{"div(p(a(b)))", "p(a(b))", levelCost(1, 1, 10), pairsOf(0, 0, 2, 1, 3, 2)},
		{"div", "p", levelCost(1, 1, impl.MaxCost), pairsOf(0, 0)},
	}
	for _, c := range cases {
		checkBestMap(t, treeIn(c.a), treeIn(c.b), c.c, c.want)
	}
}

// Some ranges of each case have the alternatives of equal cost that it names. The
// pairs that are left show which of them was taken.
func TestBestMapAlternativesOfEqualCost(t *testing.T) {
	unit, apart := evenCost(1), levelCost(1, 1, 2)
	deleteInsert, deleteMatch, insertMatch := [3]bool{true, true, false}, [3]bool{true, false, true}, [3]bool{false, true, true}
	all := [3]bool{true, true, true}
	cases := []struct {
		tie  [3]bool
		a, b string
		c    impl.Cost
		want []impl.Pair
	}{
		// Deletion of a and insertion of p. Relabeling both costs more.
		{deleteInsert, "div(p a)", "div(a p)", apart, pairsOf(0, 0, 1, 2)},
		{deleteInsert, "div(ul(p a) b)", "div(ul(a p) b)", apart, pairsOf(0, 0, 1, 1, 2, 3, 4, 4)},
		{deleteInsert, "div(p(a))", "div(a(p))", apart, pairsOf(0, 0, 2, 1)},
		// Deletion of the last p, and its pair with the only one.
		{deleteMatch, "div(p p)", "div(p)", unit, pairsOf(0, 0, 1, 1)},
		{deleteMatch, "div(p p p)", "div(p)", unit, pairsOf(0, 0, 1, 1)},
		{deleteMatch, "div(p p p)", "div(p p)", unit, pairsOf(0, 0, 1, 1, 2, 2)},
		{deleteMatch, "div(p(p))", "div(p)", unit, pairsOf(0, 0, 2, 1)},
		{deleteMatch, "div(p(p(p)))", "div(p)", unit, pairsOf(0, 0, 3, 1)},
		{deleteMatch, "div(ul(p p) b)", "div(ul(p) b)", unit, pairsOf(0, 0, 1, 1, 2, 2, 4, 3)},
		{deleteMatch, "div(p p)", "div(p)", levelCost(7, 1, 500), pairsOf(0, 0, 1, 1)},
		{deleteMatch, "div(p p)", "div(p)", levelCost(0, 1, 1), pairsOf(0, 0, 1, 1)},
		// Insertion of the last p, and its pair with the only one.
		{insertMatch, "div(p)", "div(p p)", unit, pairsOf(0, 0, 1, 1)},
		{insertMatch, "div(p)", "div(p p p)", unit, pairsOf(0, 0, 1, 1)},
		{insertMatch, "div(p p)", "div(p p p)", unit, pairsOf(0, 0, 1, 1, 2, 2)},
		{insertMatch, "div(p)", "div(p(p))", unit, pairsOf(0, 0, 1, 2)},
		{insertMatch, "div(p)", "div(p(p(p)))", unit, pairsOf(0, 0, 1, 3)},
		{insertMatch, "div(ul(p) b)", "div(ul(p p) b)", unit, pairsOf(0, 0, 1, 1, 2, 2, 3, 4)},
		{insertMatch, "div(p)", "div(p p)", levelCost(1, 7, 500), pairsOf(0, 0, 1, 1)},
		{insertMatch, "div(p)", "div(p p)", levelCost(1, 0, 1), pairsOf(0, 0, 1, 1)},
		// All three: relabeling p to a and a to p costs 2 as well.
		{all, "div(p a)", "div(a p)", unit, pairsOf(0, 0, 1, 2)},
		{all, "div(p(a))", "div(a(p))", unit, pairsOf(0, 0, 2, 1)},
		{all, "div(p)", "div(a)", apart, pairsOf(0, 0)},
		{all, "div(p a b)", "div(p li b)", apart, pairsOf(0, 0, 1, 1, 3, 3)},
		{all, "div(p p)", "div(p p)", evenCost(0), pairsOf(0, 0)},
		{all, "div(p(a b) ul)", "p(a(ul) b)", evenCost(0), pairsOf(0, 0)},
		{all, "div(p(a b) ul)", "div(p(a b) ul)", levelCost(0, 0, impl.MaxCost), pairsOf(0, 0)},
	}
	for _, c := range cases {
		checkBestMap(t, treeIn(c.a), treeIn(c.b), c.c, c.want)
		a, b := drawnIn(c.a), drawnIn(c.b)
		s := newTraceback(a, b, c.c, forestDist(a, b, c.c))
		if got := s.best(); !slices.Equal(got, c.want) || s.seen[c.tie] == 0 {
			t.Errorf("%s and %s with %v: traced %v, with the ties %v", c.a, c.b, c.c, got, s.seen)
		}
	}
}

// Deletion alone has the cost, or insertion, or the match, or any of them
// together: the trees and costs of these tests have each of these often.
func TestBestMapTracebackMeetsAllTies(t *testing.T) {
	seen := map[[3]bool]int{}
	trees := append(relabeledTrees(3, 1, 4), smallTrees(4)...)
	for _, c := range distCosts() {
		for _, a := range trees {
			for _, b := range trees {
				s := newTraceback(a, b, c, setsApart(a, b, c))
				checkBestMap(t, a.nodes, b.nodes, c, s.best())
				for tie, n := range s.seen {
					seen[tie] += n
				}
			}
		}
	}
	for tie := range 8 {
		key := [3]bool{tie&1 > 0, tie&2 > 0, tie&4 > 0}
		if n := seen[key]; tie == 0 && n > 0 || tie > 0 && n < 100 {
			t.Errorf("deletion, insertion and match have the cost of the ranges as in %v %d times", key, n)
		}
	}
}

func TestBestMapFollowsTheTraceback(t *testing.T) {
	for _, c := range distCosts() {
		for _, a := range smallTrees(4) {
			for _, b := range smallTrees(4) {
				checkTraced(t, a, b, c)
			}
		}
	}
	for n, a := range smallTrees(5) {
		for k, b := range smallTrees(5) {
			c := distCosts()[(n+3*k)%len(distCosts())]
			checkTraced(t, a, b, c)
			checkApart(t, a, b, c)
			checkTraced(t, sameLabel(a, 2), sameLabel(b, 2), c)
		}
	}
	for _, labels := range [][]int{{0, 1, 2}, {3, 5, 4}} {
		trees := relabeledTrees(3, labels...)
		for n, a := range trees {
			for k, b := range trees {
				checkTraced(t, a, b, distCosts()[(n+3*k)%len(distCosts())])
			}
		}
	}
}

func TestBestMapFollowsTheTracebackOverGreatTrees(t *testing.T) {
	for seed := range 60 {
		a := variedTree(5+seed%8, uint32(seed))
		b := variedTree(5+seed/4%8, uint32(seed)+1000)
		for _, c := range []impl.Cost{evenCost(1), variedCost(uint32(seed), 5), variedCost(uint32(seed)+100, impl.MaxCost+1)} {
			checkTraced(t, a, b, c)
		}
	}
	trees := greatTrees()
	for n, a := range trees {
		for k, b := range trees {
			checkApart(t, a, b, distCosts()[(n+3*k)%len(distCosts())])
			checkApart(t, a, b, evenCost(1))
			checkApart(t, sameLabel(a, 3), sameLabel(b, 3), levelCost(2, 2, 3))
		}
		checkTraced(t, a, trees[(5*n+3)%len(trees)], fewCosts()[n%4])
	}
}

func TestBestMapIsLeastOverSmallTrees(t *testing.T) {
	trees := smallTrees(5)
	for _, c := range distCosts() {
		for _, a := range trees {
			for _, b := range trees {
				_, rooted := searched(a, b, c)(0, 0)
				checkLeast(t, a, b, c, rooted)
			}
		}
	}
}

// Each mapping is listed, and none that maps root to root costs less by MapCost.
func TestBestMapCostsNoMoreThanAnyMapping(t *testing.T) {
	trees := append(smallTrees(4), relabeledTrees(2, 1, 4)...)
	for _, a := range trees {
		for _, b := range trees {
			maps := slices.DeleteFunc(mappings(a, b), func(m []impl.Pair) bool { return !impl.RootsPaired(m) })
			for _, c := range distCosts() {
				best := impl.BestMap(a.nodes, b.nodes, c)
				cost, listed := impl.MapCost(a.nodes, b.nodes, c, best), false
				for _, m := range maps {
					if n := impl.MapCost(a.nodes, b.nodes, c, m); n < cost {
						t.Fatalf("BestMap(%v, %v, %v) = %v costs %d, but %v costs %d", a.nodes, b.nodes, c, best, cost, m, n)
					}
					listed = listed || slices.Equal(m, best)
				}
				if !listed || cost != impl.RootDist(a.nodes, b.nodes, c) {
					t.Fatalf("BestMap(%v, %v, %v) = %v costs %d", a.nodes, b.nodes, c, best, cost)
				}
			}
		}
	}
}

func TestBestMapIsLeastOverAllLabels(t *testing.T) {
	for _, labels := range [][]int{{0, 1, 2}, {3, 5, 4}} {
		trees := relabeledTrees(3, labels...)
		for n, a := range trees {
			for k, b := range trees {
				for _, c := range []impl.Cost{evenCost(1), distCosts()[(n+3*k)%len(distCosts())]} {
					_, rooted := searched(a, b, c)(0, 0)
					checkLeast(t, a, b, c, rooted)
				}
			}
		}
	}
}

func TestBestMapIsLeastOverVariedTrees(t *testing.T) {
	for seed := range uint32(60) {
		a := variedTree(5+int(seed)%4, seed)
		b := variedTree(5+int(seed)/4%4, seed+1000)
		for _, c := range []impl.Cost{evenCost(1), variedCost(seed, 5), variedCost(seed+100, impl.MaxCost+1)} {
			_, rooted := searched(a, b, c)(0, 0)
			checkLeast(t, a, b, c, rooted)
		}
	}
}

func TestBestMapIsLeastOverGreatTrees(t *testing.T) {
	trees := greatTrees()
	for n, a := range trees {
		for k, b := range trees {
			c := distCosts()[(n+2*k)%len(distCosts())]
			_, rooted := takenApart(a, b, c)(0, 0)
			checkLeast(t, a, b, c, rooted)
		}
	}
}

// Relabeling over a third label, or replacing a node, costs less than relabeling
// it, so that these costs do not satisfy the triangle inequality. What a mapping
// costs is still what its pairs cost.
func TestBestMapWithoutTriangleInequality(t *testing.T) {
	a, b := drawnIn("div(p)"), drawnIn("div(b)")
	c := levelCost(impl.MaxCost, impl.MaxCost, 1)
	c.Rel[6*1+5] = 600
	checkBestMap(t, a.nodes, b.nodes, c, pairsOf(0, 0, 1, 1))
	checkLeast(t, a, b, c, 600)
	c = levelCost(2, 3, 6)
	checkBestMap(t, a.nodes, b.nodes, c, pairsOf(0, 0))
	checkLeast(t, a, b, c, 5)
	// The roots are relabeled, although replacing them would cost less.
	a, b = drawnIn("p(a)"), drawnIn("b(a)")
	checkBestMap(t, a.nodes, b.nodes, c, pairsOf(0, 0, 1, 1))
	checkLeast(t, a, b, c, 6)
}

// Which label of a pair is the old one, and which costs are for which tree.
func TestBestMapTakesEachCostFromItsTable(t *testing.T) {
	a, b := treeIn("div(p a)"), treeIn("div(ul)")
	c := levelCost(10, 20, 500)
	c.Rel[6*1+3], c.Rel[6*3+1], c.Rel[6*2+3], c.Rel[6*3+2] = 3, 90, 9, 1
	checkBestMap(t, a, b, c, pairsOf(0, 0, 1, 1))
	checkBestMap(t, b, a, c, pairsOf(0, 0, 1, 2))
	c.Del[1], c.Del[2] = 1, 10
	checkBestMap(t, a, b, c, pairsOf(0, 0, 2, 1))
	c.Rel[6*3+1], c.Ins[1], c.Ins[2] = 5, 1, 10
	checkBestMap(t, b, a, c, pairsOf(0, 0, 1, 2))
	c.Ins[1], c.Ins[2] = 10, 1
	checkBestMap(t, b, a, c, pairsOf(0, 0, 1, 1))
}

// Only the roots can be paired.
func TestBestMapSingleNode(t *testing.T) {
	trees := append(manyTrees(), relabeledTrees(2, upTo(6)...)...)
	for n, d := range trees {
		one := draw(&branch{label: n % 6})
		c := distCosts()[n%len(distCosts())]
		checkBestMap(t, one.nodes, d.nodes, c, pairsOf(0, 0))
		checkBestMap(t, d.nodes, one.nodes, c, pairsOf(0, 0))
		rel := c.Rel[6*one.nodes[0].Label+d.nodes[0].Label]
		checkLeast(t, one, d, c, rel+sumOf(d, span{0, len(d.nodes) - 1}, c.Ins))
		rel = c.Rel[6*d.nodes[0].Label+one.nodes[0].Label]
		checkLeast(t, d, one, c, rel+sumOf(d, span{0, len(d.nodes) - 1}, c.Del))
	}
	for label := range 6 {
		for other := range 6 {
			for _, c := range distCosts() {
				checkBestMap(t, []impl.Node{{Label: label}}, []impl.Node{{Label: other}}, c, pairsOf(0, 0))
			}
		}
	}
}

// If no deletion is free, or no insertion, only the mapping of each node to
// itself costs nothing.
func TestBestMapOfEqualTrees(t *testing.T) {
	for n, d := range manyTrees() {
		m := samePairs(len(d.nodes))
		for _, c := range []impl.Cost{impl.UnitCost(), []impl.Cost{levelCost(3, 5, 7), levelCost(0, 1, 1), levelCost(1, 0, 2), levelCost(5, 5, 0), countedCost(1, 17)}[n%5]} {
			checkBestMap(t, d.nodes, slices.Clone(d.nodes), c, m)
		}
		checkLeast(t, d, d, impl.UnitCost(), 0)
		if got := impl.Unmapped(d.nodes, m); len(got) != 0 {
			t.Errorf("Unmapped(%v, %v) = %v", d.nodes, m, got)
		}
		if got := impl.Missing(d.nodes, m); len(got) != 0 {
			t.Errorf("Missing(%v, %v) = %v", d.nodes, m, got)
		}
		// If everything is free, or all deletions and insertions are, no pairs
		// are needed besides that of the roots.
		checkBestMap(t, d.nodes, d.nodes, evenCost(0), pairsOf(0, 0))
		checkBestMap(t, d.nodes, d.nodes, levelCost(0, 0, impl.MaxCost), pairsOf(0, 0))
	}
}

// One change leaves all other nodes paired.
func TestBestMapOfOneChange(t *testing.T) {
	for _, d := range append(smallTrees(5), greatTrees()...) {
		all := samePairs(len(d.nodes))
		for i := range d.nodes {
			l := slices.Clone(d.nodes)
			l[i].Label = (l[i].Label + 1) % 6
			checkLeast(t, d, drawnIn(impl.TreeText(l)), evenCost(1), 1)
			checkBestMap(t, d.nodes, l, levelCost(impl.MaxCost, impl.MaxCost, 1), all)
		}
		for i := 1; i < len(d.nodes); i++ {
			l := slices.Clone(d.nodes)
			for k := i; k < d.ends[i]; k++ {
				l[k].Depth--
			}
			e := drawnIn(impl.TreeText(slices.Delete(l, i, i+1)))
			checkLeast(t, d, e, levelCost(3, 5, 7), 3)
			checkLeast(t, e, d, levelCost(3, 5, 7), 5)
			if got := impl.Unmapped(d.nodes, impl.BestMap(d.nodes, e.nodes, impl.UnitCost())); len(got) != 1 {
				t.Errorf("%v of %v are deleted for %v", got, d.nodes, e.nodes)
			}
			if got := impl.Missing(d.nodes, impl.BestMap(e.nodes, d.nodes, impl.UnitCost())); len(got) != 1 {
				t.Errorf("%v of %v are inserted into %v", got, d.nodes, e.nodes)
			}
		}
	}
}

// At most one node below the root of a path can be paired with one of a star.
// Those that are deleted and inserted first leave the deepest and the first one.
func TestBestMapPathAndStar(t *testing.T) {
	for m := 2; m <= impl.MaxDepth+1; m++ {
		for n := 2; n <= impl.MaxNodes; n++ {
			path, leaves := draw(chain(m-1)), draw(star(n))
			plainPath, plainLeaves := sameLabel(path, 1), sameLabel(leaves, 1)
			for _, c := range []impl.Cost{evenCost(1), evenCost(impl.MaxCost), levelCost(3, 5, 7)} {
				checkBestMap(t, plainPath.nodes, plainLeaves.nodes, c, pairsOf(0, 0, m-1, 1))
				checkBestMap(t, plainLeaves.nodes, plainPath.nodes, c, pairsOf(0, 0, 1, m-1))
				_, rooted := takenApart(path, leaves, c)(0, 0)
				checkLeast(t, path, leaves, c, rooted)
				_, rooted = takenApart(leaves, path, c)(0, 0)
				checkLeast(t, leaves, path, c, rooted)
			}
			checkApart(t, path, leaves, evenCost(1))
			checkApart(t, leaves, path, levelCost(1, 1, 2))
		}
	}
}

// Of two paths, and of two stars, all nodes of the smaller one can be paired.
func TestBestMapOfPathsAndOfStars(t *testing.T) {
	for m := 1; m <= impl.MaxDepth+1; m++ {
		for n := 1; n <= impl.MaxDepth+1; n++ {
			// What is deleted or inserted first is just below the root.
			want := pairsOf(0, 0)
			for i := 1; i < min(m, n); i++ {
				want = append(want, impl.Pair{A: max(m-n, 0) + i, B: max(n-m, 0) + i})
			}
			checkBestMap(t, sameLabel(draw(chain(m-1)), 1).nodes, sameLabel(draw(chain(n-1)), 1).nodes, evenCost(1), want)
		}
	}
	for m := 1; m <= impl.MaxNodes; m++ {
		for n := 1; n <= impl.MaxNodes; n++ {
			want := samePairs(min(m, n))
			checkBestMap(t, sameLabel(draw(star(m)), 1).nodes, sameLabel(draw(star(n)), 1).nodes, evenCost(1), want)
		}
	}
}

func TestBestMapMultiplied(t *testing.T) {
	trees := append(smallTrees(4), greatTrees()...)
	for seed := range uint32(6) {
		c := variedCost(seed, 11)
		for _, factor := range []int{2, 7, 100} {
			many := costFrom(func(table int, i int) int { return factor * tablesOf(c)[table][i] })
			for n, a := range trees {
				b := trees[(n*5+int(seed))%len(trees)].nodes
				checkBestMap(t, a.nodes, b, many, impl.BestMap(a.nodes, b, c))
			}
		}
	}
}

// checkReturn holds the mapping of the way back to what the way there costs.
func checkReturn(t *testing.T, a *drawn, b *drawn, c impl.Cost) {
	t.Helper()
	m := impl.BestMap(a.nodes, b.nodes, c)
	checkValid(t, a, b, c, m)
	back := impl.BestMap(b.nodes, a.nodes, exchanged(c))
	checkValid(t, b, a, exchanged(c), back)
	checkMapCost(t, b.nodes, a.nodes, exchanged(c), back, impl.MapCost(a.nodes, b.nodes, c, m))
	as, bs := nodesOf(m)
	if x, y := a.keptDepths(as), b.keptDepths(bs); !slices.Equal(x, y) {
		t.Errorf("the mapped nodes of %v and %v have the depths %v and %v in %v", a.nodes, b.nodes, x, y, m)
	}
}

func TestBestMapTurned(t *testing.T) {
	for _, trees := range [][]*drawn{smallTrees(5), greatTrees()} {
		for n, a := range trees {
			for k, b := range trees {
				checkReturn(t, a, b, distCosts()[(n+3*k)%len(distCosts())])
			}
		}
	}
}

func TestBestMapComposed(t *testing.T) {
	trees := smallTrees(4)
	for i, a := range trees {
		for k, b := range trees {
			there := mappings(a, b)
			for l, c := range trees {
				cost := distCosts()[(i+3*k+5*l)%len(distCosts())]
				onward := impl.BestMap(b.nodes, c.nodes, cost)
				for _, m := range there {
					checkChain(t, a, b, c, m, onward)
					checkChain(t, c, b, a, impl.Turned(onward), impl.Turned(m))
				}
			}
		}
	}
	great := greatTrees()
	for i, a := range great {
		for k, b := range great {
			c := great[(3*i+5*k+1)%len(great)]
			cost := distCosts()[(i+3*k)%len(distCosts())]
			checkChain(t, a, b, c, someMapping(a, b, uint32(100*i+k)), impl.BestMap(b.nodes, c.nodes, cost))
			checkChain(t, a, b, c, impl.BestMap(a.nodes, b.nodes, cost), someMapping(b, c, uint32(100*k+i)))
		}
	}
}

// Two mappings of least cost map root to root together. With unit costs, they
// cost no less than the one from the first tree to the last one.
func TestBestMapOverATreeInBetween(t *testing.T) {
	unit := impl.UnitCost()
	for _, trees := range [][]*drawn{smallTrees(4), greatTrees()} {
		for i, a := range trees {
			for k, b := range trees {
				c := trees[(3*i+5*k+1)%len(trees)]
				m, n := impl.BestMap(a.nodes, b.nodes, unit), impl.BestMap(b.nodes, c.nodes, unit)
				checkChain(t, a, b, c, m, n)
				whole := impl.Composed(m, n)
				cost := impl.MapCost(a.nodes, c.nodes, unit, whole)
				least := impl.RootDist(a.nodes, c.nodes, unit)
				most := impl.RootDist(a.nodes, b.nodes, unit) + impl.RootDist(b.nodes, c.nodes, unit)
				if !impl.RootsPaired(whole) || cost < least || cost > most {
					t.Errorf("%v costs %d, want from %d to %d", whole, cost, least, most)
				}
			}
		}
	}
}

func TestBestMapMostNodesAndGreatestDepth(t *testing.T) {
	trees := append(limitTrees(), smallTrees(3)...)
	for n, a := range limitTrees() {
		for k, b := range trees {
			for _, c := range []impl.Cost{evenCost(1), distCosts()[(n+k)%len(distCosts())], distCosts()[(n+2*k+5)%len(distCosts())]} {
				_, rooted := takenApart(a, b, c)(0, 0)
				checkLeast(t, a, b, c, rooted)
				_, rooted = takenApart(b, a, c)(0, 0)
				checkLeast(t, b, a, c, rooted)
			}
			if len(a.nodes) == impl.MaxNodes {
				checkNoBestMapOf(t, append(slices.Clone(a.nodes), impl.Node{Depth: 1}), b.nodes)
			}
		}
	}
	for _, b := range trees {
		checkNoBestMapOf(t, draw(chain(impl.MaxDepth+1)).nodes, b.nodes)
		checkNoBestMapOf(t, draw(star(impl.MaxNodes+1)).nodes, b.nodes)
	}
}

func TestBestMapLargestCosts(t *testing.T) {
	for _, n := range []int{1, 2, 12, impl.MaxNodes} {
		a, b := sameLabel(draw(star(n)), 0), sameLabel(draw(star(n)), 1)
		checkBestMap(t, a.nodes, b.nodes, evenCost(impl.MaxCost), samePairs(n))
		checkLeast(t, a, b, evenCost(impl.MaxCost), n*impl.MaxCost)
		// Replacing a node costs as much as relabeling it, or less by 1.
		checkBestMap(t, a.nodes, b.nodes, levelCost(impl.MaxCost/2, impl.MaxCost/2, impl.MaxCost), pairsOf(0, 0))
		checkLeast(t, a, b, levelCost(impl.MaxCost/2, impl.MaxCost/2-1, impl.MaxCost), impl.MaxCost+(n-1)*(impl.MaxCost-1))
		checkBestMap(t, a.nodes, b.nodes, levelCost(impl.MaxCost/2, impl.MaxCost/2, impl.MaxCost-1), samePairs(n))
		checkLeast(t, a, b, levelCost(0, impl.MaxCost, 0), 0)
		checkLeast(t, a, b, levelCost(impl.MaxCost, impl.MaxCost, 0), 0)
		checkNoBestMap(t, a.nodes, b.nodes, evenCost(impl.MaxCost+1))
		checkNoBestMap(t, a.nodes, a.nodes, evenCost(impl.MaxCost+1))
	}
}

func TestBestMapCostBeyondItsLimit(t *testing.T) {
	checkCostsBeyondTheirLimits(t, checkNoBestMap)
}

func TestBestMapInvalidCosts(t *testing.T) {
	checkInvalidCosts(t, checkNoBestMap)
}

func TestBestMapInvalidTrees(t *testing.T) {
	others := [][]impl.Node{treeIn("div"), treeIn("p(a(ul) b)"), draw(star(impl.MaxNodes)).nodes, nil, {}, depthsOf(0, 1, 0)}
	for _, l := range append(invalidTrees(), nil, []impl.Node{}) {
		for _, other := range others {
			checkNoBestMapOf(t, l, other)
		}
		checkNoBestMap(t, l, treeIn("div"), impl.Cost{})
		checkNoBestMap(t, treeIn("div"), l, impl.Cost{})
	}
}

func TestUnpairedOfAllMappings(t *testing.T) {
	for _, a := range smallTrees(5) {
		for _, b := range smallTrees(5) {
			for _, m := range mappings(a, b) {
				checkAllNodesOnce(t, a.nodes, b.nodes, m)
			}
		}
	}
	trees := greatTrees()
	for n, a := range trees {
		for k, b := range trees {
			checkAllNodesOnce(t, a.nodes, b.nodes, someMapping(a, b, uint32(100*n+k)))
		}
	}
}

// Every list of pairs of nodes, and of those next to the first and the last one,
// in any order and with nodes repeated on either side.
func TestUnpairedOfAllLists(t *testing.T) {
	a, b := treeIn("div(p)"), treeIn("p(a b)")
	var pairs []impl.Pair
	for x := -1; x <= len(a); x++ {
		for y := -1; y <= len(b); y++ {
			pairs = append(pairs, impl.Pair{A: x, B: y})
		}
	}
	eachList(pairs, 4, func(m []impl.Pair) {
		checkUnpaired(t, a, b, m)
	})
}

func TestUnpairedOfSomeLists(t *testing.T) {
	cases := []struct {
		m       []impl.Pair
		a, b    int
		left    []int
		missing []int
	}{
		{nil, 3, 2, []int{0, 1, 2}, []int{0, 1}},
		{pairsOf(0, 0), 3, 2, []int{1, 2}, []int{1}},
		{pairsOf(2, 0), 3, 2, []int{0, 1}, []int{1}},
		{pairsOf(2, 0, 0, 1), 3, 2, []int{1}, nil},
		{pairsOf(1, 0, 1, 1), 3, 2, []int{0, 2}, nil},
		{pairsOf(0, 1, 1, 1, 2, 1), 3, 2, nil, []int{0}},
		{pairsOf(1, 1, 1, 1, 1, 1), 3, 2, []int{0, 2}, []int{0}},
		{pairsOf(-1, 0), 3, 2, []int{0, 1, 2}, []int{1}},
		{pairsOf(0, -1), 3, 2, []int{1, 2}, []int{0, 1}},
		{pairsOf(3, 0), 3, 2, []int{0, 1, 2}, []int{1}},
		{pairsOf(0, 2), 3, 2, []int{1, 2}, []int{0, 1}},
		{pairsOf(2, 1), 3, 2, []int{0, 1}, []int{0}},
		{pairsOf(3, 2, -1, -1, 1, 0), 3, 2, []int{0, 2}, []int{1}},
		{pairsOf(0, 0), 0, 0, nil, nil},
		{pairsOf(0, 0, 1, 1), 0, 3, nil, []int{2}},
		{pairsOf(0, 0, 1, 1), 3, 0, []int{2}, nil},
	}
	for _, c := range cases {
		// Which lists of nodes these are does not matter, but for their length.
		for _, nodes := range [][]impl.Node{draw(star(5)).nodes, make([]impl.Node, 5), depthsOf(0, 1, 0, 9, -4), depthsOf(-1, 1<<40, 2, 2, 2)} {
			if got := impl.Unmapped(nodes[:c.a], c.m); !slices.Equal(got, c.left) {
				t.Errorf("Unmapped(%v, %v) = %v, want %v", nodes[:c.a], c.m, got, c.left)
			}
			if got := impl.Missing(nodes[:c.b], c.m); !slices.Equal(got, c.missing) {
				t.Errorf("Missing(%v, %v) = %v, want %v", nodes[:c.b], c.m, got, c.missing)
			}
		}
	}
}

// A number that is no node, in place of each A and each B.
func TestUnpairedNodeBeyondTheTree(t *testing.T) {
	for _, d := range append(smallTrees(4), greatTrees()...) {
		size := len(d.nodes)
		m := samePairs(size)
		for _, x := range append([]int{size, size + 1, size + 256, size + 1<<32, math.MinInt + size}, far...) {
			if d.has(x) {
				continue
			}
			for i := range m {
				for _, p := range []impl.Pair{{A: x, B: i}, {A: i, B: x}, {A: x, B: x}} {
					beyond := slices.Clone(m)
					beyond[i] = p
					checkUnpaired(t, d.nodes, d.nodes, beyond)
					checkUnpaired(t, d.nodes, d.nodes, []impl.Pair{p})
					checkUnpaired(t, d.nodes, d.nodes, append(slices.Clone(m), p))
				}
			}
		}
	}
}

// The order of the pairs does not matter, and neither does a pair that is there
// more than once.
func TestUnpairedInAnyOrder(t *testing.T) {
	trees := greatTrees()
	for n, a := range trees {
		for k, b := range trees {
			m := someMapping(a, b, uint32(100*n+k))
			slices.Reverse(m)
			checkAllNodesOnce(t, a.nodes, b.nodes, m)
			checkUnpaired(t, a.nodes, b.nodes, append(m, m...))
			checkUnpaired(t, a.nodes, b.nodes, append(m, impl.Turned(m)...))
		}
	}
}

// What is no valid tree has all of its nodes, too.
func TestUnpairedOfAnyNodes(t *testing.T) {
	for _, l := range append(invalidTrees(), nil, []impl.Node{}) {
		for _, m := range [][]impl.Pair{nil, {}, pairsOf(0, 0), pairsOf(1, 2, 0, 1), pairsOf(-1, len(l), len(l), -1), samePairs(len(l)), samePairs(len(l) / 2)} {
			checkUnpaired(t, l, l, m)
			checkUnpaired(t, l, treeIn("div(p)"), m)
			checkUnpaired(t, treeIn("div(p)"), l, m)
		}
	}
	const size = 30000
	m := make([]impl.Pair, 0, size)
	for i := range size {
		m = append(m, impl.Pair{A: 3 * i, B: size - 2*i})
	}
	checkUnpaired(t, make([]impl.Node, size), make([]impl.Node, size), m)
	checkUnpaired(t, treeIn("div(p a b)"), make([]impl.Node, size), m)
	checkUnpaired(t, make([]impl.Node, size), treeIn("div(p a b)"), m)
}

func TestTraceArgumentsStayAsTheyAre(t *testing.T) {
	other := treeIn("p(a(ul) b)")
	checkArgumentStays(t, func(l []impl.Node) {
		impl.BestMap(l, other, evenCost(1))
		impl.BestMap(other, l, evenCost(1))
		for _, m := range [][]impl.Pair{nil, pairsOf(0, 0, 2, 1), samePairs(len(l)), pairsOf(-1, 99)} {
			impl.Unmapped(l, m)
			impl.Missing(l, m)
		}
	})
	if !slices.Equal(other, treeIn("p(a(ul) b)")) {
		t.Errorf("p(a(ul) b) became %v", other)
	}
	for _, c := range append(distCosts(), invalidCosts()...) {
		held, full := heldCost(c)
		impl.BestMap(other, treeIn("div(p)"), held)
		_, want := heldCost(c)
		if !slices.EqualFunc(full, want, slices.Equal[[]int]) {
			t.Errorf("%v became %v", want, full)
		}
	}
	eachList(pairsOf(0, 0, 1, 1, 2, 1, 3, 3, -1, 5), 4, func(list []impl.Pair) {
		m, full := heldPairs(list)
		_, want := heldPairs(list)
		impl.Unmapped(other, m)
		impl.Missing(other, m)
		if !slices.Equal(full, want) {
			t.Fatalf("%v became %v", want, full)
		}
	})
}

// Nothing is left of one call for the next one, and a result is the caller's.
func TestTraceResultsAreNewMemory(t *testing.T) {
	trees := append(smallTrees(4), greatTrees()...)
	for n, a := range trees {
		b, c := trees[(7*n+1)%len(trees)], fewCosts()[n%4]
		m := impl.BestMap(a.nodes, b.nodes, c)
		want := slices.Clone(m)
		left, missing := impl.Unmapped(a.nodes, m), impl.Missing(b.nodes, m)
		spoilTable(left)
		spoilTable(missing)
		if !slices.Equal(m, want) {
			t.Errorf("%v became %v", want, m)
		}
		checkUnpaired(t, a.nodes, b.nodes, m)
		spoilPairs(m)
		impl.BestMap(b.nodes, a.nodes, c)
		checkBestMap(t, a.nodes, b.nodes, c, want)
		_, rooted := takenApart(a, b, c)(0, 0)
		checkLeast(t, a, b, c, rooted)
	}
}

// Nodes, costs and pairs in the unused capacity of a list do not count.
func TestTraceUnusedCapacityDoesNotCount(t *testing.T) {
	b := treeIn("p(a b)")
	for _, d := range append(smallTrees(4), limitTrees()...) {
		size := len(d.nodes)
		l := append(slices.Clone(d.nodes), impl.Node{Depth: 1})[:size]
		for _, c := range fewCosts() {
			held, _ := heldCost(c)
			checkBestMap(t, l, b, held, impl.BestMap(d.nodes, b, c))
			checkBestMap(t, b, l, held, impl.BestMap(b, d.nodes, c))
			for table, list := range tablesOf(c) {
				checkNoBestMap(t, l, b, withTable(c, table, list[:len(list)-1]))
			}
		}
		m, _ := heldPairs(samePairs(size / 2))
		checkUnpaired(t, l, l, m)
		checkUnpaired(t, l, l, m[:0])
	}
}
