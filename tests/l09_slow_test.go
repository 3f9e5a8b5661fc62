package tests

import (
	"math"
	"math/bits"
	"slices"
	"testing"

	"loop.example/g01618/impl"
)

// Promise 6: the computation over forests gives the same distance, and each
// element of TreeDists is the distance of the two subtrees. These tests hold it
// for the functions of chapter 9, together with those of chapter 8.

// A span is a range of the postorder positions of a tree, from i to j-1.
type span struct {
	i, j int
}

func (d *drawn) whole() span {
	return span{0, len(d.nodes)}
}

// spans returns all ranges of the positions of a tree.
func (d *drawn) spans() []span {
	var out []span
	for i := 0; i <= len(d.nodes); i++ {
		for j := i; j <= len(d.nodes); j++ {
			out = append(out, span{i, j})
		}
	}
	return out
}

// someSpans returns the whole range, an empty one, those without one end or
// both, and n of all others, as the seed decides.
func (d *drawn) someSpans(n int, seed int) []span {
	size := len(d.nodes)
	out := []span{{0, size}, {size / 2, size / 2}, {0, size - 1}, {min(1, size), size}, {size / 2, max(size-1, size/2)}}
	all := d.spans()
	for k := range n {
		out = append(out, all[(seed*31+k*197)%len(all)])
	}
	return out
}

// subtreeSpan returns the range of the subtree of the node at a position.
func (d *drawn) subtreeSpan(at int) span {
	return span{d.positions().left[at], at + 1}
}

// in returns the nodes of a range, in preorder.
func (d *drawn) in(r span) []int {
	out := slices.Clone(d.positions().order[r.i:r.j])
	slices.Sort(out)
	return out
}

// leastForest returns the least cost of a mapping between the nodes of two
// ranges.
type leastForest func(r span, s span) int

// searchedForest finds the least cost by looking at every valid mapping.
func searchedForest(a *drawn, b *drawn, c impl.Cost) leastForest {
	return func(r span, s span) int {
		search := &mapSearch{a: a, b: b, c: c, all: math.MaxInt}
		search.among(a.in(r), b.in(s), sumOf(b, s, c.Ins))
		return search.all
	}
}

// among decides about the first of the nodes xs and those after it, which can be
// mapped to the nodes ys. The cost is that of the mapping so far, with all other
// nodes of b inserted.
func (s *mapSearch) among(xs []int, ys []int, cost int) {
	if len(xs) == 0 {
		s.all = min(s.all, cost)
		return
	}
	x := xs[0]
	label := s.a.nodes[x].Label
	s.among(xs[1:], ys, cost+s.c.Del[label])
	for n, y := range ys {
		if !s.fits(x, y) {
			continue
		}
		other := s.b.nodes[y].Label
		s.pairs = append(s.pairs, [2]int{x, y})
		s.among(xs[1:], ys[n+1:], cost+s.c.Rel[6*label+other]-s.c.Ins[other])
		s.pairs = s.pairs[:len(s.pairs)-1]
	}
}

// sumOf adds up the costs of all nodes of a range.
func sumOf(d *drawn, r span, costs []int) int {
	sum := 0
	for _, i := range d.in(r) {
		sum += costs[d.nodes[i].Label]
	}
	return sum
}

// A nodeSet has one bit for each node, in preorder.
type nodeSet uint32

func setOf(nodes []int) nodeSet {
	var out nodeSet
	for _, i := range nodes {
		out |= 1 << i
	}
	return out
}

// first returns the first node of a set together with all sets that it leaves:
// the other nodes, those of them that are below it, and those that are not.
func (d *drawn) first(set nodeSet) (int, nodeSet, nodeSet, nodeSet) {
	i := bits.TrailingZeros32(uint32(set))
	others := set &^ (1 << i)
	below := others & (1<<d.ends[i] - 1)
	return i, others, below, others &^ below
}

// A setSearch takes sets of nodes apart from the left, for ranges with too many
// mappings to look at each. The first node of a set is below no other.
type setSearch struct {
	a, b *drawn
	c    impl.Cost
	memo map[[2]nodeSet]int
}

// setsApart finds the least cost by taking the sets of nodes apart.
func setsApart(a *drawn, b *drawn, c impl.Cost) leastForest {
	s := &setSearch{a, b, c, map[[2]nodeSet]int{}}
	return func(r span, u span) int { return s.least(setOf(a.in(r)), setOf(b.in(u))) }
}

func (s *setSearch) least(from nodeSet, to nodeSet) int {
	if from == 0 && to == 0 {
		return 0
	}
	key := [2]nodeSet{from, to}
	if n, ok := s.memo[key]; ok {
		return n
	}
	least := math.MaxInt
	if from != 0 {
		x, others, _, _ := s.a.first(from)
		least = min(least, s.c.Del[s.a.nodes[x].Label]+s.least(others, to))
	}
	if to != 0 {
		y, others, _, _ := s.b.first(to)
		least = min(least, s.c.Ins[s.b.nodes[y].Label]+s.least(from, others))
	}
	if from != 0 && to != 0 {
		x, _, belowX, besideX := s.a.first(from)
		y, _, belowY, besideY := s.b.first(to)
		rel := s.c.Rel[6*s.a.nodes[x].Label+s.b.nodes[y].Label]
		least = min(least, rel+s.least(belowX, belowY)+s.least(besideX, besideY))
	}
	s.memo[key] = least
	return least
}

func checkForest(t *testing.T, a []impl.Node, r span, b []impl.Node, s span, c impl.Cost, want int) {
	t.Helper()
	if got := impl.ForestDist(a, r.i, r.j, b, s.i, s.j, c); got != want {
		t.Fatalf("ForestDist(%v, %d, %d, %v, %d, %d, %v) = %d, want %d", a, r.i, r.j, b, s.i, s.j, c, got, want)
	}
}

// checkForests holds ForestDist of each pair of ranges to the least cost that a
// search finds.
func checkForests(t *testing.T, a *drawn, rs []span, b *drawn, ss []span, c impl.Cost, least leastForest) {
	t.Helper()
	for _, r := range rs {
		for _, s := range ss {
			checkForest(t, a.nodes, r, b.nodes, s, c, least(r, s))
		}
	}
}

// checkSlow holds SlowDist to RootDist and to what a search finds.
func checkSlow(t *testing.T, a *drawn, b *drawn, c impl.Cost, least leastCosts) {
	t.Helper()
	_, want := least(0, 0)
	if got := impl.SlowDist(a.nodes, b.nodes, c); got != want {
		t.Fatalf("SlowDist(%v, %v, %v) = %d, want %d", a.nodes, b.nodes, c, got, want)
	}
	if got := impl.RootDist(a.nodes, b.nodes, c); got != want {
		t.Fatalf("RootDist(%v, %v, %v) = %d, want %d", a.nodes, b.nodes, c, got, want)
	}
}

// checkNoForest holds both functions to their results for trees or costs of
// which one is invalid. The ranges would be valid for any number of nodes.
func checkNoForest(t *testing.T, a []impl.Node, b []impl.Node, c impl.Cost) {
	t.Helper()
	for _, r := range []span{{0, 0}, {0, len(a)}, {len(a), len(a)}} {
		for _, s := range []span{{0, 0}, {0, len(b)}, {len(b), len(b)}} {
			checkForest(t, a, r, b, s, c, -1)
		}
	}
	if got := impl.SlowDist(a, b, c); got != -1 {
		t.Fatalf("SlowDist(%v, %v, %v) = %d, want -1", a, b, c, got)
	}
}

// checkNoForestOf holds both functions to their results for a list that is no
// valid tree, on either side.
func checkNoForestOf(t *testing.T, l []impl.Node, other []impl.Node, c impl.Cost) {
	t.Helper()
	checkNoForest(t, l, other, c)
	checkNoForest(t, other, l, c)
	checkNoForest(t, l, l, c)
}

func TestForestDistOfSomeRanges(t *testing.T) {
	level := levelCost(3, 5, 7)
	cases := []struct {
		a    string
		r    span
		b    string
		s    span
		c    impl.Cost
		want int
	}{
		// The positions of the first tree are those of a, b, p, ul and div.
		{"div(p(a b) ul)", span{0, 5}, "div(a b ul)", span{0, 4}, level, 3},
		{"div(p(a b) ul)", span{0, 3}, "div(a b ul)", span{0, 2}, level, 3},
		{"div(p(a b) ul)", span{0, 2}, "div(a b ul)", span{0, 2}, level, 0},
		{"div(p(a b) ul)", span{0, 4}, "div(a b ul)", span{0, 3}, level, 3},
		{"div(p(a b) ul)", span{1, 3}, "p(b)", span{0, 2}, level, 0},
		{"div(p(a b) ul)", span{1, 3}, "div(b p)", span{0, 2}, level, 8},
		{"div(p(a b) ul)", span{2, 4}, "div(p ul)", span{0, 2}, level, 0},
		{"div(p(a b) ul)", span{2, 5}, "div(p ul)", span{0, 3}, level, 0},
		{"div(p(a b) ul)", span{1, 2}, "div(p(a b) ul)", span{3, 4}, level, 7},
		{"div(p(a b) ul)", span{1, 2}, "div(p(a b) ul)", span{3, 4}, levelCost(3, 5, 9), 8},
		{"div(p(a b) ul)", span{3, 5}, "div(p(a b) ul)", span{2, 2}, level, 6},
		{"div(p(a b) ul)", span{2, 2}, "div(p(a b) ul)", span{3, 5}, level, 10},
		{"div(p(a b) ul)", span{5, 5}, "div(p(a b) ul)", span{0, 0}, level, 0},
		// The positions of the second tree are those of a, b, ul and div.
		{"div(p(a b) ul)", span{1, 4}, "div(a b ul)", span{1, 3}, level, 3},
		{"div(p(a b) ul)", span{4, 5}, "div(a b ul)", span{3, 4}, level, 0},
		// Parts of both subtrees: b below p, and li and b without their parent.
		{"div(p(a b) ul(li b a))", span{1, 5}, "div(p(b) li b)", span{0, 4}, level, 0},
		{"div(p(a b) ul(li b a))", span{1, 5}, "div(li b)", span{0, 2}, level, 6},
		{"div(p(a b) ul(li b a))", span{1, 5}, "ul(p(b) li b)", span{0, 5}, level, 5},
		// A path from its middle up, and from its middle down.
		{"div(p(a(ul(li(b)))))", span{2, 5}, "p(a(ul))", span{0, 3}, level, 0},
		{"div(p(a(ul(li(b)))))", span{0, 3}, "ul(li(b))", span{0, 3}, level, 0},
		{"div(p(a(ul(li(b)))))", span{1, 3}, "div(li ul)", span{0, 2}, level, 8},
	}
	for _, c := range cases {
		checkForest(t, treeIn(c.a), c.r, treeIn(c.b), c.s, c.c, c.want)
		checkForest(t, treeIn(c.b), c.s, treeIn(c.a), c.r, exchanged(c.c), c.want)
	}
}

// Which label of a pair is the old one, and which costs are for which tree.
func TestForestDistTakesEachCostFromItsTable(t *testing.T) {
	a, b := treeIn("div(p)"), treeIn("ul(a)")
	c := levelCost(100, 200, 50)
	c.Rel[6*1+2], c.Rel[6*0+3] = 7, 11
	c.Del[1], c.Ins[2], c.Del[0], c.Ins[3] = 60, 70, 61, 71
	for _, x := range []struct {
		r, s span
		want int
	}{
		{span{0, 1}, span{0, 1}, 7}, {span{1, 2}, span{1, 2}, 11}, {span{0, 2}, span{0, 2}, 18},
		{span{0, 1}, span{1, 1}, 60}, {span{1, 2}, span{1, 1}, 61}, {span{0, 2}, span{0, 0}, 121},
		{span{1, 1}, span{0, 1}, 70}, {span{1, 1}, span{1, 2}, 71}, {span{2, 2}, span{0, 2}, 141},
		{span{0, 1}, span{1, 2}, 50}, {span{1, 2}, span{0, 1}, 50}, {span{0, 2}, span{1, 2}, 71},
	} {
		checkForest(t, a, x.r, b, x.s, c, x.want)
	}
	if got := impl.SlowDist(a, b, c); got != 18 {
		t.Errorf("SlowDist = %d, want 18", got)
	}
}

func TestForestDistIsLeastOverSmallTrees(t *testing.T) {
	check := func(trees []*drawn, costs []impl.Cost) {
		for _, c := range costs {
			for _, a := range trees {
				for _, b := range trees {
					checkForests(t, a, a.spans(), b, b.spans(), c, searchedForest(a, b, c))
				}
			}
		}
	}
	check(smallTrees(4), distCosts())
	check(smallTrees(5), fewCosts()[2:])
}

func TestForestDistIsLeastOverAllLabels(t *testing.T) {
	for _, labels := range [][]int{{0, 1, 2}, {3, 5, 4}} {
		trees := relabeledTrees(3, labels...)
		for n, a := range trees {
			for k, b := range trees {
				c := fewCosts()[(n+k)%4]
				checkForests(t, a, a.spans(), b, b.spans(), c, searchedForest(a, b, c))
			}
		}
	}
}

func TestForestDistIsLeastOverVariedTrees(t *testing.T) {
	for seed := range 60 {
		a := variedTree(5+seed%4, uint32(seed))
		b := variedTree(5+seed/4%4, uint32(seed)+1000)
		for _, c := range []impl.Cost{evenCost(1), variedCost(uint32(seed), 5), variedCost(uint32(seed)+100, impl.MaxCost+1)} {
			checkForests(t, a, a.someSpans(9, seed), b, b.someSpans(9, seed+1), c, searchedForest(a, b, c))
		}
	}
}

func TestForestDistIsLeastOverGreatTrees(t *testing.T) {
	trees := greatTrees()
	for n, a := range trees {
		for k, b := range trees {
			c := fewCosts()[(n+k)%4]
			checkForests(t, a, a.someSpans(3, n+k), b, b.someSpans(3, n+2*k), c, setsApart(a, b, c))
		}
	}
}

// The two searches agree, so that the one for great trees can be relied on.
func TestForestSearchesAgree(t *testing.T) {
	trees := append(smallTrees(4), variedTree(6, 1), variedTree(7, 2))
	for _, c := range fewCosts() {
		for _, a := range trees {
			for _, b := range trees {
				searched, apart := searchedForest(a, b, c), setsApart(a, b, c)
				for _, r := range a.spans() {
					for _, s := range b.spans() {
						if m, n := searched(r, s), apart(r, s); m != n {
							t.Fatalf("%d and %d for %v of %v and %v of %v", m, n, r, a.nodes, s, b.nodes)
						}
					}
				}
			}
		}
	}
}

// checkSubtreeRanges holds ForestDist of the ranges of any two subtrees to the
// element of TreeDists for their positions.
func checkSubtreeRanges(t *testing.T, a *drawn, b *drawn, c impl.Cost) {
	t.Helper()
	dists := impl.TreeDists(a.nodes, b.nodes, c)
	if len(dists) != len(a.nodes)*len(b.nodes) {
		t.Fatalf("TreeDists(%v, %v, %v) has %d elements", a.nodes, b.nodes, c, len(dists))
	}
	for x := range a.nodes {
		r := a.subtreeSpan(x)
		for y := range b.nodes {
			checkForest(t, a.nodes, r, b.nodes, b.subtreeSpan(y), c, dists[x*len(b.nodes)+y])
		}
	}
	checkForest(t, a.nodes, a.whole(), b.nodes, b.whole(), c, impl.TreeDist(a.nodes, b.nodes, c))
}

func TestForestDistOfSubtreesIsInTreeDists(t *testing.T) {
	for _, c := range distCosts() {
		for _, a := range smallTrees(4) {
			for _, b := range smallTrees(4) {
				checkSubtreeRanges(t, a, b, c)
			}
		}
	}
	trees := append(smallTrees(5), greatTrees()...)
	for n, a := range trees {
		for k := range 3 {
			checkSubtreeRanges(t, a, trees[(5*n+7*k+3)%len(trees)], fewCosts()[(n+k)%4])
		}
	}
}

// A range that is a subtree is compared like a tree of its own.
func TestForestDistOfSubtreesAsTrees(t *testing.T) {
	trees := append(smallTrees(4), greatTrees()...)
	for n, a := range trees {
		b, c := trees[(5*n+2)%len(trees)], fewCosts()[n%4]
		orderA, orderB := a.positions().order, b.positions().order
		for x, i := range orderA {
			y := (x + n) % len(orderB)
			want := impl.TreeDist(impl.SubTree(a.nodes, i), impl.SubTree(b.nodes, orderB[y]), c)
			checkForest(t, a.nodes, a.subtreeSpan(x), b.nodes, b.subtreeSpan(y), c, want)
		}
	}
}

func TestSlowDistIsRootDist(t *testing.T) {
	for _, c := range distCosts() {
		for _, a := range smallTrees(5) {
			for _, b := range smallTrees(5) {
				checkSlow(t, a, b, c, searched(a, b, c))
			}
		}
	}
	trees := greatTrees()
	for n, a := range trees {
		for k, b := range trees {
			c := fewCosts()[(n+k)%4]
			checkSlow(t, a, b, c, takenApart(a, b, c))
		}
	}
}

// The smallest mapping of the whole trees leaves a root without a pair, or pairs
// it with a node below the other root.
func TestSlowDistWhereRootsAreNotPaired(t *testing.T) {
	cases := []struct {
		a, b string
		c    impl.Cost
		all  int
		slow int
	}{
		{"div(p(a b) ul)", "p(a b)", evenCost(1), 2, 3},
		{"p(a b)", "div(p(a b) ul)", levelCost(3, 5, 7), 10, 17},
		{"div(p)", "p", levelCost(3, 5, 7), 3, 10},
		{"p", "div(p)", levelCost(3, 5, 7), 5, 12},
		{"div", "p", levelCost(3, 5, 9), 8, 9},
		{"div(a)", "p(a)", levelCost(3, 5, impl.MaxCost), 8, impl.MaxCost},
		{"div(p(a(b)))", "p(a(b))", levelCost(1, 1, 10), 1, 11},
	}
	for _, c := range cases {
		a, b := drawnIn(c.a), drawnIn(c.b)
		checkForest(t, a.nodes, a.whole(), b.nodes, b.whole(), c.c, c.all)
		if got := impl.SlowDist(a.nodes, b.nodes, c.c); got != c.slow {
			t.Errorf("SlowDist(%v, %v, %v) = %d, want %d", a.nodes, b.nodes, c.c, got, c.slow)
		}
	}
	apart := 0
	for _, a := range relabeledTrees(3, 1, 4) {
		for _, b := range relabeledTrees(3, 1, 4) {
			for _, c := range distCosts() {
				checkSlow(t, a, b, c, searched(a, b, c))
				if impl.TreeDist(a.nodes, b.nodes, c) < impl.SlowDist(a.nodes, b.nodes, c) {
					apart++
				}
			}
		}
	}
	if apart < 100 {
		t.Errorf("only %d pairs of trees have a smaller mapping without the pair of the roots", apart)
	}
}

// checkEmptyRanges compares each range of one tree with the empty range at each
// position of the other one.
func checkEmptyRanges(t *testing.T, a *drawn, b *drawn, c impl.Cost) {
	t.Helper()
	for _, r := range a.spans() {
		deleted, inserted := sumOf(a, r, c.Del), sumOf(a, r, c.Ins)
		for at := 0; at <= len(b.nodes); at++ {
			checkForest(t, a.nodes, r, b.nodes, span{at, at}, c, deleted)
			checkForest(t, b.nodes, span{at, at}, a.nodes, r, c, inserted)
		}
	}
}

func TestForestDistEmptyRange(t *testing.T) {
	for _, c := range distCosts() {
		for _, a := range smallTrees(5) {
			for _, b := range smallTrees(3) {
				checkEmptyRanges(t, a, b, c)
			}
		}
	}
	trees := greatTrees()
	for n, a := range trees {
		checkEmptyRanges(t, a, trees[(3*n+1)%len(trees)], fewCosts()[n%4])
	}
}

// A span that is longer by one node, and the position of that node.
type longer struct {
	span
	at int
}

// longerSpans returns the ranges that have one node more at one of their ends.
func (d *drawn) longerSpans(r span) []longer {
	var out []longer
	if r.i > 0 {
		out = append(out, longer{span{r.i - 1, r.j}, r.i - 1})
	}
	if r.j < len(d.nodes) {
		out = append(out, longer{span{r.i, r.j + 1}, r.j})
	}
	return out
}

// checkLonger holds the distances of ranges with one node more to those without
// it. A mapping that loses the pair of that node costs at most what inserting or
// deleting the other node of the pair does, so that the distance is not much
// less, either.
func checkLonger(t *testing.T, a *drawn, r span, b *drawn, s span, c impl.Cost) {
	t.Helper()
	dist := func(r span, s span) int { return impl.ForestDist(a.nodes, r.i, r.j, b.nodes, s.i, s.j, c) }
	n := dist(r, s)
	greatest := slices.Max(slices.Concat(c.Del, c.Ins))
	for _, x := range a.longerSpans(r) {
		one := c.Del[a.nodes[a.positions().order[x.at]].Label]
		if got := dist(x.span, s); got > n+one || got+greatest < n {
			t.Fatalf("%v of %v and %v of %v: %d, but %d for %v, where a node costs %d", r, a.nodes, s, b.nodes, n, got, x.span, one)
		}
	}
	for _, y := range b.longerSpans(s) {
		one := c.Ins[b.nodes[b.positions().order[y.at]].Label]
		if got := dist(r, y.span); got > n+one || got+greatest < n {
			t.Fatalf("%v of %v and %v of %v: %d, but %d for %v, where a node costs %d", r, a.nodes, s, b.nodes, n, got, y.span, one)
		}
	}
}

func TestForestDistOneNodeMore(t *testing.T) {
	costs := []impl.Cost{evenCost(1), levelCost(3, 5, 7), countedCost(0, 20), variedCost(7, impl.MaxCost+1)}
	trees := smallTrees(4)
	for _, c := range costs {
		for _, a := range trees {
			for _, b := range trees {
				for _, r := range a.spans() {
					for _, s := range b.spans() {
						checkLonger(t, a, r, b, s, c)
					}
				}
			}
		}
	}
	great := greatTrees()
	for n, a := range great {
		b := great[(5*n+1)%len(great)]
		for k, r := range a.someSpans(6, n) {
			checkLonger(t, a, r, b, b.someSpans(6, n+1)[k], costs[n%4])
		}
	}
}

// isCut reports whether a range has a node without some of its descendants, or
// descendants without an ancestor, as which the root does.
func (d *drawn) isCut(r span) bool {
	p := d.positions()
	for at := r.i; at < r.j; at++ {
		if p.left[at] < r.i {
			return true
		}
	}
	return r.i < r.j && r.j < len(d.nodes)
}

// Ranges that cut subtrees in every way: from the left, from the right, both, and
// through several subtrees at once.
func TestForestDistCutsSubtrees(t *testing.T) {
	texts := []string{
		"div(p(a b) ul)", "div(p ul(a b))", "div(p(a(b)) ul(li))", "div(p(a b li) ul(li b a))", "p(a(b(ul(li(div)))))",
		"div(p(a(b) ul(li)))", "ul(li(a b) li(a) li)", "div(a p(b ul(li a) b) li)",
	}
	for n, s := range texts {
		a := drawnIn(s)
		for k, u := range texts {
			b := drawnIn(u)
			c := distCosts()[(3*n+5*k)%len(distCosts())]
			least := setsApart(a, b, c)
			for _, r := range a.spans() {
				for _, q := range b.spans() {
					if a.isCut(r) || b.isCut(q) {
						checkForest(t, a.nodes, r, b.nodes, q, c, least(r, q))
					}
				}
			}
		}
	}
}

// The nodes outside of a range do not count.
func TestForestDistDoesNotDependOnOtherLabels(t *testing.T) {
	trees := append(smallTrees(4), variedTree(12, 3), variedTree(12, 4))
	for n, a := range trees {
		b, c := trees[(3*n+2)%len(trees)], fewCosts()[n%4]
		for _, r := range a.spans() {
			for _, s := range b.someSpans(4, n) {
				want := impl.ForestDist(a.nodes, r.i, r.j, b.nodes, s.i, s.j, c)
				checkForest(t, relabeledOutside(a, r), r, b.nodes, s, c, want)
				checkForest(t, a.nodes, r, relabeledOutside(b, s), s, c, want)
			}
		}
	}
}

// relabeledOutside returns the nodes of a tree with other labels for those that
// are not in a range.
func relabeledOutside(d *drawn, r span) []impl.Node {
	l := slices.Clone(d.nodes)
	for at, i := range d.positions().order {
		if at < r.i || at >= r.j {
			l[i].Label = (l[i].Label + 1 + at%5) % 6
		}
	}
	return l
}

func TestForestDistExchanged(t *testing.T) {
	trees := append(smallTrees(4), greatTrees()...)
	for n, a := range trees {
		for k, b := range trees {
			c := distCosts()[(n+3*k)%len(distCosts())]
			back := exchanged(c)
			for _, r := range a.someSpans(1, n+k) {
				s := b.someSpans(1, n)[(n+k)%6]
				checkForest(t, b.nodes, s, a.nodes, r, back, impl.ForestDist(a.nodes, r.i, r.j, b.nodes, s.i, s.j, c))
			}
			if m, n := impl.SlowDist(a.nodes, b.nodes, c), impl.SlowDist(b.nodes, a.nodes, back); m != n {
				t.Errorf("SlowDist(%v, %v, %v) = %d, but %d when exchanged", a.nodes, b.nodes, c, m, n)
			}
		}
	}
}

// badSpans returns ranges that no tree of n nodes has.
func badSpans(n int) []span {
	out := []span{{-1, 0}, {-1, -1}, {-1, n}, {0, -1}, {0, n + 1}, {n, n + 1}, {n + 1, n + 1}, {n + 1, n}, {n + 1, 0}, {n, -1}, {-1, n + 1}, {n, 0}}
	for i := 0; i < n; i++ {
		out = append(out, span{i + 1, i}, span{-1, i}, span{i, n + 1}, span{i + 1, 0}, span{n, i})
	}
	for _, m := range far {
		if m < 0 || m > n {
			out = append(out, span{m, m}, span{m, 0}, span{0, m}, span{m, n}, span{n, m})
			for _, k := range far {
				out = append(out, span{m, k})
			}
		}
	}
	return out
}

// A range that is wrong on one side is enough, whatever the other one is.
func TestForestDistRangeBeyondItsLimits(t *testing.T) {
	trees := append(smallTrees(3), drawnIn("div(p(a b) ul)"), draw(chain(impl.MaxDepth)), draw(star(impl.MaxNodes)))
	for n, a := range trees {
		b, c := trees[(n+1)%len(trees)], fewCosts()[n%4]
		for _, bad := range badSpans(len(a.nodes)) {
			for _, s := range b.someSpans(3, n) {
				checkForest(t, a.nodes, bad, b.nodes, s, c, -1)
				checkForest(t, b.nodes, s, a.nodes, bad, c, -1)
			}
			for _, other := range badSpans(len(b.nodes))[:12] {
				checkForest(t, a.nodes, bad, b.nodes, other, c, -1)
			}
		}
	}
}

func TestForestDistRangeAtItsLimits(t *testing.T) {
	for n, a := range append(smallTrees(4), greatTrees()...) {
		b, c := drawnIn("div(p(a b) ul)"), fewCosts()[n%4]
		least := setsApart(a, b, c)
		size := len(a.nodes)
		for _, r := range []span{{0, 0}, {0, 1}, {0, size}, {size - 1, size}, {size, size}} {
			for _, s := range []span{{0, 0}, {0, 1}, {0, 5}, {4, 5}, {5, 5}} {
				checkForest(t, a.nodes, r, b.nodes, s, c, least(r, s))
			}
		}
		// What is in range for the larger tree may be out of range for the other.
		for _, d := range []int{0, 1, 2} {
			wantA, wantB := -1, -1
			if 5+d <= size {
				wantA = sumOf(a, span{5 + d, 5 + d}, c.Del)
			}
			if size+d <= 5 {
				wantB = sumOf(b, span{size + d, size + d}, c.Ins)
			}
			checkForest(t, a.nodes, span{5 + d, 5 + d}, b.nodes, span{0, 0}, c, wantA)
			checkForest(t, a.nodes, span{0, 0}, b.nodes, span{size + d, size + d}, c, wantB)
		}
	}
}

func TestForestDistSingleNode(t *testing.T) {
	trees := append(smallTrees(5), greatTrees()...)
	for label := range 6 {
		one := draw(&branch{label: label})
		for n, b := range trees {
			c := distCosts()[(n+label)%len(distCosts())]
			for _, s := range b.someSpans(4, n+label) {
				checkForest(t, one.nodes, one.whole(), b.nodes, s, c, setsApart(one, b, c)(one.whole(), s))
				checkForest(t, b.nodes, s, one.nodes, one.whole(), c, setsApart(b, one, c)(s, one.whole()))
			}
			checkSlow(t, one, b, c, takenApart(one, b, c))
			checkSlow(t, b, one, c, takenApart(b, one, c))
		}
		for other := range 6 {
			for _, c := range distCosts() {
				b := draw(&branch{label: other})
				rel, apart := c.Rel[6*label+other], c.Del[label]+c.Ins[other]
				checkForest(t, one.nodes, span{0, 1}, b.nodes, span{0, 1}, c, min(rel, apart))
				if got := impl.SlowDist(one.nodes, b.nodes, c); got != rel {
					t.Errorf("SlowDist of the labels %d and %d = %d, want %d", label, other, got, rel)
				}
			}
		}
	}
}

func TestForestDistSinglePath(t *testing.T) {
	for _, c := range fewCosts() {
		for m := 0; m <= impl.MaxDepth; m++ {
			for n := 0; n <= impl.MaxDepth; n++ {
				a, b := draw(chain(m)), draw(chain(n))
				checkForests(t, a, a.someSpans(2, m), b, b.someSpans(2, n), c, setsApart(a, b, c))
				checkSlow(t, a, b, c, takenApart(a, b, c))
			}
		}
	}
	// The nodes of a path have the labels n%6 from the deepest one up, so that a
	// range of one path is in another one, or begins 6 nodes later in it.
	long, short := draw(chain(12)).nodes, draw(chain(5)).nodes
	checkForest(t, long, span{2, 5}, short, span{2, 5}, levelCost(3, 5, 7), 0)
	checkForest(t, long, span{8, 12}, short, span{2, 6}, levelCost(3, 5, 7), 0)
	checkForest(t, long, span{0, 13}, short, span{1, 5}, levelCost(3, 5, 7), 9*3)
	checkNoForestOf(t, draw(chain(impl.MaxDepth+1)).nodes, long, evenCost(1))
}

func TestForestDistRootWithMostChildren(t *testing.T) {
	for _, c := range fewCosts() {
		for n := 2; n <= impl.MaxNodes; n++ {
			for _, m := range []int{1, 2, n - 1, impl.MaxNodes - 1, impl.MaxNodes} {
				a, b := draw(star(n)), draw(star(m))
				checkForests(t, a, a.someSpans(2, n), b, b.someSpans(2, m), c, setsApart(a, b, c))
				checkSlow(t, a, b, c, takenApart(a, b, c))
			}
		}
	}
	most := draw(star(impl.MaxNodes)).nodes
	checkForest(t, most, span{0, 23}, most, span{0, 23}, levelCost(3, 5, 7), 0)
	checkForest(t, most, span{6, 18}, most, span{0, 12}, levelCost(3, 5, 7), 0)
	checkForest(t, most, span{0, 23}, most, span{0, 24}, levelCost(3, 5, 7), 5)
	checkForest(t, most, span{23, 24}, most, span{0, 24}, levelCost(3, 5, 7), 23*5)
	checkNoForestOf(t, draw(star(impl.MaxNodes+1)).nodes, most, evenCost(1))
}

func TestForestDistMostNodesAndGreatestDepth(t *testing.T) {
	costs := distCosts()
	for n, a := range limitTrees() {
		for k, b := range append(limitTrees(), smallTrees(3)...) {
			for _, c := range []impl.Cost{costs[(n+k)%len(costs)], costs[(n+2*k+5)%len(costs)]} {
				checkForests(t, a, a.someSpans(2, n), b, b.someSpans(2, k), c, setsApart(a, b, c))
				checkForests(t, b, b.someSpans(1, n), a, a.someSpans(1, k), c, setsApart(b, a, c))
				checkSlow(t, a, b, c, takenApart(a, b, c))
				checkSlow(t, b, a, c, takenApart(b, a, c))
			}
			if len(a.nodes) == impl.MaxNodes {
				checkNoForestOf(t, append(slices.Clone(a.nodes), impl.Node{Depth: 1}), b.nodes, evenCost(1))
			}
			checkNoForestOf(t, draw(chain(impl.MaxDepth+1)).nodes, b.nodes, evenCost(1))
			checkNoForestOf(t, draw(star(impl.MaxNodes+1)).nodes, b.nodes, evenCost(1))
		}
	}
}

func TestForestDistLargestCosts(t *testing.T) {
	for _, n := range []int{1, 2, 12, impl.MaxNodes} {
		a, b := sameLabel(draw(star(n)), 0).nodes, sameLabel(draw(star(n)), 1).nodes
		all, dear := span{0, n}, levelCost(100, 200, impl.MaxCost)
		checkForest(t, a, all, b, all, evenCost(impl.MaxCost), n*impl.MaxCost)
		checkForest(t, a, all, b, span{n, n}, evenCost(impl.MaxCost), n*impl.MaxCost)
		checkForest(t, a, span{0, 0}, b, all, evenCost(impl.MaxCost), n*impl.MaxCost)
		checkForest(t, a, all, b, all, dear, n*300)
		checkForest(t, a, all, b, all, levelCost(impl.MaxCost, impl.MaxCost, 0), 0)
		if got := impl.SlowDist(a, b, evenCost(impl.MaxCost)); got != n*impl.MaxCost {
			t.Errorf("SlowDist of %d relabeled nodes = %d", n, got)
		}
		if got := impl.SlowDist(a, b, dear); got != impl.MaxCost+(n-1)*300 {
			t.Errorf("SlowDist of %d replaced nodes = %d", n, got)
		}
	}
}

func TestForestDistZeroCosts(t *testing.T) {
	trees := append(smallTrees(4), greatTrees()...)
	for n, a := range trees {
		for k, b := range trees {
			for _, r := range a.someSpans(1, n+k) {
				checkForest(t, a.nodes, r, b.nodes, b.someSpans(1, n)[k%6], evenCost(0), 0)
			}
			if got := impl.SlowDist(a.nodes, b.nodes, evenCost(0)); got != 0 {
				t.Errorf("SlowDist(%v, %v) without costs = %d", a.nodes, b.nodes, got)
			}
		}
	}
}

func TestForestDistCostBeyondItsLimit(t *testing.T) {
	checkCostsBeyondTheirLimits(t, checkNoForest)
}

func TestForestDistInvalidCosts(t *testing.T) {
	checkInvalidCosts(t, checkNoForest)
	for _, c := range invalidCosts() {
		checkForest(t, treeIn("div"), span{0, 2}, treeIn("div"), span{-1, 0}, c, -1)
	}
}

func TestForestDistInvalidTrees(t *testing.T) {
	others := [][]impl.Node{treeIn("div"), treeIn("p(a(ul) b)"), draw(star(impl.MaxNodes)).nodes, nil, depthsOf(0, 1, 0)}
	for _, l := range invalidTrees() {
		for _, other := range others {
			checkNoForestOf(t, l, other, evenCost(1))
		}
		checkNoForestOf(t, l, treeIn("div"), impl.Cost{})
		checkForest(t, l, span{0, len(l) + 1}, treeIn("div"), span{-1, 0}, evenCost(1), -1)
	}
}

func TestForestDistArgumentsStayAsTheyAre(t *testing.T) {
	other := treeIn("p(a(ul) b)")
	checkArgumentStays(t, func(l []impl.Node) {
		n := len(l)
		impl.ForestDist(l, 0, n, other, 0, 4, evenCost(1))
		impl.ForestDist(other, 1, 4, l, n/3, n-n/3, evenCost(1))
		impl.ForestDist(l, 0, n+1, l, -1, n, evenCost(1))
		impl.SlowDist(l, other, evenCost(1))
		impl.SlowDist(other, l, evenCost(1))
	})
	if !slices.Equal(other, treeIn("p(a(ul) b)")) {
		t.Errorf("p(a(ul) b) became %v", other)
	}
	for _, c := range append(distCosts(), invalidCosts()...) {
		held, full := heldCost(c)
		impl.ForestDist(other, 0, 4, treeIn("div(p)"), 0, 2, held)
		impl.SlowDist(other, treeIn("div(p)"), held)
		_, want := heldCost(c)
		if !slices.EqualFunc(full, want, slices.Equal[[]int]) {
			t.Errorf("%v became %v", want, full)
		}
	}
}

// Nothing is left of one call for the next one, with the same ranges of other
// trees or with other costs.
func TestForestDistKeepsNothing(t *testing.T) {
	shapes := append(smallTrees(4), variedTree(9, 1), variedTree(9, 2))
	for _, c := range distCosts() {
		for n, a := range shapes {
			b := shapes[(3*n+1)%len(shapes)]
			r, s := a.whole(), b.whole()
			want := setsApart(a, b, c)(r, s)
			checkForest(t, a.nodes, r, b.nodes, s, c, want)
			impl.ForestDist(b.nodes, s.i, s.j, a.nodes, r.i, r.j, c)
			impl.ForestDist(a.nodes, r.i, r.j+1, b.nodes, s.i, s.j, c)
			checkForest(t, a.nodes, r, b.nodes, s, c, want)
			checkSlow(t, a, b, c, takenApart(a, b, c))
		}
	}
}

// Nodes and costs in the unused capacity of a list do not count.
func TestForestDistUnusedCapacityDoesNotCount(t *testing.T) {
	b := treeIn("p(a b)")
	for _, d := range append(smallTrees(4), limitTrees()...) {
		size := len(d.nodes)
		l := append(slices.Clone(d.nodes), impl.Node{Depth: 1})[:size]
		for _, c := range fewCosts() {
			held, _ := heldCost(c)
			checkForest(t, l, span{0, size}, b, span{0, 3}, held, impl.TreeDist(d.nodes, b, c))
			checkForest(t, l, span{0, size + 1}, b, span{0, 3}, held, -1)
			checkForest(t, b, span{0, 3}, l, span{size, size + 1}, held, -1)
			for table, list := range tablesOf(c) {
				checkNoForest(t, l, b, withTable(c, table, list[:len(list)-1]))
			}
		}
	}
}
