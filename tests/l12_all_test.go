package tests

import (
	"math"
	"slices"
	"testing"

	"loop.example/g01618/impl"
)

// Promise 5: RootDist is the minimum MapCost of all valid mappings that map root
// to root, and BestMap attains it. These tests hold it for the functions of
// chapter 12.

// mostSearched is the number that MaxAll has to be. With a greater one, the tests
// would go on for hours before they fail.
const mostSearched = 5

// earlier compares two mappings by the first node of a that they treat
// differently. One that leaves it unmapped comes before one that maps it, and
// one that maps it to a lower node before one that maps it to a higher one.
func earlier(a *drawn) func(m []impl.Pair, n []impl.Pair) int {
	return func(m []impl.Pair, n []impl.Pair) int {
		for x := range a.nodes {
			if to, other := imageOf(m, x), imageOf(n, x); to != other {
				return to - other
			}
		}
		return 0
	}
}

// rootedMappings returns the valid mappings among some lists of pairs that map
// root to root, in the order of the chapter.
func rootedMappings(a *drawn, b *drawn, lists [][]impl.Pair) [][]impl.Pair {
	var out [][]impl.Pair
	for _, m := range lists {
		if len(m) > 0 && m[0] == (impl.Pair{}) && isMapping(a, b, m) {
			out = append(out, m)
		}
	}
	slices.SortFunc(out, earlier(a))
	return out
}

func sameMaps(l [][]impl.Pair, k [][]impl.Pair) bool {
	return slices.EqualFunc(l, k, slices.Equal[[]impl.Pair])
}

func checkMapsOf(t *testing.T, a []impl.Node, b []impl.Node, want [][]impl.Pair) {
	t.Helper()
	got := impl.MapsOf(a, b)
	if !sameMaps(got, want) {
		t.Fatalf("MapsOf(%v, %v) = %v, want %v", a, b, got, want)
	}
	for _, m := range got {
		if !impl.MapOk(a, b, m) || !impl.RootsPaired(m) {
			t.Fatalf("MapsOf(%v, %v) has %v", a, b, m)
		}
	}
}

func checkLeastCost(t *testing.T, a []impl.Node, b []impl.Node, c impl.Cost, want int) {
	t.Helper()
	if got := impl.LeastCost(a, b, c); got != want {
		t.Fatalf("LeastCost(%v, %v, %v) = %d, want %d", a, b, c, got, want)
	}
}

// checkNoLeastCost holds LeastCost to its result for arguments of which one is
// invalid.
func checkNoLeastCost(t *testing.T, a []impl.Node, b []impl.Node, c impl.Cost) {
	t.Helper()
	checkLeastCost(t, a, b, c, -1)
}

// checkNoMaps holds both functions to their results for trees of which one is
// invalid or too large.
func checkNoMaps(t *testing.T, a []impl.Node, b []impl.Node) {
	t.Helper()
	checkMapsOf(t, a, b, nil)
	for _, c := range []impl.Cost{evenCost(0), evenCost(1), {}} {
		checkNoLeastCost(t, a, b, c)
	}
}

// checkNoMapsOf holds both functions to their results for a list that is no tree
// of at most MaxAll nodes, on either side.
func checkNoMapsOf(t *testing.T, l []impl.Node, other []impl.Node) {
	t.Helper()
	checkNoMaps(t, l, other)
	checkNoMaps(t, other, l)
	checkNoMaps(t, l, l)
}

// checkSearch holds LeastCost, RootDist and the cost of BestMap to the least that
// the mappings cost.
func checkSearch(t *testing.T, a *drawn, b *drawn, c impl.Cost, maps [][]impl.Pair) {
	t.Helper()
	least := math.MaxInt
	for _, m := range maps {
		least = min(least, summed(a, b, c, m))
	}
	checkLeastCost(t, a.nodes, b.nodes, c, least)
	if got := impl.RootDist(a.nodes, b.nodes, c); got != least {
		t.Fatalf("RootDist(%v, %v, %v) = %d, want %d", a.nodes, b.nodes, c, got, least)
	}
	best := impl.BestMap(a.nodes, b.nodes, c)
	checkMapCost(t, a.nodes, b.nodes, c, best, least)
	if !slices.ContainsFunc(maps, func(m []impl.Pair) bool { return slices.Equal(m, best) }) {
		t.Fatalf("BestMap(%v, %v, %v) = %v is not among %v", a.nodes, b.nodes, c, best, maps)
	}
}

// checkSameCosts holds LeastCost, RootDist and the cost of BestMap to each other.
func checkSameCosts(t *testing.T, a *drawn, b *drawn, c impl.Cost) {
	t.Helper()
	least := impl.LeastCost(a.nodes, b.nodes, c)
	if least < 0 {
		t.Fatalf("LeastCost(%v, %v, %v) = %d", a.nodes, b.nodes, c, least)
	}
	if got := impl.RootDist(a.nodes, b.nodes, c); got != least {
		t.Fatalf("LeastCost(%v, %v, %v) = %d, but RootDist is %d", a.nodes, b.nodes, c, least, got)
	}
	checkMapCost(t, a.nodes, b.nodes, c, impl.BestMap(a.nodes, b.nodes, c), least)
}

func TestMapsOfSomeTrees(t *testing.T) {
	cases := []struct {
		a, b string
		want [][]impl.Pair
	}{
		{"div", "p", [][]impl.Pair{pairsOf(0, 0)}},
		{"div(p)", "div(a)", [][]impl.Pair{pairsOf(0, 0), pairsOf(0, 0, 1, 1)}},
		{"div(p a)", "div(a)", [][]impl.Pair{pairsOf(0, 0), pairsOf(0, 0, 2, 1), pairsOf(0, 0, 1, 1)}},
		{"div(a)", "div(p a)", [][]impl.Pair{pairsOf(0, 0), pairsOf(0, 0, 1, 1), pairsOf(0, 0, 1, 2)}},
		{"div(p a)", "div(b ul)", [][]impl.Pair{
			pairsOf(0, 0), pairsOf(0, 0, 2, 1), pairsOf(0, 0, 2, 2),
			pairsOf(0, 0, 1, 1), pairsOf(0, 0, 1, 1, 2, 2), pairsOf(0, 0, 1, 2),
		}},
		// One of the nodes is above the other one in one tree only.
		{"div(p a)", "div(b(ul))", [][]impl.Pair{
			pairsOf(0, 0), pairsOf(0, 0, 2, 1), pairsOf(0, 0, 2, 2), pairsOf(0, 0, 1, 1), pairsOf(0, 0, 1, 2),
		}},
		{"div(p(a))", "div(b ul)", [][]impl.Pair{
			pairsOf(0, 0), pairsOf(0, 0, 2, 1), pairsOf(0, 0, 2, 2), pairsOf(0, 0, 1, 1), pairsOf(0, 0, 1, 2),
		}},
		{"div(p(a) b)", "div(ul li)", [][]impl.Pair{
			pairsOf(0, 0), pairsOf(0, 0, 3, 1), pairsOf(0, 0, 3, 2),
			pairsOf(0, 0, 2, 1), pairsOf(0, 0, 2, 1, 3, 2), pairsOf(0, 0, 2, 2),
			pairsOf(0, 0, 1, 1), pairsOf(0, 0, 1, 1, 3, 2), pairsOf(0, 0, 1, 2),
		}},
		{"div(ul li)", "div(p(a) b)", [][]impl.Pair{
			pairsOf(0, 0), pairsOf(0, 0, 2, 1), pairsOf(0, 0, 2, 2), pairsOf(0, 0, 2, 3),
			pairsOf(0, 0, 1, 1), pairsOf(0, 0, 1, 1, 2, 3),
			pairsOf(0, 0, 1, 2), pairsOf(0, 0, 1, 2, 2, 3), pairsOf(0, 0, 1, 3),
		}},
	}
	for _, c := range cases {
		checkMapsOf(t, treeIn(c.a), treeIn(c.b), c.want)
	}
}

// The mappings are those among all lists of pairs that begin with that of the
// roots, in any order and with nodes and pairs repeated. A list that is longer
// than one of the trees cannot be strictly ascending.
func TestMapsOfAreAmongAllLists(t *testing.T) {
	list := make([]impl.Pair, 1, mostSearched)
	for _, a := range smallTrees(mostSearched) {
		for _, b := range smallTrees(mostSearched) {
			var lists [][]impl.Pair
			eachList(allPairs(a, b), min(len(a.nodes), len(b.nodes))-1, func(rest []impl.Pair) {
				if m := append(list, rest...); isMapping(a, b, m) {
					lists = append(lists, slices.Clone(m))
				}
			})
			checkMapsOf(t, a.nodes, b.nodes, rootedMappings(a, b, lists))
		}
	}
}

func TestMapsOfVariedTrees(t *testing.T) {
	for seed := range 300 {
		a := variedTree(1+seed%mostSearched, uint32(seed))
		b := variedTree(1+seed/mostSearched%mostSearched, uint32(seed)+1000)
		checkMapsOf(t, a.nodes, b.nodes, rootedMappings(a, b, ascendingLists(a, b)))
	}
}

func TestMapsOfDoNotDependOnLabels(t *testing.T) {
	for _, a := range smallTrees(mostSearched) {
		for _, b := range smallTrees(mostSearched) {
			want := impl.MapsOf(a.nodes, b.nodes)
			for label := range 6 {
				checkMapsOf(t, sameLabel(a, label).nodes, sameLabel(b, 5-label).nodes, want)
				checkMapsOf(t, sameLabel(a, label).nodes, sameLabel(b, label).nodes, want)
			}
		}
	}
}

// The way back has the same mappings, each of them turned.
func TestMapsOfTurned(t *testing.T) {
	for _, a := range smallTrees(mostSearched) {
		for _, b := range smallTrees(mostSearched) {
			var back [][]impl.Pair
			for _, m := range impl.MapsOf(a.nodes, b.nodes) {
				back = append(back, impl.Turned(m))
			}
			slices.SortFunc(back, earlier(b))
			checkMapsOf(t, b.nodes, a.nodes, back)
		}
	}
}

// Below the roots of two paths, any nodes of one can be mapped to as many of the
// other. So can the leaves of two stars. Of a path and a star, only one node
// below the root can be mapped.
func TestMapsOfCounts(t *testing.T) {
	for m := 1; m <= mostSearched; m++ {
		for n := 1; n <= mostSearched; n++ {
			want := len(chosen(0, m+n-2, n-1))
			path, other := draw(chain(m-1)).nodes, draw(chain(n-1)).nodes
			if got := impl.MapsOf(path, other); len(got) != want {
				t.Errorf("%d mappings of paths of %d and %d nodes, want %d", len(got), m, n, want)
			}
			leaves, more := draw(star(m)).nodes, draw(star(n)).nodes
			if got := impl.MapsOf(leaves, more); len(got) != want {
				t.Errorf("%d mappings of stars of %d and %d nodes, want %d", len(got), m, n, want)
			}
			want = 1 + (m-1)*(n-1)
			if there, back := impl.MapsOf(path, more), impl.MapsOf(more, path); len(there) != want || len(back) != want {
				t.Errorf("%d and %d mappings of a path of %d nodes and a star of %d, want %d", len(there), len(back), m, n, want)
			}
		}
	}
}

// A tree of one node has only the mapping that contains only the roots. It is
// one of several, and the first one, if both trees are larger.
func TestMapsOfOnlyTheRoots(t *testing.T) {
	only := [][]impl.Pair{pairsOf(0, 0)}
	for n, d := range append(smallTrees(mostSearched), relabeledTrees(2, upTo(6)...)...) {
		for label := range 6 {
			one := []impl.Node{{Label: label}}
			checkMapsOf(t, one, d.nodes, only)
			checkMapsOf(t, d.nodes, one, only)
			c := distCosts()[(n+label)%len(distCosts())]
			below := span{0, len(d.nodes) - 1}
			checkLeastCost(t, one, d.nodes, c, c.Rel[6*label+d.nodes[0].Label]+sumOf(d, below, c.Ins))
			checkLeastCost(t, d.nodes, one, c, c.Rel[6*d.nodes[0].Label+label]+sumOf(d, below, c.Del))
		}
	}
	for label := range 6 {
		for other := range 6 {
			a, b := []impl.Node{{Label: label}}, []impl.Node{{Label: other}}
			checkMapsOf(t, a, b, only)
			for _, c := range distCosts() {
				checkLeastCost(t, a, b, c, c.Rel[6*label+other])
			}
		}
	}
	for _, a := range smallTrees(mostSearched) {
		for _, b := range smallTrees(mostSearched) {
			maps := impl.MapsOf(a.nodes, b.nodes)
			if len(maps) == 0 || !slices.Equal(maps[0], pairsOf(0, 0)) {
				t.Errorf("MapsOf(%v, %v) = %v", a.nodes, b.nodes, maps)
			}
			if several := len(a.nodes) > 1 && len(b.nodes) > 1; several != (len(maps) > 1) {
				t.Errorf("%d mappings of %v and %v", len(maps), a.nodes, b.nodes)
			}
		}
	}
	// It is also the mapping of least cost where replacing a node is cheaper than
	// relabeling it.
	dear := levelCost(1, 2, impl.MaxCost)
	checkLeastCost(t, treeIn("div(p(a) b)"), treeIn("div(ul li)"), dear, 3*1+2*2)
	checkBestMap(t, treeIn("div(p(a) b)"), treeIn("div(ul li)"), dear, pairsOf(0, 0))
}

func TestLeastCostOfSomeTrees(t *testing.T) {
	cases := []struct {
		a, b string
		c    impl.Cost
		want int
	}{
		{"div", "div", evenCost(1), 0},
		{"div", "p", evenCost(1), 1},
		{"div", "p", levelCost(3, 5, 9), 9},
		{"div(p)", "p", levelCost(3, 5, 7), 10},
		{"p", "div(p)", levelCost(3, 5, 7), 12},
		{"div(p b)", "div(b p)", evenCost(1), 2},
		{"div(p b)", "div(ul(p b))", evenCost(1), 1},
		{"div(p(a b))", "div(p a b)", evenCost(1), 2},
		{"div(p(a b) ul)", "p(a b)", evenCost(1), 3},
		{"div(p(a b) ul)", "div(a b li)", evenCost(1), 2},
		{"div(p(a b) ul)", "div(a b li)", levelCost(3, 5, 7), 10},
		{"div(p(a b) ul)", "div(a b li)", levelCost(3, 5, 9), 11},
	}
	for _, c := range cases {
		checkLeastCost(t, treeIn(c.a), treeIn(c.b), c.c, c.want)
	}
}

// Which label of a pair is the old one, and which costs are for which tree.
func TestLeastCostTakesEachCostFromItsTable(t *testing.T) {
	a, b := treeIn("div(p)"), treeIn("ul(a)")
	c := levelCost(100, 200, 50)
	c.Rel[6*0+3], c.Rel[6*1+2] = 11, 7
	checkLeastCost(t, a, b, c, 18)
	checkLeastCost(t, b, a, c, 100)
	c.Del[1], c.Ins[2] = 2, 3
	checkLeastCost(t, a, b, c, 16)
	checkLeastCost(t, b, a, c, 100)
	checkLeastCost(t, a, b[:1], c, 13)
	checkLeastCost(t, a[:1], b, c, 14)
}

func TestLeastCostIsRootDistOfAllShapes(t *testing.T) {
	trees := smallTrees(mostSearched)
	for _, a := range trees {
		for _, b := range trees {
			maps := rootedMappings(a, b, ascendingLists(a, b))
			for _, c := range distCosts() {
				checkSearch(t, a, b, c, maps)
			}
		}
	}
}

func TestLeastCostIsRootDistOfAllLabels(t *testing.T) {
	for _, labels := range [][]int{{0, 1, 2}, {3, 5, 4}} {
		trees := relabeledTrees(3, labels...)
		for n, a := range trees {
			for k, b := range trees {
				maps := rootedMappings(a, b, ascendingLists(a, b))
				checkSearch(t, a, b, evenCost(1), maps)
				checkSearch(t, a, b, distCosts()[(n+3*k)%len(distCosts())], maps)
			}
		}
	}
}

// Every tree of two labels, each with many others.
func TestLeastCostIsRootDistOfManyTrees(t *testing.T) {
	trees := relabeledTrees(4, 1, 4)
	for n, a := range trees {
		for k, b := range trees {
			checkSameCosts(t, a, b, evenCost(1))
			checkSameCosts(t, a, b, distCosts()[(n+3*k)%len(distCosts())])
		}
	}
	trees = relabeledTrees(mostSearched, 2, 3)
	for n, a := range trees {
		for k := n % 23; k < len(trees); k += 23 {
			checkSameCosts(t, a, trees[k], evenCost(1))
			checkSameCosts(t, a, trees[k], distCosts()[(n+k)%len(distCosts())])
		}
	}
	for seed := range uint32(600) {
		a, b := variedTree(mostSearched, seed), variedTree(mostSearched-int(seed%3), seed+1000)
		for _, c := range []impl.Cost{evenCost(1), variedCost(seed, 5), variedCost(seed+100, impl.MaxCost+1)} {
			checkSearch(t, a, b, c, rootedMappings(a, b, ascendingLists(a, b)))
		}
	}
}

// Relabeling over a third label, or replacing a node, costs less than relabeling
// it. The least cost is still what the pairs of one mapping cost.
func TestLeastCostWithoutTriangleInequality(t *testing.T) {
	c := levelCost(impl.MaxCost, impl.MaxCost, 1)
	c.Rel[6*1+5] = 600
	checkLeastCost(t, treeIn("div(p)"), treeIn("div(b)"), c, 600)
	c = levelCost(2, 3, 6)
	checkLeastCost(t, treeIn("div(p)"), treeIn("div(b)"), c, 5)
	// The roots are relabeled, although replacing them would cost less.
	checkLeastCost(t, treeIn("p(a)"), treeIn("b(a)"), c, 6)
	trees := relabeledTrees(3, 1, 5)
	for _, a := range trees {
		for _, b := range trees {
			maps := rootedMappings(a, b, ascendingLists(a, b))
			for seed := range uint32(5) {
				odd := levelCost(int(seed), 1, int(seed)+4)
				odd.Rel[6*1+5], odd.Rel[6*5+1] = 20*int(seed), 3
				checkSearch(t, a, b, odd, maps)
			}
		}
	}
}

// Trees of MaxAll nodes have mappings. With one node more, on either side or on
// both, there are none.
func TestMapsOfMostNodes(t *testing.T) {
	if impl.MaxAll != mostSearched {
		t.Fatalf("MaxAll = %d", impl.MaxAll)
	}
	for _, a := range smallTrees(6) {
		for _, b := range smallTrees(6) {
			if len(a.nodes) == 6 || len(b.nodes) == 6 {
				checkNoMaps(t, a.nodes, b.nodes)
			} else if len(impl.MapsOf(a.nodes, b.nodes)) == 0 {
				t.Errorf("no mappings of %v and %v", a.nodes, b.nodes)
			}
		}
	}
	for _, d := range append(greatTrees(), draw(star(7)), draw(chain(6)), draw(star(impl.MaxNodes+1)), draw(chain(impl.MaxDepth+1))) {
		for _, b := range smallTrees(mostSearched) {
			checkNoMapsOf(t, d.nodes, b.nodes)
		}
	}
}

func TestLeastCostLargestCosts(t *testing.T) {
	most := evenCost(impl.MaxCost)
	for n := 1; n <= mostSearched; n++ {
		a, b := sameLabel(draw(star(n)), 0).nodes, sameLabel(draw(star(n)), 1).nodes
		checkLeastCost(t, a, b, most, n*impl.MaxCost)
		checkLeastCost(t, a, a, most, 0)
		checkLeastCost(t, a, b[:1], most, n*impl.MaxCost)
		checkLeastCost(t, a[:1], b, most, n*impl.MaxCost)
		checkLeastCost(t, a, b, levelCost(impl.MaxCost, impl.MaxCost, 0), 0)
		checkLeastCost(t, a, b, levelCost(0, 0, impl.MaxCost), impl.MaxCost)
		checkNoLeastCost(t, a, b, evenCost(impl.MaxCost+1))
		checkNoLeastCost(t, a, a, evenCost(impl.MaxCost+1))
	}
	// Of a path and a star, one node below the root can be relabeled.
	path, leaves := sameLabel(draw(chain(mostSearched-1)), 0).nodes, sameLabel(draw(star(mostSearched)), 1).nodes
	checkLeastCost(t, path, leaves, most, (2+2*(mostSearched-2))*impl.MaxCost)
}

// Each number at its limits, and one beyond.
func TestLeastCostCostBeyondItsLimit(t *testing.T) {
	trees := append(smallTrees(2), drawnIn("p(a(ul) b li)"), drawnIn("div(ul(li(b)) a)"))
	for _, c := range someCosts() {
		for table, size := range tableSizes {
			for i := range size {
				for n, a := range trees {
					b := trees[(n+1)%len(trees)]
					checkSameCosts(t, a, b, withElement(c, table, i, 0))
					checkSameCosts(t, a, b, withElement(c, table, i, free(table, i, impl.MaxCost)))
					checkNoLeastCost(t, a.nodes, b.nodes, withElement(c, table, i, impl.MaxCost+1))
					checkNoLeastCost(t, a.nodes, b.nodes, withElement(c, table, i, -1))
				}
			}
		}
	}
}

func TestLeastCostInvalidCosts(t *testing.T) {
	checkInvalidCosts(t, checkNoLeastCost)
	for _, c := range invalidCosts() {
		checkNoLeastCost(t, treeIn("div(p(a b) ul)"), treeIn("div(a b li)"), c)
		checkNoLeastCost(t, treeIn("div(p(a b) ul)"), treeIn("div(a b li a b)"), c)
	}
}

func TestMapsOfInvalidTrees(t *testing.T) {
	others := [][]impl.Node{treeIn("div"), treeIn("p(a(ul) b)"), treeIn("p(a(ul) b li)"), draw(star(6)).nodes, nil, {}, depthsOf(0, 1, 0)}
	for _, l := range append(invalidTrees(), depthsOf(0, 1, 2, 1, 3), depthsOf(0, 1, 1, 1, 0), depthsOf(0, 1, 2, 3, 5)) {
		for _, other := range others {
			checkNoMapsOf(t, l, other)
		}
	}
	for _, d := range smallTrees(mostSearched) {
		for i := range d.nodes {
			for _, node := range []impl.Node{{Label: 6, Depth: d.nodes[i].Depth}, {Label: -1, Depth: d.nodes[i].Depth}, {Depth: -1}, {Depth: i + 1}} {
				l := slices.Clone(d.nodes)
				l[i] = node
				checkNoMapsOf(t, l, d.nodes)
			}
		}
	}
}

func TestMapsOfEmptyLists(t *testing.T) {
	empty := [][]impl.Node{nil, {}, treeIn("div(p)")[:0]}
	for _, l := range empty {
		for _, other := range empty {
			checkNoMapsOf(t, l, other)
		}
		for _, d := range smallTrees(mostSearched) {
			checkNoMapsOf(t, l, d.nodes)
		}
	}
}

func TestMapsOfArgumentsStayAsTheyAre(t *testing.T) {
	other := treeIn("p(a(ul) b li)")
	checkArgumentStays(t, func(l []impl.Node) {
		for _, pair := range [][2][]impl.Node{{l, other}, {other, l}, {l, l}} {
			impl.MapsOf(pair[0], pair[1])
			impl.LeastCost(pair[0], pair[1], evenCost(1))
		}
	})
	if !slices.Equal(other, treeIn("p(a(ul) b li)")) {
		t.Errorf("p(a(ul) b li) became %v", other)
	}
	for _, c := range append(distCosts(), invalidCosts()...) {
		held, full := heldCost(c)
		impl.LeastCost(other, treeIn("div(p)"), held)
		_, want := heldCost(c)
		if !slices.EqualFunc(full, want, slices.Equal[[]int]) {
			t.Errorf("%v became %v", want, full)
		}
	}
}

// cloneMaps returns a copy of a list of mappings and of each mapping.
func cloneMaps(l [][]impl.Pair) [][]impl.Pair {
	var out [][]impl.Pair
	for _, m := range l {
		out = append(out, slices.Clone(m))
	}
	return out
}

// No two mappings share memory, in one result or between two, and nothing is left
// of one call for the next one.
func TestMapsOfResultsAreNewMemory(t *testing.T) {
	for _, a := range smallTrees(mostSearched) {
		for _, b := range smallTrees(mostSearched) {
			first, second := impl.MapsOf(a.nodes, b.nodes), impl.MapsOf(a.nodes, b.nodes)
			want := cloneMaps(first)
			for i, m := range first {
				spoilPairs(m)
				for k, n := range first {
					if k != i && !slices.Equal(n, want[k]) {
						t.Fatalf("%v became %v after a change of %v", want[k], n, want[i])
					}
				}
				copy(m, want[i])
			}
			for i := range first[:cap(first)] {
				first[:cap(first)][i] = nil
			}
			if !sameMaps(second, want) {
				t.Fatalf("%v became %v", want, second)
			}
			checkMapsOf(t, a.nodes, b.nodes, want)
		}
	}
}

// Nodes and costs in the unused capacity of a list do not count.
func TestMapsOfUnusedCapacityDoesNotCount(t *testing.T) {
	b := treeIn("p(a b)")
	for _, d := range smallTrees(mostSearched) {
		l := append(slices.Clone(d.nodes), impl.Node{Depth: 1})[:len(d.nodes)]
		checkMapsOf(t, l, b, impl.MapsOf(d.nodes, b))
		checkMapsOf(t, b, l, impl.MapsOf(b, d.nodes))
		for _, c := range fewCosts() {
			held, _ := heldCost(c)
			checkLeastCost(t, l, b, held, impl.RootDist(d.nodes, b, c))
			for table, list := range tablesOf(c) {
				checkNoLeastCost(t, l, b, withTable(c, table, list[:len(list)-1]))
			}
		}
	}
	full := draw(star(6)).nodes
	checkLeastCost(t, full[:5], full[:5], evenCost(1), 0)
	checkNoMaps(t, full, full[:5])
}
