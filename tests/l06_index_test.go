package tests

import (
	"slices"
	"testing"

	"loop.example/g01618/impl"
)

// Promise 4: each node follows its descendants in postorder; there are as many
// key roots as leaves. Promise 3: the children of a node and their descendants
// are its descendants; of any two nodes exactly one of these holds: they are
// equal, one is a descendant of the other, or one lies to the left of the
// other. These tests hold both for the functions of chapter 6.

// A positions value holds what chapter 6 says about a tree as a whole.
type positions struct {
	order []int
	ranks []int
	left  []int
	roots []int
}

// positionsOf returns what impl says about the list.
func positionsOf(l []impl.Node) positions {
	return positions{impl.PostOrder(l), impl.RankOf(l), impl.LeftLeaf(l), impl.KeyRoots(l)}
}

// positions walks the drawn tree to find what impl has to say about it.
func (d *drawn) positions() positions {
	p := positions{ranks: make([]int, len(d.nodes))}
	d.walk(0, &p)
	last := map[int]int{}
	for at, leaf := range p.left {
		last[leaf] = at
	}
	for _, at := range last {
		p.roots = append(p.roots, at)
	}
	slices.Sort(p.roots)
	return p
}

// walk adds node i and what is below it, and returns the position of the first
// node that it adds, which is the leftmost leaf.
func (d *drawn) walk(i int, p *positions) int {
	first := -1
	for _, kid := range d.kids[i] {
		if leaf := d.walk(kid, p); first < 0 {
			first = leaf
		}
	}
	if first < 0 {
		first = len(p.order)
	}
	p.ranks[i] = len(p.order)
	p.order = append(p.order, i)
	p.left = append(p.left, first)
	return first
}

// isUnder goes up from node j by the parents of the drawn tree.
func (d *drawn) isUnder(i int, j int) bool {
	for j > 0 {
		j = d.parents[j]
		if j == i {
			return true
		}
	}
	return false
}

func checkPositions(t *testing.T, l []impl.Node, want positions) {
	t.Helper()
	got := positionsOf(l)
	if !slices.Equal(got.order, want.order) {
		t.Errorf("PostOrder(%v) = %v, want %v", l, got.order, want.order)
	}
	if !slices.Equal(got.ranks, want.ranks) {
		t.Errorf("RankOf(%v) = %v, want %v", l, got.ranks, want.ranks)
	}
	if !slices.Equal(got.left, want.left) {
		t.Errorf("LeftLeaf(%v) = %v, want %v", l, got.left, want.left)
	}
	if !slices.Equal(got.roots, want.roots) {
		t.Errorf("KeyRoots(%v) = %v, want %v", l, got.roots, want.roots)
	}
}

func checkKin(t *testing.T, l []impl.Node, i int, j int, under bool, left bool) {
	t.Helper()
	if got := impl.Under(l, i, j); got != under {
		t.Errorf("Under(%v, %d, %d) = %v, want %v", l, i, j, got, under)
	}
	if got := impl.LeftOf(l, i, j); got != left {
		t.Errorf("LeftOf(%v, %d, %d) = %v, want %v", l, i, j, got, left)
	}
}

func checkKidRank(t *testing.T, l []impl.Node, i int, want int) {
	t.Helper()
	if got := impl.KidRank(l, i); got != want {
		t.Errorf("KidRank(%v, %d) = %d, want %d", l, i, got, want)
	}
}

// upTo returns the numbers from 0 to n-1.
func upTo(n int) []int {
	out := make([]int, n)
	for i := range out {
		out[i] = i
	}
	return out
}

func TestPositionsOfSomeTrees(t *testing.T) {
	cases := []struct {
		s    string
		want positions
	}{
		{"div", positions{[]int{0}, []int{0}, []int{0}, []int{0}}},
		{"div(p)", positions{[]int{1, 0}, []int{1, 0}, []int{0, 0}, []int{1}}},
		{"div(p b)", positions{[]int{1, 2, 0}, []int{2, 0, 1}, []int{0, 1, 0}, []int{1, 2}}},
		{"div(p(a))", positions{[]int{2, 1, 0}, []int{2, 1, 0}, []int{0, 0, 0}, []int{2}}},
		{"div(p(a) b)", positions{[]int{2, 1, 3, 0}, []int{3, 1, 0, 2}, []int{0, 0, 2, 0}, []int{2, 3}}},
		{"div(b p(a))", positions{[]int{1, 3, 2, 0}, []int{3, 0, 2, 1}, []int{0, 1, 1, 0}, []int{2, 3}}},
		{"ul(li(p a) li li(p(a b)))", positions{
			[]int{2, 3, 1, 4, 7, 8, 6, 5, 0},
			[]int{8, 2, 0, 1, 3, 7, 6, 4, 5},
			[]int{0, 1, 0, 3, 4, 5, 4, 4, 0},
			[]int{1, 3, 5, 7, 8},
		}},
	}
	for _, c := range cases {
		l := treeIn(c.s)
		checkPositions(t, l, c.want)
		checkPositions(t, l, draw(branchOf(c.s)).positions())
	}
}

// branchOf returns the branch of a text format that is known to be one.
func branchOf(s string) *branch {
	b, _ := branchIn(s, impl.MaxDepth+1)
	return b
}

func TestKinOfSomeNodes(t *testing.T) {
	l := treeIn("div(p(a) b)")
	under := [][2]int{{0, 1}, {0, 2}, {0, 3}, {1, 2}}
	left := [][2]int{{1, 3}, {2, 3}}
	for i := range l {
		for j := range l {
			pair := [2]int{i, j}
			checkKin(t, l, i, j, slices.Contains(under, pair), slices.Contains(left, pair))
		}
	}
	for i, want := range []int{-1, 0, 0, 1} {
		checkKidRank(t, l, i, want)
	}
}

func TestPositionsOverManyTrees(t *testing.T) {
	for _, d := range manyTrees() {
		checkPositions(t, d.nodes, d.positions())
	}
}

func TestKinOverManyTrees(t *testing.T) {
	for _, d := range manyTrees() {
		for i := range d.nodes {
			for j := range d.nodes {
				under := d.isUnder(i, j)
				checkKin(t, d.nodes, i, j, under, j > i && !under)
			}
		}
	}
}

func TestKidRankOverManyTrees(t *testing.T) {
	for _, d := range manyTrees() {
		checkKidRank(t, d.nodes, 0, -1)
		for _, kids := range d.kids {
			for rank, kid := range kids {
				checkKidRank(t, d.nodes, kid, rank)
			}
		}
	}
}

// The labels have no part in the positions and in the relatives.
func TestIndexDoesNotDependOnLabels(t *testing.T) {
	for _, d := range append(smallTrees(5), limitTrees()...) {
		want := d.positions()
		for label := range impl.MaxLabels {
			l := slices.Clone(d.nodes)
			for i := range l {
				l[i].Label = label
			}
			checkPositions(t, l, want)
			for i := range l {
				checkKidRank(t, l, i, impl.KidRank(d.nodes, i))
				for j := range l {
					checkKin(t, l, i, j, d.isUnder(i, j), j > i && !d.isUnder(i, j))
				}
			}
		}
	}
}

// The rest of the promises is checked on the results alone, without a drawn
// tree.

func TestPostorderHasEachNodeOnce(t *testing.T) {
	for _, d := range manyTrees() {
		order := impl.PostOrder(d.nodes)
		slices.Sort(order)
		if !slices.Equal(order, upTo(len(d.nodes))) {
			t.Errorf("PostOrder(%v) has the nodes %v", d.nodes, order)
		}
	}
}

func TestPostorderNodeFollowsItsDescendants(t *testing.T) {
	for _, d := range manyTrees() {
		l := d.nodes
		order := impl.PostOrder(l)
		for i := range l {
			at := slices.Index(order, i)
			for k := i + 1; k < impl.EndOf(l, i); k++ {
				if slices.Index(order, k) >= at {
					t.Errorf("PostOrder(%v) = %v, where %d does not follow its descendant %d", l, order, i, k)
				}
			}
			for _, k := range order[:at] {
				if impl.LeftOf(l, i, k) || impl.Under(l, k, i) {
					t.Errorf("PostOrder(%v) = %v, where %d follows %d", l, order, i, k)
				}
			}
		}
	}
}

func TestPostorderHasChildrenInOrder(t *testing.T) {
	for _, d := range manyTrees() {
		l := d.nodes
		order := impl.PostOrder(l)
		for i := range l {
			var at []int
			for _, kid := range impl.KidsOf(l, i) {
				at = append(at, slices.Index(order, kid))
			}
			if !slices.IsSorted(at) {
				t.Errorf("PostOrder(%v) = %v, where the children of %d are at %v", l, order, i, at)
			}
		}
	}
}

func TestRankIsIndexInPostorder(t *testing.T) {
	for _, d := range manyTrees() {
		order, ranks := impl.PostOrder(d.nodes), impl.RankOf(d.nodes)
		if len(ranks) != len(d.nodes) {
			t.Fatalf("RankOf(%v) = %v", d.nodes, ranks)
		}
		for i, rank := range ranks {
			if rank != slices.Index(order, i) {
				t.Errorf("RankOf(%v) = %v, but PostOrder is %v", d.nodes, ranks, order)
			}
		}
	}
}

func TestLeftLeafIsFoundByFirstChildren(t *testing.T) {
	for _, d := range manyTrees() {
		l := d.nodes
		order, ranks, left := impl.PostOrder(l), impl.RankOf(l), impl.LeftLeaf(l)
		if len(left) != len(l) {
			t.Fatalf("LeftLeaf(%v) = %v", l, left)
		}
		for p, leaf := range left {
			i := order[p]
			for len(impl.KidsOf(l, i)) > 0 {
				i = impl.KidsOf(l, i)[0]
			}
			if leaf != ranks[i] {
				t.Errorf("LeftLeaf(%v) = %v, where position %d is not %d", l, left, p, ranks[i])
			}
		}
	}
}

// The positions from the leftmost leaf to the node itself are those of its
// subtree.
func TestLeftLeafStartsTheSubtree(t *testing.T) {
	for _, d := range manyTrees() {
		l := d.nodes
		order, left := impl.PostOrder(l), impl.LeftLeaf(l)
		for p, leaf := range left {
			i := order[p]
			sub := slices.Clone(order[leaf : p+1])
			slices.Sort(sub)
			if sub[0] != i || len(sub) != impl.EndOf(l, i)-i || sub[len(sub)-1] != impl.EndOf(l, i)-1 {
				t.Errorf("LeftLeaf(%v) = %v, where the subtree at position %d has the nodes %v", l, left, p, sub)
			}
		}
	}
}

func TestKeyRootsAreLastOfEachLeaf(t *testing.T) {
	for _, d := range manyTrees() {
		l := d.nodes
		left, roots := impl.LeftLeaf(l), impl.KeyRoots(l)
		if len(roots) != impl.LeavesOf(l) {
			t.Errorf("KeyRoots(%v) = %v, but there are %d leaves", l, roots, impl.LeavesOf(l))
		}
		for k := 1; k < len(roots); k++ {
			if roots[k-1] >= roots[k] {
				t.Errorf("KeyRoots(%v) = %v, which does not ascend", l, roots)
			}
		}
		for p, leaf := range left {
			later := slices.Contains(left[p+1:], leaf)
			if slices.Contains(roots, p) == later {
				t.Errorf("KeyRoots(%v) = %v, with the leaves %v", l, roots, left)
			}
		}
	}
}

// A key root is the root, or a node that has a sibling before it.
func TestKeyRootsAreNoFirstChildren(t *testing.T) {
	for _, d := range manyTrees() {
		l := d.nodes
		var want []int
		for p, i := range impl.PostOrder(l) {
			if impl.KidRank(l, i) != 0 {
				want = append(want, p)
			}
		}
		if got := impl.KeyRoots(l); !slices.Equal(got, want) {
			t.Errorf("KeyRoots(%v) = %v, want %v", l, got, want)
		}
	}
}

func TestTwoNodesHaveExactlyOneRelation(t *testing.T) {
	for _, d := range manyTrees() {
		l := d.nodes
		for i := range l {
			for j := range l {
				holds := []bool{i == j, impl.Under(l, i, j), impl.Under(l, j, i), impl.LeftOf(l, i, j), impl.LeftOf(l, j, i)}
				n := 0
				for _, h := range holds {
					if h {
						n++
					}
				}
				if n != 1 {
					t.Errorf("nodes %d and %d of %v: equal, under, above, left, right: %v", i, j, l, holds)
				}
			}
		}
	}
}

func TestNodesUnderANodeAreChildrenAndUnderThem(t *testing.T) {
	for _, d := range manyTrees() {
		l := d.nodes
		for i := range l {
			kids := impl.KidsOf(l, i)
			for j := range l {
				want := slices.Contains(kids, j)
				for _, kid := range kids {
					want = want || impl.Under(l, kid, j)
				}
				if got := impl.Under(l, i, j); got != want {
					t.Errorf("Under(%v, %d, %d) = %v, but the children of node %d are %v", l, i, j, got, i, kids)
				}
			}
		}
	}
}

// Both relations go on: what is under a node that is under another one is under
// that one, and the same holds to the left.
func TestKinIsTransitive(t *testing.T) {
	for _, d := range append(smallTrees(6), limitTrees()...) {
		l := d.nodes
		for i := range l {
			for j := range l {
				for k := range l {
					if impl.Under(l, i, j) && impl.Under(l, j, k) && !impl.Under(l, i, k) {
						t.Errorf("Under(%v, %d, %d) = false, but %d is between them", l, i, k, j)
					}
					if impl.LeftOf(l, i, j) && impl.LeftOf(l, j, k) && !impl.LeftOf(l, i, k) {
						t.Errorf("LeftOf(%v, %d, %d) = false, but %d is between them", l, i, k, j)
					}
					if impl.LeftOf(l, i, j) && impl.Under(l, j, k) && !impl.LeftOf(l, i, k) {
						t.Errorf("LeftOf(%v, %d, %d) = false, but %d is under %d", l, i, k, k, j)
					}
				}
			}
		}
	}
}

func TestKidRankIsIndexAmongChildren(t *testing.T) {
	for _, d := range manyTrees() {
		l := d.nodes
		for i := range l {
			for rank, kid := range impl.KidsOf(l, i) {
				checkKidRank(t, l, kid, rank)
			}
		}
	}
}

func TestIndexSinglePath(t *testing.T) {
	for depth := 0; depth <= impl.MaxDepth; depth++ {
		l := draw(chain(depth)).nodes
		down := upTo(depth + 1)
		slices.Reverse(down)
		checkPositions(t, l, positions{down, down, make([]int, depth+1), []int{depth}})
		for i := range l {
			for j := range l {
				checkKin(t, l, i, j, i < j, false)
			}
			checkKidRank(t, l, i, min(i, 1)-1)
		}
	}
}

func TestIndexRootWithMostChildren(t *testing.T) {
	for n := 2; n <= impl.MaxNodes; n++ {
		l := draw(star(n)).nodes
		kids := upTo(n)[1:]
		left := append(upTo(n-1), 0)
		checkPositions(t, l, positions{append(kids, 0), append([]int{n - 1}, upTo(n-1)...), left, upTo(n)[1:]})
		for i := range l {
			for j := range l {
				checkKin(t, l, i, j, i == 0 && j > 0, i > 0 && i < j)
			}
			checkKidRank(t, l, i, i-1)
		}
	}
}

func TestIndexMostNodesAndGreatestDepth(t *testing.T) {
	for _, d := range limitTrees() {
		l := d.nodes
		checkPositions(t, l, d.positions())
		if len(l) == impl.MaxNodes {
			for depth := 1; depth <= min(l[len(l)-1].Depth+1, impl.MaxDepth); depth++ {
				checkNoIndex(t, append(slices.Clone(l), impl.Node{Depth: depth}))
			}
		}
	}
	// The left leaf is the deepest possible node, and so is the last one.
	deep := chain(impl.MaxDepth)
	deep.kids = append(deep.kids, chain(impl.MaxNodes-impl.MaxDepth-2))
	l := draw(deep).nodes
	if got := impl.KeyRoots(l); !slices.Equal(got, []int{impl.MaxNodes - 2, impl.MaxNodes - 1}) {
		t.Errorf("KeyRoots(%v) = %v", l, got)
	}
	checkNoIndex(t, draw(chain(impl.MaxDepth+1)).nodes)
	checkNoIndex(t, draw(star(impl.MaxNodes+1)).nodes)
	checkNoIndex(t, append(draw(chain(impl.MaxDepth+1)).nodes, impl.Node{Depth: 1}))
}

// checkNoIndex holds every function of chapter 6 to its result for a list that
// is no valid tree.
func checkNoIndex(t *testing.T, l []impl.Node) {
	t.Helper()
	checkPositions(t, l, positions{})
	numbers := append([]int{-1, 0, 1, 2, len(l) - 1, len(l), len(l) + 1}, far...)
	for _, i := range numbers {
		checkKidRank(t, l, i, -1)
		for _, j := range numbers {
			checkKin(t, l, i, j, false, false)
		}
	}
}

func TestIndexInvalidTrees(t *testing.T) {
	for _, l := range invalidTrees() {
		checkNoIndex(t, l)
	}
	for _, depths := range [][]int{{0, 1, 1, 0}, {0, 1, 2, 2, 4}, {1, 2, 2}, {0, 1, 1, 3}} {
		checkNoIndex(t, depthsOf(depths...))
	}
	// Nothing is wrong with the two nodes, but with the node behind them.
	l := depthsOf(0, 1, 1, 0)
	checkKin(t, l, 0, 1, false, false)
	checkKin(t, l, 1, 2, false, false)
	checkKidRank(t, l, 2, -1)
}

func TestIndexNodeDoesNotExist(t *testing.T) {
	for _, d := range append(smallTrees(5), limitTrees()...) {
		l := d.nodes
		none := append([]int{-1, len(l), len(l) + 1}, far...)
		for _, no := range none {
			checkKidRank(t, l, no, -1)
			for i := range l {
				checkKin(t, l, i, no, false, false)
				checkKin(t, l, no, i, false, false)
			}
			for _, other := range none {
				checkKin(t, l, no, other, false, false)
			}
		}
	}
}

// A node in the unused capacity of a list is not a node of it.
func TestIndexNodeBehindTheList(t *testing.T) {
	for _, d := range append(smallTrees(5), limitTrees()...) {
		size := len(d.nodes)
		for _, depth := range []int{1, d.nodes[size-1].Depth + 1} {
			l := append(slices.Clone(d.nodes), impl.Node{Depth: depth})[:size]
			checkPositions(t, l, d.positions())
			checkKidRank(t, l, size, -1)
			for i := range size {
				checkKin(t, l, i, size, false, false)
				checkKin(t, l, size, i, false, false)
			}
		}
	}
}

func TestIndexArgumentStaysAsItIs(t *testing.T) {
	checkArgumentStays(t, func(l []impl.Node) {
		positionsOf(l)
		for i := -1; i <= min(len(l), impl.MaxNodes); i++ {
			impl.KidRank(l, i)
			for _, j := range []int{0, 1, len(l) - 1, len(l)} {
				impl.Under(l, i, j)
				impl.LeftOf(l, i, j)
			}
		}
	})
}

func TestIndexResultsAreNewMemory(t *testing.T) {
	for _, d := range manyTrees() {
		l, want := slices.Clone(d.nodes), d.positions()
		p := positionsOf(l)
		for k, list := range [][]int{p.order, p.ranks, p.left, p.roots} {
			list = list[:cap(list)]
			for i := range list {
				list[i] = -9 - k
			}
		}
		checkPositions(t, l, want)
		if !slices.Equal(l, d.nodes) {
			t.Errorf("%v became %v", d.nodes, l)
		}
		for k, list := range [][]int{p.order, p.ranks, p.left, p.roots} {
			if count(list, -9-k) != len(list) {
				t.Errorf("results of %v share memory", d.nodes)
			}
		}
	}
}
