package tests

import (
	"math"
	"slices"
	"testing"

	"loop.example/g01618/impl"
)

// Promise 3: the children of a node and their descendants are its descendants;
// of any two nodes exactly one of these holds: they are equal, one is a
// descendant of the other, or one lies to the left of the other. These tests
// hold it for the functions of chapter 3.

// A branch is a node together with what is below it. The tests build trees from
// branches, so that what they expect does not rest on the rule for depths.
type branch struct {
	label int
	kids  []*branch
}

// A drawn tree is the list of the nodes of a branch together with the relatives
// of each node.
type drawn struct {
	nodes    []impl.Node
	branches []*branch
	parents  []int
	kids     [][]int
	ends     []int
}

func draw(root *branch) *drawn {
	d := &drawn{}
	d.add(root, -1, 0)
	return d
}

func (d *drawn) add(b *branch, parent int, depth int) int {
	i := len(d.nodes)
	d.nodes = append(d.nodes, impl.Node{Label: b.label, Depth: depth})
	d.branches = append(d.branches, b)
	d.parents = append(d.parents, parent)
	d.kids = append(d.kids, nil)
	d.ends = append(d.ends, 0)
	for _, kid := range b.kids {
		k := d.add(kid, i, depth+1)
		d.kids[i] = append(d.kids[i], k)
	}
	d.ends[i] = len(d.nodes)
	return i
}

func (b *branch) height() int {
	most := 0
	for _, kid := range b.kids {
		most = max(most, kid.height())
	}
	return most + 1
}

func (b *branch) leaves() int {
	if len(b.kids) == 0 {
		return 1
	}
	n := 0
	for _, kid := range b.kids {
		n += kid.leaves()
	}
	return n
}

// forests returns all lists of branches with n nodes in total.
func forests(n int) [][]*branch {
	if n == 0 {
		return [][]*branch{nil}
	}
	var out [][]*branch
	for first := 1; first <= n; first++ {
		for _, kids := range forests(first - 1) {
			for _, rest := range forests(n - first) {
				head := &branch{label: (n + 2*first) % impl.MaxLabels, kids: kids}
				out = append(out, append([]*branch{head}, rest...))
			}
		}
	}
	return out
}

// smallTrees returns a tree of every shape with at most n nodes.
func smallTrees(n int) []*drawn {
	var out []*drawn
	for size := range n {
		for i, kids := range forests(size) {
			out = append(out, draw(&branch{label: i % impl.MaxLabels, kids: kids}))
		}
	}
	return out
}

// numbersFrom returns a function that gives one number from 0 to below its limit
// after another. The seed decides which.
func numbersFrom(seed uint32) func(limit int) int {
	return func(limit int) int {
		seed = seed*1664525 + 1013904223
		return int(seed>>8) % limit
	}
}

// variedTree returns a tree of n nodes whose shape and labels the seed decides:
// each node is put below one of the nodes before it that may have children.
func variedTree(n int, seed uint32) *drawn {
	next := numbersFrom(seed)
	root := &branch{label: next(impl.MaxLabels)}
	open := []*branch{root}
	depth := map[*branch]int{}
	// Some seeds prefer the newest nodes, which makes deep trees.
	spread := 1 + next(n)
	for range n - 1 {
		up := open[len(open)-1-next(min(spread, len(open)))]
		kid := &branch{label: next(impl.MaxLabels)}
		up.kids = append(up.kids, kid)
		depth[kid] = depth[up] + 1
		if depth[kid] < impl.MaxDepth {
			open = append(open, kid)
		}
	}
	return draw(root)
}

// chain returns a branch whose deepest node is depth levels below it.
func chain(depth int) *branch {
	b := &branch{label: depth % impl.MaxLabels}
	if depth > 0 {
		b.kids = []*branch{chain(depth - 1)}
	}
	return b
}

// star returns a branch of n nodes that has all others as children.
func star(n int) *branch {
	b := &branch{label: n % impl.MaxLabels}
	for i := range n - 1 {
		b.kids = append(b.kids, &branch{label: i % impl.MaxLabels})
	}
	return b
}

// limitTrees returns trees with the most nodes, the greatest depth, or both.
func limitTrees() []*drawn {
	down := chain(impl.MaxDepth)
	right := chain(impl.MaxDepth)
	right.kids = append(right.kids, star(impl.MaxNodes).kids[:impl.MaxNodes-impl.MaxDepth-1]...)
	left := chain(impl.MaxDepth)
	left.kids = append(star(impl.MaxNodes-impl.MaxDepth).kids, left.kids...)
	two := chain(impl.MaxDepth)
	two.kids = append(two.kids, chain(impl.MaxNodes-impl.MaxDepth-2))
	low := chain(impl.MaxDepth - 1)
	last := low
	for len(last.kids) > 0 {
		last = last.kids[0]
	}
	last.kids = star(impl.MaxNodes - impl.MaxDepth + 1).kids
	var out []*drawn
	for _, b := range []*branch{down, star(impl.MaxNodes), right, left, two, low} {
		out = append(out, draw(b))
	}
	return out
}

// manyTrees returns every small shape, varied trees of each size, and the trees
// at the limits.
func manyTrees() []*drawn {
	out := smallTrees(7)
	for n := 1; n <= impl.MaxNodes; n++ {
		for seed := range uint32(20) {
			out = append(out, variedTree(n, seed+100*uint32(n)))
		}
	}
	return append(out, limitTrees()...)
}

// depthsOf returns a list with these depths and with labels that all are valid.
func depthsOf(depths ...int) []impl.Node {
	var l []impl.Node
	for i, d := range depths {
		l = append(l, impl.Node{Label: i % impl.MaxLabels, Depth: d})
	}
	return l
}

// far holds numbers that are no index and no depth, some of which become one if
// they wrap around or their high bits are cut off.
var far = []int{-1, -2, -24, 25, 100, 256, 1 << 32, -1 << 32, math.MaxInt, math.MaxInt - 1, math.MinInt, math.MinInt + 1}

func checkNoNode(t *testing.T, l []impl.Node, i int) {
	t.Helper()
	if got := impl.EndOf(l, i); got != -1 {
		t.Errorf("EndOf(%v, %d) = %d, want -1", l, i, got)
	}
	if got := impl.SubTree(l, i); len(got) != 0 {
		t.Errorf("SubTree(%v, %d) = %v, want none", l, i, got)
	}
	if got := impl.ParentOf(l, i); got != -1 {
		t.Errorf("ParentOf(%v, %d) = %d, want -1", l, i, got)
	}
	if got := impl.KidsOf(l, i); len(got) != 0 {
		t.Errorf("KidsOf(%v, %d) = %v, want none", l, i, got)
	}
}

func checkNoTree(t *testing.T, l []impl.Node) {
	t.Helper()
	if impl.TreeOk(l) {
		t.Errorf("TreeOk(%v) = true", l)
	}
	if got := impl.HeightOf(l); got != 0 {
		t.Errorf("HeightOf(%v) = %d, want 0", l, got)
	}
	if got := impl.LeavesOf(l); got != 0 {
		t.Errorf("LeavesOf(%v) = %d, want 0", l, got)
	}
	for i := -1; i <= len(l); i++ {
		checkNoNode(t, l, i)
	}
	for _, i := range far {
		checkNoNode(t, l, i)
	}
	if !impl.SameTree(l, slices.Clone(l)) {
		t.Errorf("SameTree(%v, %v) = false", l, l)
	}
}

func checkNodeOf(t *testing.T, d *drawn, i int) {
	t.Helper()
	if got := impl.EndOf(d.nodes, i); got != d.ends[i] {
		t.Errorf("EndOf(%v, %d) = %d, want %d", d.nodes, i, got, d.ends[i])
	}
	if got := impl.ParentOf(d.nodes, i); got != d.parents[i] {
		t.Errorf("ParentOf(%v, %d) = %d, want %d", d.nodes, i, got, d.parents[i])
	}
	if got := impl.KidsOf(d.nodes, i); !slices.Equal(got, d.kids[i]) {
		t.Errorf("KidsOf(%v, %d) = %v, want %v", d.nodes, i, got, d.kids[i])
	}
	want := draw(d.branches[i]).nodes
	got := impl.SubTree(d.nodes, i)
	if !slices.Equal(got, want) || !impl.TreeOk(got) {
		t.Errorf("SubTree(%v, %d) = %v, want %v", d.nodes, i, got, want)
	}
}

func TestTreeExample(t *testing.T) {
	// div(p(a) b)
	l := []impl.Node{{Label: 0, Depth: 0}, {Label: 1, Depth: 1}, {Label: 2, Depth: 2}, {Label: 5, Depth: 1}}
	if !impl.TreeOk(l) {
		t.Error("TreeOk = false")
	}
	if got := impl.EndOf(l, 1); got != 3 {
		t.Errorf("EndOf node 1 = %d, want 3", got)
	}
	if got := impl.KidsOf(l, 0); !slices.Equal(got, []int{1, 3}) {
		t.Errorf("KidsOf node 0 = %v, want [1 3]", got)
	}
	d := draw(&branch{label: 0, kids: []*branch{{label: 1, kids: []*branch{{label: 2}}}, {label: 5}}})
	if !impl.SameTree(d.nodes, l) {
		t.Errorf("SameTree(%v, %v) = false", d.nodes, l)
	}
	for i := range l {
		checkNodeOf(t, d, i)
	}
}

func TestTreeFunctionsOverManyTrees(t *testing.T) {
	for _, d := range manyTrees() {
		l := d.nodes
		if !impl.TreeOk(l) {
			t.Fatalf("TreeOk(%v) = false", l)
		}
		if got, want := impl.HeightOf(l), d.branches[0].height(); got != want {
			t.Errorf("HeightOf(%v) = %d, want %d", l, got, want)
		}
		if got, want := impl.LeavesOf(l), d.branches[0].leaves(); got != want {
			t.Errorf("LeavesOf(%v) = %d, want %d", l, got, want)
		}
		for i := range l {
			checkNodeOf(t, d, i)
		}
	}
}

// The rest of promise 3 is checked on the results alone, without a drawn tree.

func TestTreeDescendantsAreChildrenAndTheirs(t *testing.T) {
	for _, d := range manyTrees() {
		l := d.nodes
		for i := range l {
			var below []int
			for _, kid := range impl.KidsOf(l, i) {
				for k := kid; k < impl.EndOf(l, kid); k++ {
					below = append(below, k)
				}
			}
			var want []int
			for k := i + 1; k < impl.EndOf(l, i); k++ {
				want = append(want, k)
			}
			if !slices.Equal(below, want) {
				t.Errorf("children of node %d of %v hold %v, its descendants are %v", i, l, below, want)
			}
		}
	}
}

func TestTreeEachNodeIsChildOfItsParentAlone(t *testing.T) {
	for _, d := range manyTrees() {
		l := d.nodes
		for k := range l {
			var parents []int
			for i := range l {
				for range count(impl.KidsOf(l, i), k) {
					parents = append(parents, i)
				}
			}
			var want []int
			if k > 0 {
				want = []int{impl.ParentOf(l, k)}
			}
			if !slices.Equal(parents, want) {
				t.Errorf("node %d of %v is a child of %v, want %v", k, l, parents, want)
			}
		}
		if got := impl.ParentOf(l, 0); got != -1 {
			t.Errorf("ParentOf(%v, 0) = %d", l, got)
		}
	}
}

func count(l []int, x int) int {
	n := 0
	for _, y := range l {
		if y == x {
			n++
		}
	}
	return n
}

// Of two nodes the later one is a descendant of the earlier one with all that
// is below it, or it follows everything below the earlier one.
func TestTreeTwoNodesAreNestedOrApart(t *testing.T) {
	for _, d := range manyTrees() {
		l := d.nodes
		if got := impl.EndOf(l, 0); got != len(l) {
			t.Errorf("EndOf(%v, 0) = %d", l, got)
		}
		for i := range l {
			end := impl.EndOf(l, i)
			if end <= i || end > len(l) {
				t.Fatalf("EndOf(%v, %d) = %d", l, i, end)
			}
			for k := i + 1; k < end; k++ {
				if impl.EndOf(l, k) > end {
					t.Errorf("node %d of %v is below node %d, which ends before it", k, l, i)
				}
			}
		}
	}
}

func TestTreeSizesAndLeavesAddUp(t *testing.T) {
	for _, d := range manyTrees() {
		l := d.nodes
		leaves, height := 0, 0
		for i := range l {
			sub := impl.SubTree(l, i)
			if len(sub) != impl.EndOf(l, i)-i {
				t.Errorf("SubTree(%v, %d) has %d nodes", l, i, len(sub))
			}
			if len(impl.KidsOf(l, i)) == 0 {
				leaves++
			}
			height = max(height, l[i].Depth+impl.HeightOf(sub))
		}
		if got := impl.LeavesOf(l); got != leaves {
			t.Errorf("LeavesOf(%v) = %d, want %d", l, got, leaves)
		}
		if got := impl.HeightOf(l); got != height {
			t.Errorf("HeightOf(%v) = %d, want %d", l, got, height)
		}
	}
}

func TestTreeOkAcceptsNothingElse(t *testing.T) {
	const size = 6
	shapes := map[[size + 1]int]bool{}
	for _, d := range smallTrees(size) {
		shapes[depthKey(d.nodes)] = true
	}
	accepted := 0
	depths := []int{-1, 0, 1, 2, 3, 4, 5, 6}
	lists := [][]int{nil}
	for n := 0; n <= size; n++ {
		var longer [][]int
		for _, list := range lists {
			l := depthsOf(list...)
			want := n > 0 && shapes[depthKey(l)]
			if got := impl.TreeOk(l); got != want {
				t.Fatalf("TreeOk(%v) = %v, want %v", l, got, want)
			}
			if want {
				accepted++
			}
			for _, d := range depths {
				longer = append(longer, append(slices.Clone(list), d))
			}
		}
		if n < size {
			lists = longer
		}
	}
	if accepted != 1+1+2+5+14+42 {
		t.Errorf("%d shapes accepted", accepted)
	}
}

// depthKey returns the depths of at most six nodes, with the number of nodes in
// front.
func depthKey(l []impl.Node) [7]int {
	key := [7]int{len(l)}
	for i, x := range l {
		key[i+1] = x.Depth
	}
	return key
}

func TestTreeDepthIncreasesByTwo(t *testing.T) {
	for _, depths := range [][]int{
		{0, 2}, {0, 2, 1}, {0, 2, 2}, {0, 2, 3},
		{0, 1, 3}, {0, 1, 3, 2}, {0, 1, 1, 3}, {0, 1, 2, 4}, {0, 1, 2, 1, 3}, {0, 1, 2, 2, 4, 3},
		{0, 1, 2, 3, 4, 5, 6, 7, 8, 9, 10, 12},
		// By more than two.
		{0, 3}, {0, 1, 4}, {0, 1, 2, 3, 1, 4}, {0, 12}, {0, 1, 12},
	} {
		checkNoTree(t, depthsOf(depths...))
	}
	for _, d := range manyTrees() {
		for i := 1; i < len(d.nodes); i++ {
			l := slices.Clone(d.nodes)
			l[i].Depth = l[i-1].Depth + 2
			if impl.TreeOk(l) {
				t.Errorf("TreeOk(%v) = true", l)
			}
		}
	}
	// A depth may fall by two or more.
	for _, depths := range [][]int{{0, 1, 2, 3, 1}, {0, 1, 2, 3, 4, 2, 1, 2}, {0, 1, 2, 3, 4, 5, 6, 7, 8, 9, 10, 11, 12, 1}} {
		if l := depthsOf(depths...); !impl.TreeOk(l) {
			t.Errorf("TreeOk(%v) = false", l)
		}
	}
}

func TestTreeMostNodes(t *testing.T) {
	if impl.MaxNodes != 24 {
		t.Errorf("MaxNodes = %d", impl.MaxNodes)
	}
	full := limitTrees()
	for seed := range uint32(50) {
		full = append(full, variedTree(impl.MaxNodes, seed))
	}
	for _, d := range full {
		if len(d.nodes) != impl.MaxNodes {
			continue
		}
		if !impl.TreeOk(d.nodes) {
			t.Errorf("TreeOk(%v) = false", d.nodes)
		}
		for depth := 1; depth <= min(d.nodes[impl.MaxNodes-1].Depth+1, impl.MaxDepth); depth++ {
			checkNoTree(t, append(slices.Clone(d.nodes), impl.Node{Depth: depth}))
		}
	}
	for _, n := range []int{25, 26, 48, 256, 256 + 24, 1000} {
		checkNoTree(t, draw(star(n)).nodes)
	}
}

func TestTreeGreatestDepth(t *testing.T) {
	if impl.MaxDepth != 12 {
		t.Errorf("MaxDepth = %d", impl.MaxDepth)
	}
	l := draw(chain(impl.MaxDepth)).nodes
	if !impl.TreeOk(l) || impl.HeightOf(l) != impl.MaxDepth+1 || impl.LeavesOf(l) != 1 {
		t.Errorf("%v: TreeOk %v, HeightOf %d, LeavesOf %d", l, impl.TreeOk(l), impl.HeightOf(l), impl.LeavesOf(l))
	}
	checkNoTree(t, draw(chain(impl.MaxDepth+1)).nodes)
	checkNoTree(t, draw(chain(impl.MaxDepth+2)).nodes)
	// Depths that are too great in the middle of the list and in a later branch.
	checkNoTree(t, append(draw(chain(impl.MaxDepth+1)).nodes, impl.Node{Depth: 1}))
	b := chain(impl.MaxNodes - impl.MaxDepth - 3)
	b.kids = append(b.kids, chain(impl.MaxDepth))
	checkNoTree(t, draw(b).nodes)
}

func TestTreeLabelBeyondEitherLimit(t *testing.T) {
	wrong := append([]int{impl.MaxLabels, impl.MaxLabels + 1}, far...)
	trees := append(smallTrees(4), limitTrees()...)
	for _, d := range trees {
		for i := range d.nodes {
			for _, label := range wrong {
				l := slices.Clone(d.nodes)
				l[i].Label = label
				checkNoTree(t, l)
			}
			for label := range impl.MaxLabels {
				l := slices.Clone(d.nodes)
				l[i].Label = label
				if !impl.TreeOk(l) {
					t.Errorf("TreeOk(%v) = false", l)
				}
			}
		}
	}
}

func TestTreeSecondNodeOfDepthZero(t *testing.T) {
	for _, d := range append(smallTrees(5), limitTrees()...) {
		for i := 1; i < len(d.nodes); i++ {
			l := slices.Clone(d.nodes)
			l[i].Depth = 0
			checkNoTree(t, l)
		}
		if len(d.nodes) < impl.MaxNodes {
			checkNoTree(t, append(slices.Clone(d.nodes), impl.Node{}))
		}
	}
	checkNoTree(t, depthsOf(0, 0))
	checkNoTree(t, depthsOf(0, 1, 0, 1))
}

func TestTreeRootOfAnotherDepth(t *testing.T) {
	for _, depth := range append([]int{1, 2, 11, 12, 13}, far...) {
		checkNoTree(t, depthsOf(depth))
		checkNoTree(t, depthsOf(depth, 0))
		checkNoTree(t, depthsOf(depth, 1))
		checkNoTree(t, depthsOf(depth, depth+1))
	}
	// A subtree as it stands in the whole tree is no tree.
	checkNoTree(t, depthsOf(1, 2, 2))
}

func TestTreeDepthFarBeyondTheLimits(t *testing.T) {
	trees := append(smallTrees(4), limitTrees()...)
	for _, d := range trees {
		for i := range d.nodes {
			for _, depth := range far {
				l := slices.Clone(d.nodes)
				l[i].Depth = depth
				checkNoTree(t, l)
			}
		}
	}
	checkNoTree(t, depthsOf(0, 1, math.MaxInt, math.MinInt))
	checkNoTree(t, depthsOf(0, math.MaxInt, math.MinInt, 1))
}

func TestTreeEmptyList(t *testing.T) {
	checkNoTree(t, nil)
	checkNoTree(t, []impl.Node{})
	spare := []impl.Node{{}, {Depth: 1}}
	checkNoTree(t, spare[:0])
	if !impl.SameTree(nil, []impl.Node{}) || !impl.SameTree([]impl.Node{}, nil) || !impl.SameTree(nil, nil) {
		t.Error("SameTree of empty lists = false")
	}
	if impl.SameTree(nil, spare[:1]) || impl.SameTree(spare[:1], nil) {
		t.Error("SameTree of an empty list and one node = true")
	}
}

func TestTreeIndexOutOfRange(t *testing.T) {
	for _, d := range manyTrees() {
		checkNoNode(t, d.nodes, -1)
		checkNoNode(t, d.nodes, len(d.nodes))
		checkNoNode(t, d.nodes, len(d.nodes)+1)
		for _, i := range far {
			checkNoNode(t, d.nodes, i)
		}
		// A node in the unused capacity of a list is not a node of it.
		spare := append(slices.Clone(d.nodes), impl.Node{Depth: 1})
		checkNoNode(t, spare[:len(d.nodes)], len(d.nodes))
	}
}

func TestSameTreeOfDifferentShapes(t *testing.T) {
	trees := smallTrees(5)
	for i, a := range trees {
		for k, b := range trees {
			want := i == k
			if got := impl.SameTree(a.nodes, slices.Clone(b.nodes)); got != want {
				t.Errorf("SameTree(%v, %v) = %v, want %v", a.nodes, b.nodes, got, want)
			}
		}
	}
}

func TestSameTreeOneDifference(t *testing.T) {
	for _, d := range append(smallTrees(4), limitTrees()...) {
		for i := range d.nodes {
			label := slices.Clone(d.nodes)
			label[i].Label = (label[i].Label + 1) % impl.MaxLabels
			depth := slices.Clone(d.nodes)
			depth[i].Depth++
			for _, other := range [][]impl.Node{label, depth, d.nodes[:i]} {
				if impl.SameTree(d.nodes, other) || impl.SameTree(other, d.nodes) {
					t.Errorf("SameTree(%v, %v) = true", d.nodes, other)
				}
			}
		}
	}
}

func TestSameTreeAcceptsAnyLists(t *testing.T) {
	lists := [][]impl.Node{
		nil,
		{{Label: -1, Depth: 0}}, {{Label: 6, Depth: 0}}, {{Label: 0, Depth: 7}}, {{Label: 7, Depth: 0}},
		{{Label: math.MinInt, Depth: math.MaxInt}}, {{Label: math.MaxInt, Depth: math.MinInt}},
		{{}, {}}, {{}, {}, {}}, depthsOf(0, 2), depthsOf(0, 3),
		make([]impl.Node, 25), make([]impl.Node, 26), make([]impl.Node, 1000),
		draw(star(100)).nodes, draw(chain(100)).nodes,
	}
	for i, a := range lists {
		for k, b := range lists {
			if got := impl.SameTree(a, slices.Clone(b)); got != (i == k) {
				t.Errorf("SameTree of list %d and list %d = %v", i, k, got)
			}
		}
	}
}

func TestTreeArgumentsStayAsTheyAre(t *testing.T) {
	invalid := []*drawn{{nodes: depthsOf(0, 2, 1)}, {nodes: depthsOf(0, 1, 0)}, draw(star(30))}
	for _, d := range append(invalid, manyTrees()...) {
		size := len(d.nodes)
		guard := []impl.Node{{Label: 3, Depth: 1}, {Label: 4, Depth: 2}, {Label: 77, Depth: 77}}
		full := append(slices.Clone(d.nodes), guard...)
		before := slices.Clone(full)
		l := full[:size]
		for i := -1; i <= size; i++ {
			impl.EndOf(l, i)
			impl.SubTree(l, i)
			impl.ParentOf(l, i)
			impl.KidsOf(l, i)
		}
		impl.TreeOk(l)
		impl.HeightOf(l)
		impl.LeavesOf(l)
		impl.SameTree(l, d.nodes)
		if !slices.Equal(full, before) {
			t.Errorf("%v became %v", before, full)
		}
	}
}

func TestTreeResultsAreNewMemory(t *testing.T) {
	for _, d := range manyTrees() {
		l := slices.Clone(d.nodes)
		for i := range l {
			sub, kids := impl.SubTree(l, i), impl.KidsOf(l, i)
			sub, kids = sub[:cap(sub)], kids[:cap(kids)]
			for k := range sub {
				sub[k] = impl.Node{Label: -9, Depth: -9}
			}
			for k := range kids {
				kids[k] = -9
			}
			checkNodeOf(t, d, i)
		}
		if !slices.Equal(l, d.nodes) {
			t.Errorf("%v became %v", d.nodes, l)
		}
	}
}
