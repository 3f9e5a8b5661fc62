package tests

import (
	"math"
	"slices"
	"testing"

	"loop.example/g01618/impl"
)

// Promise 10: a successful operation produces a valid tree, a failed one changes
// nothing, and a script can be applied in two parts. These tests hold it for the
// functions of chapter 13.

// path returns the rank of each node below the root on the way to node i.
func (d *drawn) path(i int) []int {
	if i == 0 {
		return nil
	}
	up := d.parents[i]
	return append(d.path(up), slices.Index(d.kids[up], i))
}

// copied returns the branch of node i anew, with the labels of the list.
func (d *drawn) copied(i int) *branch {
	b := &branch{label: d.nodes[i].Label}
	for _, kid := range d.kids[i] {
		b.kids = append(b.kids, d.copied(kid))
	}
	return b
}

// line returns the branches on a path, of which the first is the root, or none if
// the path leads nowhere.
func (b *branch) line(path []int) []*branch {
	out := []*branch{b}
	for _, rank := range path {
		if rank < 0 || rank >= len(b.kids) {
			return nil
		}
		b = b.kids[rank]
		out = append(out, b)
	}
	return out
}

// ranges returns each From and Count that a list of children of this length has.
func ranges(kids int) [][2]int {
	var out [][2]int
	for from := range kids + 1 {
		for end := from; end <= kids; end++ {
			out = append(out, [2]int{from, end - from})
		}
	}
	return out
}

// performed finds by the branches what an operation makes of a valid tree, and
// its code.
func performed(d *drawn, o impl.Op) (*drawn, int) {
	root := d.copied(0)
	line := root.line(o.Path)
	if o.Kind < 1 || o.Kind > 3 {
		return d, 1
	}
	if len(line) == 0 {
		return d, 2
	}
	if o.Kind != 2 && (o.Label < 0 || o.Label > 5) {
		return d, 3
	}
	x := line[len(line)-1]
	switch o.Kind {
	case 1:
		x.label = o.Label
	case 2:
		if len(line) == 1 {
			return d, 4
		}
		above, rank := line[len(line)-2], o.Path[len(o.Path)-1]
		above.kids = slices.Replace(above.kids, rank, rank+1, x.kids...)
	case 3:
		if !slices.Contains(ranges(len(x.kids)), [2]int{o.From, o.Count}) {
			return d, 5
		}
		if len(d.nodes) == 24 {
			return d, 6
		}
		end := o.From + o.Count
		added := &branch{label: o.Label, kids: slices.Clone(x.kids[o.From:end])}
		x.kids = slices.Replace(x.kids, o.From, end, added)
		if root.height() > 13 {
			return d, 7
		}
	}
	return draw(root), 0
}

// performedAll finds in the same way what several operations make of a tree, how
// many of them are applied, and the code.
func performedAll(d *drawn, ops []impl.Op) (*drawn, int, int) {
	for i, o := range ops {
		next, code := performed(d, o)
		if code != 0 {
			return d, i, code
		}
		d = next
	}
	return d, len(ops), 0
}

func relabeling(path []int, label int) impl.Op {
	return impl.Op{Kind: impl.OpRelabel, Path: path, Label: label}
}

func deletion(path []int) impl.Op {
	return impl.Op{Kind: impl.OpDelete, Path: path}
}

func insertion(path []int, label int, from int, count int) impl.Op {
	return impl.Op{Kind: impl.OpInsert, Path: path, Label: label, From: from, Count: count}
}

// below returns the path to the child of this rank of the node that a path leads
// to.
func below(path []int, rank int) []int {
	return append(slices.Clone(path), rank)
}

func checkPath(t *testing.T, l []impl.Node, i int, want []int) {
	t.Helper()
	if got := impl.PathOf(l, i); !slices.Equal(got, want) {
		t.Fatalf("PathOf(%v, %d) = %v, want %v", l, i, got, want)
	}
}

func checkNodeAt(t *testing.T, l []impl.Node, path []int, want int) {
	t.Helper()
	if got := impl.NodeAt(l, path); got != want {
		t.Fatalf("NodeAt(%v, %v) = %d, want %d", l, path, got, want)
	}
}

func checkApplied(t *testing.T, l []impl.Node, o impl.Op, want []impl.Node, wantCode int) {
	t.Helper()
	if got, code := impl.ApplyOp(l, o); !slices.Equal(got, want) || code != wantCode {
		t.Fatalf("ApplyOp(%v, %v) = %v, %d, want %v, %d", l, o, got, code, want, wantCode)
	}
}

func checkFails(t *testing.T, l []impl.Node, o impl.Op, code int) {
	t.Helper()
	checkApplied(t, l, o, l, code)
	checkAppliedAll(t, l, []impl.Op{o}, l, 0, code)
}

// checkOp holds an operation to what it makes of the branches.
func checkOp(t *testing.T, d *drawn, o impl.Op) {
	t.Helper()
	want, code := performed(d, o)
	checkApplied(t, d.nodes, o, want.nodes, code)
	if !impl.TreeOk(want.nodes) {
		t.Fatalf("ApplyOp(%v, %v) = %v, which is no tree", d.nodes, o, want.nodes)
	}
}

func checkAppliedAll(t *testing.T, l []impl.Node, ops []impl.Op, want []impl.Node, wantN int, wantCode int) {
	t.Helper()
	if got, n, code := impl.ApplyAll(l, ops); !slices.Equal(got, want) || n != wantN || code != wantCode {
		t.Fatalf("ApplyAll(%v, %v) = %v, %d, %d, want %v, %d, %d", l, ops, got, n, code, want, wantN, wantCode)
	}
}

// checkScript holds ApplyAll to what the operations make of the branches, at once
// and in two parts, cut at each place. A part that fails is the last one.
func checkScript(t *testing.T, d *drawn, ops []impl.Op) {
	t.Helper()
	want, n, code := performedAll(d, ops)
	checkAppliedAll(t, d.nodes, ops, want.nodes, n, code)
	for cut := range len(ops) + 1 {
		first, k, reached := impl.ApplyAll(d.nodes, ops[:cut])
		if reached == impl.PcOk {
			if k != cut {
				t.Fatalf("ApplyAll(%v, %v) applied %d operations", d.nodes, ops[:cut], k)
			}
			checkAppliedAll(t, first, ops[cut:], want.nodes, n-cut, code)
		} else if !slices.Equal(first, want.nodes) || k != n || reached != code || cut <= n {
			t.Fatalf("ApplyAll(%v, %v) = %v, %d, %d", d.nodes, ops[:cut], first, k, reached)
		}
	}
}

// opsAt returns operations at node i of every kind, and of kinds that do not
// exist, with valid labels and others, and insertions with each range that its
// children have and others that they have not.
func opsAt(d *drawn, i int) []impl.Op {
	path, kids := d.path(i), len(d.kids[i])
	var out []impl.Op
	for kind := range 5 {
		for label := -1; label <= 6; label++ {
			out = append(out, impl.Op{Kind: kind, Path: path, Label: label, Count: kids})
		}
	}
	for from := -1; from <= kids+1; from++ {
		for count := -1; count <= kids-from+1; count++ {
			label := (kids + 3*from + count + 5) % 6
			out = append(out, insertion(path, label, from, count))
		}
	}
	return out
}

// insertionsAt returns every insertion below node i with a valid label and range.
func insertionsAt(d *drawn, i int) []impl.Op {
	var out []impl.Op
	for _, r := range ranges(len(d.kids[i])) {
		out = append(out, insertion(d.path(i), (i+r[0]+r[1])%6, r[0], r[1]))
	}
	return out
}

// roomyTrees returns trees, some of them large or deep, to which at least one more
// node and one more level can be added.
func roomyTrees() []*drawn {
	out := append(smallTrees(5), draw(star(23)), draw(chain(11)), drawnIn("div(p "+draw(chain(10)).branches[0].text()+" b)"))
	for seed := range uint32(16) {
		if d := variedTree(23-int(seed/2), seed); d.branches[0].height() <= 12 {
			out = append(out, d)
		}
	}
	return out
}

func TestOpKindsAndCodes(t *testing.T) {
	if impl.OpRelabel != 1 || impl.OpDelete != 2 || impl.OpInsert != 3 {
		t.Errorf("the kinds are %d, %d and %d", impl.OpRelabel, impl.OpDelete, impl.OpInsert)
	}
	codes := []int{impl.PcOk, impl.PcKind, impl.PcPath, impl.PcLabel, impl.PcRoot, impl.PcRange, impl.PcSize, impl.PcDepth}
	if !slices.Equal(codes, upTo(8)) {
		t.Errorf("the codes are %v", codes)
	}
}

func TestPathOfSomeNodes(t *testing.T) {
	l := treeIn("div(p(a b(ul)) li)")
	for i, want := range [][]int{nil, {0}, {0, 0}, {0, 1}, {0, 1, 0}, {1}} {
		checkPath(t, l, i, want)
		checkNodeAt(t, l, want, i)
	}
	for _, path := range [][]int{{2}, {-1}, {0, 2}, {1, 0}, {0, 0, 0}, {0, 1, 1}, {0, 1, 0, 0}, {2, 0}, {0, 1, -1}} {
		checkNodeAt(t, l, path, -1)
	}
}

func TestPathOfAndNodeAtAreInverse(t *testing.T) {
	for _, d := range manyTrees() {
		for i := range d.nodes {
			checkPath(t, d.nodes, i, d.path(i))
			checkNodeAt(t, d.nodes, d.path(i), i)
			checkNodeAt(t, d.nodes, impl.PathOf(d.nodes, i), i)
		}
		checkPath(t, d.nodes, 0, nil)
		checkNodeAt(t, d.nodes, nil, 0)
		checkNodeAt(t, d.nodes, []int{}, 0)
	}
}

func TestPathOfDoesNotDependOnLabels(t *testing.T) {
	for _, d := range fewTrees() {
		for label := range 6 {
			l := sameLabel(d, label).nodes
			for i := range l {
				checkPath(t, l, i, d.path(i))
				checkNodeAt(t, l, d.path(i), i)
			}
		}
	}
}

// Of all short paths, only those of the nodes lead anywhere.
func TestNodeAtOfAllPaths(t *testing.T) {
	for _, d := range smallTrees(5) {
		paths := [][]int{nil}
		for length := range 6 {
			var longer [][]int
			for _, path := range paths {
				want := slices.IndexFunc(upTo(len(d.nodes)), func(i int) bool { return slices.Equal(d.path(i), path) })
				checkNodeAt(t, d.nodes, path, want)
				for rank := -1; rank <= 4 && length < 5; rank++ {
					longer = append(longer, below(path, rank))
				}
			}
			paths = longer
		}
	}
}

// badPaths returns paths that lead nowhere: from node i to children that it has
// not, and past them.
func badPaths(d *drawn, i int) [][]int {
	var out [][]int
	path, kids := d.path(i), len(d.kids[i])
	for _, rank := range append([]int{kids, kids + 1}, far...) {
		wrong := below(path, rank)
		out = append(out, wrong, below(wrong, 0), below(below(wrong, 0), -1))
		for k := range path {
			other := slices.Clone(path)
			if other[k] = rank; rank != kids {
				out = append(out, other)
			}
		}
	}
	tooLong := append(slices.Clone(path), make([]int, impl.MaxDepth+1)...)
	return append(out, tooLong, append(tooLong, 1, 2, 3))
}

func TestNodeAtLeadsNowhere(t *testing.T) {
	for _, d := range append(fewTrees(), greatTrees()...) {
		for i := range d.nodes {
			for _, path := range badPaths(d, i) {
				if len(d.branches[0].line(path)) == 0 {
					checkNodeAt(t, d.nodes, path, -1)
				}
			}
		}
	}
	deep := draw(chain(impl.MaxDepth)).nodes
	for length, want := range upTo(impl.MaxDepth + 1) {
		checkNodeAt(t, deep, make([]int, length), want)
	}
	for _, length := range []int{13, 14, 24, 25, 256, 1000, 1000000} {
		checkNodeAt(t, deep, make([]int, length), -1)
		checkNodeAt(t, deep[:1], make([]int, length), -1)
		checkFails(t, deep, deletion(make([]int, length)), impl.PcPath)
	}
}

func TestPathOfNoNode(t *testing.T) {
	for _, d := range manyTrees() {
		for _, i := range append([]int{len(d.nodes), len(d.nodes) + 1}, far...) {
			checkPath(t, d.nodes, i, nil)
		}
	}
}

func TestOpsOfSomeTrees(t *testing.T) {
	cases := []struct {
		s    string
		o    impl.Op
		want string
	}{
		{"div(p b)", insertion(nil, 3, 0, 2), "div(ul(p b))"},
		{"div(p b)", insertion(nil, 3, 0, 1), "div(ul(p) b)"},
		{"div(p b)", insertion(nil, 3, 1, 1), "div(p ul(b))"},
		{"div(p b)", insertion([]int{0}, 3, 0, 0), "div(p(ul) b)"},
		{"div(p b)", insertion([]int{1}, 3, 0, 0), "div(p b(ul))"},
		{"div(p b)", relabeling(nil, 4), "li(p b)"},
		{"div(p b)", relabeling([]int{1}, 4), "div(p li)"},
		{"div(p b)", relabeling([]int{1}, 5), "div(p b)"},
		{"div(p b)", deletion([]int{0}), "div(b)"},
		{"div(p b)", deletion([]int{1}), "div(p)"},
		{"div", relabeling(nil, 1), "p"},
		{"div", insertion(nil, 0, 0, 0), "div(div)"},
		{"div(p(a(ul) b(li)) p)", deletion([]int{0}), "div(a(ul) b(li) p)"},
		{"div(p(a(ul) b(li)) p)", deletion([]int{0, 1}), "div(p(a(ul) li) p)"},
		{"div(p(a(ul) b(li)) p)", deletion([]int{0, 0, 0}), "div(p(a b(li)) p)"},
		{"div(p(a(ul) b(li)) p)", insertion([]int{0}, 5, 1, 1), "div(p(a(ul) b(b(li))) p)"},
		{"div(p(a(ul) b(li)) p)", insertion([]int{0}, 5, 0, 2), "div(p(b(a(ul) b(li))) p)"},
		{"div(p(a(ul) b(li)) p)", insertion(nil, 5, 0, 1), "div(b(p(a(ul) b(li))) p)"},
		{"div(p(a(ul) b(li)) p)", insertion(nil, 5, 1, 1), "div(p(a(ul) b(li)) b(p))"},
		{"div(p(a(ul) b(li)) p)", relabeling([]int{0, 1}, 0), "div(p(a(ul) div(li)) p)"},
	}
	for _, c := range cases {
		checkApplied(t, treeIn(c.s), c.o, treeIn(c.want), impl.PcOk)
		checkAppliedAll(t, treeIn(c.s), []impl.Op{c.o}, treeIn(c.want), 1, impl.PcOk)
		checkOp(t, drawnIn(c.s), c.o)
	}
}

func TestOpsOfAllShapes(t *testing.T) {
	for _, d := range append(smallTrees(6), relabeledTrees(4, 0, 2, 5)...) {
		for i := range d.nodes {
			for _, o := range opsAt(d, i) {
				checkOp(t, d, o)
			}
		}
	}
}

// Every tree of two labels, with each node deleted, relabeled, and one added.
func TestOpsOfAllLabels(t *testing.T) {
	for n, d := range relabeledTrees(5, 1, 4) {
		for i := range d.nodes {
			checkOp(t, d, deletion(d.path(i)))
			checkOp(t, d, relabeling(d.path(i), n%6))
			for _, o := range insertionsAt(d, i) {
				checkOp(t, d, o)
			}
		}
	}
}

func TestOpsOfGreatTrees(t *testing.T) {
	for _, d := range append(greatTrees(), roomyTrees()...) {
		for i := range d.nodes {
			for _, o := range opsAt(d, i) {
				checkOp(t, d, o)
			}
			for _, path := range badPaths(d, i) {
				checkOp(t, d, deletion(path))
				checkOp(t, d, relabeling(path, 1))
				checkOp(t, d, insertion(path, 1, 0, 0))
			}
		}
	}
}

// checkLeft holds the nodes that an operation leaves to the labels that they had
// and to being below each other as before. Each node of was is now the one at the
// same place in now.
func checkLeft(t *testing.T, d *drawn, was []int, e *drawn, now []int) {
	t.Helper()
	if len(was) != len(now) || len(was) == 0 {
		t.Fatalf("%v became %v", d.nodes, e.nodes)
	}
	for n, i := range was {
		if d.nodes[i].Label != e.nodes[now[n]].Label {
			t.Fatalf("node %d of %v has another label in %v", i, d.nodes, e.nodes)
		}
		for m, k := range was {
			if d.isUnder(i, k) != e.isUnder(now[n], now[m]) {
				t.Fatalf("nodes %d and %d of %v are otherwise in %v", i, k, d.nodes, e.nodes)
			}
		}
	}
}

// succeeded returns the tree that a successful operation gives, drawn anew from
// its text.
func succeeded(t *testing.T, d *drawn, o impl.Op) *drawn {
	t.Helper()
	l, code := impl.ApplyOp(d.nodes, o)
	if code != impl.PcOk || !impl.TreeOk(l) {
		t.Fatalf("ApplyOp(%v, %v) = %v, %d", d.nodes, o, l, code)
	}
	return drawnIn(impl.TreeText(l))
}

func TestRelabelChangesOneLabel(t *testing.T) {
	for _, d := range append(roomyTrees(), limitTrees()...) {
		for i := range d.nodes {
			for label := range 6 {
				e := succeeded(t, d, relabeling(d.path(i), label))
				rest := without(len(d.nodes), []int{i})
				if len(rest) > 0 {
					checkLeft(t, d, rest, e, rest)
				}
				want := slices.Clone(d.nodes)
				want[i].Label = label
				if !slices.Equal(e.nodes, want) {
					t.Fatalf("%v became %v", d.nodes, e.nodes)
				}
				checkApplied(t, e.nodes, relabeling(d.path(i), d.nodes[i].Label), d.nodes, impl.PcOk)
			}
		}
	}
}

func TestDeleteKeepsAllOtherNodes(t *testing.T) {
	for _, d := range append(roomyTrees(), limitTrees()...) {
		for i := 1; i < len(d.nodes); i++ {
			e := succeeded(t, d, deletion(d.path(i)))
			checkLeft(t, d, without(len(d.nodes), []int{i}), e, upTo(len(d.nodes)-1))
		}
	}
}

// The new node is below X and what X is below, and above the children of the range
// and what is below them.
func TestInsertKeepsAllNodes(t *testing.T) {
	for _, d := range roomyTrees() {
		for i := range d.nodes {
			for _, o := range insertionsAt(d, i) {
				e := succeeded(t, d, o)
				added := e.kids[i][o.From]
				checkLeft(t, d, upTo(len(d.nodes)), e, without(len(d.nodes)+1, []int{added}))
				if e.nodes[added].Label != o.Label || e.parents[added] != i || len(e.kids[added]) != o.Count {
					t.Fatalf("ApplyOp(%v, %v) = %v", d.nodes, o, e.nodes)
				}
				for n, kid := range d.kids[i] {
					parent := i
					if n >= o.From {
						kid++
					}
					if n >= o.From && n < o.From+o.Count {
						parent = added
					}
					if e.parents[kid] != parent {
						t.Fatalf("ApplyOp(%v, %v) = %v", d.nodes, o, e.nodes)
					}
				}
			}
		}
	}
}

func TestDeleteOfTheInsertedNode(t *testing.T) {
	for _, d := range append(roomyTrees(), relabeledTrees(4, 3, 4)...) {
		for i := range d.nodes {
			for _, o := range insertionsAt(d, i) {
				back := deletion(below(o.Path, o.From))
				checkAppliedAll(t, d.nodes, []impl.Op{o, back}, d.nodes, 2, impl.PcOk)
			}
		}
	}
}

func TestInsertOfTheDeletedNode(t *testing.T) {
	for _, d := range append(roomyTrees(), limitTrees()...) {
		for i := 1; i < len(d.nodes); i++ {
			up, path := d.parents[i], d.path(i)
			back := insertion(d.path(up), d.nodes[i].Label, path[len(path)-1], len(d.kids[i]))
			checkAppliedAll(t, d.nodes, []impl.Op{deletion(path), back}, d.nodes, 2, impl.PcOk)
		}
	}
}

// An empty range of children: the new node has none, wherever it is.
func TestInsertEmptyRange(t *testing.T) {
	cases := []struct {
		path []int
		from int
		want string
	}{
		{nil, 0, "div(li p(a b) ul)"},
		{nil, 1, "div(p(a b) li ul)"},
		{nil, 2, "div(p(a b) ul li)"},
		{[]int{0}, 0, "div(p(li a b) ul)"},
		{[]int{0}, 1, "div(p(a li b) ul)"},
		{[]int{0}, 2, "div(p(a b li) ul)"},
		{[]int{0, 0}, 0, "div(p(a(li) b) ul)"},
		{[]int{0, 1}, 0, "div(p(a b(li)) ul)"},
		{[]int{1}, 0, "div(p(a b) ul(li))"},
	}
	l := treeIn("div(p(a b) ul)")
	for _, c := range cases {
		checkApplied(t, l, insertion(c.path, 4, c.from, 0), treeIn(c.want), impl.PcOk)
	}
	for _, path := range [][]int{{0, 0}, {0, 1}, {1}} {
		checkFails(t, l, insertion(path, 4, 1, 0), impl.PcRange)
		checkFails(t, l, insertion(path, 4, 0, 1), impl.PcRange)
		checkFails(t, l, insertion(path, 4, 1, -1), impl.PcRange)
		checkFails(t, l, insertion(path, 4, -1, 0), impl.PcRange)
		checkFails(t, l, insertion(path, 4, -1, 1), impl.PcRange)
	}
	checkApplied(t, l[:1], insertion(nil, 4, 0, 0), treeIn("div(li)"), impl.PcOk)
	for _, d := range roomyTrees() {
		for i := range d.nodes {
			ends := append([]int{i + 1}, mapped(d.kids[i], func(kid int) int { return d.ends[kid] })...)
			for from, at := range ends {
				want := slices.Insert(slices.Clone(d.nodes), at, impl.Node{Label: 2, Depth: d.nodes[i].Depth + 1})
				checkApplied(t, d.nodes, insertion(d.path(i), 2, from, 0), want, impl.PcOk)
			}
		}
	}
}

func mapped(list []int, f func(int) int) []int {
	var out []int
	for _, x := range list {
		out = append(out, f(x))
	}
	return out
}

func TestOpFails(t *testing.T) {
	l := treeIn("div(p(a b) ul)")
	cases := []struct {
		o    impl.Op
		code int
	}{
		{impl.Op{}, impl.PcKind},
		{impl.Op{Kind: 4}, impl.PcKind},
		{impl.Op{Kind: -1}, impl.PcKind},
		{relabeling([]int{2}, 0), impl.PcPath},
		{relabeling([]int{0, 0, 0}, 0), impl.PcPath},
		{deletion([]int{-1}), impl.PcPath},
		{insertion([]int{0, 2}, 0, 0, 0), impl.PcPath},
		{relabeling(nil, 6), impl.PcLabel},
		{relabeling([]int{1}, -1), impl.PcLabel},
		{insertion([]int{1}, 6, 0, 0), impl.PcLabel},
		{deletion(nil), impl.PcRoot},
		{deletion([]int{}), impl.PcRoot},
		{insertion(nil, 0, 3, 0), impl.PcRange},
		{insertion(nil, 0, 0, 3), impl.PcRange},
		{insertion(nil, 0, 1, 2), impl.PcRange},
		{insertion(nil, 0, 2, 1), impl.PcRange},
		{insertion(nil, 0, -1, 0), impl.PcRange},
		{insertion(nil, 0, 0, -1), impl.PcRange},
	}
	for _, c := range cases {
		checkFails(t, l, c.o, c.code)
	}
}

// Of two neighbours in the order of the codes, the first one is returned where
// both apply.
func TestOpCodesInTheirOrder(t *testing.T) {
	l := treeIn("div(p(a b) ul)")
	full := append(slices.Clone(draw(chain(impl.MaxDepth)).nodes), slices.Repeat([]impl.Node{{Depth: 1}}, 11)...)
	deep := full[:23]
	cases := []struct {
		l    []impl.Node
		o    impl.Op
		code int
	}{
		{l, impl.Op{Kind: 4, Path: []int{9}}, impl.PcKind},
		{l, impl.Op{Kind: 0, Label: -1}, impl.PcKind},
		{l, impl.Op{Kind: 4, From: 9, Count: -1}, impl.PcKind},
		{l, relabeling([]int{9}, 6), impl.PcPath},
		{l, insertion([]int{0, 9}, -1, 0, 0), impl.PcPath},
		{l, insertion([]int{9}, 0, -1, 0), impl.PcPath},
		{l, insertion(nil, 6, 9, 0), impl.PcLabel},
		{l, insertion([]int{0}, -1, 0, 9), impl.PcLabel},
		// A label that is not valid does not keep the root from being the root.
		{l, impl.Op{Kind: impl.OpDelete, Label: 6}, impl.PcRoot},
		{l, impl.Op{Kind: impl.OpDelete, From: 9, Count: -1}, impl.PcRoot},
		{full, insertion(nil, 6, 0, 1), impl.PcLabel},
		{deep, insertion(nil, 6, 0, 1), impl.PcLabel},
		{full, insertion(nil, 0, 13, 0), impl.PcRange},
		{full, insertion(nil, 0, 0, 13), impl.PcRange},
		{full, insertion(make([]int, 12), 0, 0, 1), impl.PcRange},
		{deep, insertion(make([]int, 12), 0, 0, 1), impl.PcRange},
		{deep, insertion(make([]int, 12), 0, 1, 0), impl.PcRange},
		{full, insertion(nil, 0, 0, 1), impl.PcSize},
		{full, insertion(make([]int, 12), 0, 0, 0), impl.PcSize},
		{full, insertion(nil, 0, 1, 0), impl.PcSize},
		{deep, insertion(nil, 0, 0, 1), impl.PcDepth},
		{deep, insertion(make([]int, 12), 0, 0, 0), impl.PcDepth},
	}
	for _, c := range cases {
		checkFails(t, c.l, c.o, c.code)
	}
	checkApplied(t, deep, insertion(nil, 0, 11, 0), full, impl.PcOk)
}

// Each choice of what is wrong with an operation, on trees that have room for one
// more node or level and on such that have not.
func TestOpCodesOfSeveralErrors(t *testing.T) {
	full := append(slices.Clone(draw(chain(impl.MaxDepth)).nodes), slices.Repeat([]impl.Node{{Depth: 1}}, 11)...)
	wide := draw(star(impl.MaxNodes)).nodes
	trees := []struct {
		l    []impl.Node
		code int
	}{{full[:11], impl.PcOk}, {wide[:11], impl.PcOk}, {wide, impl.PcSize}, {full, impl.PcSize}, {full[:13], impl.PcDepth}, {full[:23], impl.PcDepth}}
	errors := []struct {
		code  int
		kinds []int
		spoil func(o *impl.Op)
	}{
		{impl.PcKind, []int{1, 2, 3}, func(o *impl.Op) { o.Kind += 3 }},
		{impl.PcPath, []int{1, 2, 3}, func(o *impl.Op) { o.Path = []int{30} }},
		{impl.PcLabel, []int{1, 3}, func(o *impl.Op) { o.Label = 6 }},
		{impl.PcRange, []int{3}, func(o *impl.Op) { o.From = 30 }},
		{impl.PcRange, []int{3}, func(o *impl.Op) { o.Count = 30 }},
	}
	for _, tree := range trees {
		for wrong := range 1 << len(errors) {
			for kind, want := range map[int]int{1: impl.PcOk, 2: impl.PcRoot, 3: tree.code} {
				o := impl.Op{Kind: kind, Label: 1, Count: 1}
				for n := len(errors) - 1; n >= 0; n-- {
					if wrong>>n&1 == 0 {
						continue
					}
					if errors[n].spoil(&o); slices.Contains(errors[n].kinds, kind) {
						want = errors[n].code
					}
				}
				if _, code := impl.ApplyOp(tree.l, o); code != want {
					t.Errorf("ApplyOp(%v, %v) has the code %d, want %d", tree.l, o, code, want)
				}
				checkOp(t, drawnIn(impl.TreeText(tree.l)), o)
			}
		}
	}
}

func TestOpKindOutOfRange(t *testing.T) {
	for _, d := range fewTrees() {
		for _, kind := range append([]int{0, 4, 5, 257, 258, 259, 1<<32 + 1, 1<<32 + 2, 1<<32 + 3}, far...) {
			checkFails(t, d.nodes, impl.Op{Kind: kind}, impl.PcKind)
			checkFails(t, d.nodes, impl.Op{Kind: kind, Path: d.path(len(d.nodes) - 1), Label: 1}, impl.PcKind)
			checkFails(t, d.nodes, impl.Op{Kind: kind, Path: []int{99}, Label: -1, From: -1, Count: -1}, impl.PcKind)
		}
	}
}

func TestOpLabelOutOfRange(t *testing.T) {
	for _, d := range roomyTrees() {
		for i := range d.nodes {
			for _, label := range foreignLabels() {
				checkFails(t, d.nodes, relabeling(d.path(i), label), impl.PcLabel)
				checkFails(t, d.nodes, insertion(d.path(i), label, 0, 0), impl.PcLabel)
			}
		}
	}
}

// OpDelete has no use for a label and a range, nor OpRelabel for a range.
func TestOpFieldsWithoutUse(t *testing.T) {
	for _, d := range fewTrees() {
		for i := range d.nodes {
			gone, code := performed(d, deletion(d.path(i)))
			renamed, ok := performed(d, relabeling(d.path(i), 3))
			for _, n := range append([]int{0, 5, 6, 7}, far...) {
				checkApplied(t, d.nodes, impl.Op{Kind: 2, Path: d.path(i), Label: n}, gone.nodes, code)
				checkApplied(t, d.nodes, impl.Op{Kind: 2, Path: d.path(i), Label: n, From: n, Count: n}, gone.nodes, code)
				checkApplied(t, d.nodes, impl.Op{Kind: 1, Path: d.path(i), Label: 3, From: n}, renamed.nodes, ok)
				checkApplied(t, d.nodes, impl.Op{Kind: 1, Path: d.path(i), Label: 3, Count: n}, renamed.nodes, ok)
			}
		}
	}
}

// Each number at its limits, one beyond, and far beyond, also where the sum of
// both numbers wraps around to a valid one.
func TestInsertRangeOutOfLimits(t *testing.T) {
	for _, d := range append(smallTrees(4), limitTrees()...) {
		for i := range d.nodes {
			kids := len(d.kids[i])
			numbers := append([]int{0, 1, kids - 1, kids, kids + 1, math.MaxInt - kids, math.MinInt + kids}, far...)
			for _, from := range numbers {
				for _, count := range append([]int{kids - from, kids - from + 1, -from, 1 - from}, numbers...) {
					checkOp(t, d, insertion(d.path(i), 1, from, count))
				}
			}
		}
	}
	star := draw(star(9)).nodes
	checkFails(t, star, insertion(nil, 1, 1, math.MaxInt), impl.PcRange)
	checkFails(t, star, insertion(nil, 1, math.MaxInt, 1), impl.PcRange)
	checkFails(t, star, insertion(nil, 1, 8, math.MaxInt-7), impl.PcRange)
	checkFails(t, star, insertion(nil, 1, -8, 8), impl.PcRange)
	checkFails(t, star, insertion(nil, 1, math.MinInt, math.MinInt), impl.PcRange)
	checkFails(t, star, insertion(nil, 1, 1<<32, 0), impl.PcRange)
	checkFails(t, star, insertion(nil, 1, 0, 1<<32), impl.PcRange)
}

// A tree of 23 nodes takes one more, and one of 24 none. It can still be changed
// in other ways.
func TestInsertMostNodes(t *testing.T) {
	if impl.MaxNodes != 24 {
		t.Fatalf("MaxNodes = %d", impl.MaxNodes)
	}
	trees := []*drawn{draw(star(23)), draw(star(24))}
	for seed := range uint32(12) {
		trees = append(trees, variedTree(23, seed), variedTree(24, seed))
	}
	for _, d := range append(trees, limitTrees()[1:]...) {
		for i := range d.nodes {
			for _, o := range insertionsAt(d, i) {
				checkOp(t, d, o)
				if len(d.nodes) == 24 {
					checkFails(t, d.nodes, o, impl.PcSize)
				}
			}
			succeeded(t, d, relabeling(d.path(i), 2))
			if i > 0 {
				less := succeeded(t, d, deletion(d.path(i)))
				checkOp(t, less, insertion(nil, 1, len(less.kids[0]), 0))
			}
		}
	}
	for n := 1; n <= 24; n++ {
		d := draw(star(n))
		grown := slices.Repeat([]impl.Op{insertion(nil, 5, 0, 0)}, 30)
		checkScript(t, d, grown)
		if _, applied, code := impl.ApplyAll(d.nodes, grown); applied != 24-n || code != impl.PcSize {
			t.Errorf("%d nodes were added to %d: %d", applied, n, code)
		}
	}
}

// A depth of 12 cannot become 13, neither for the new node itself nor for what is
// below it then.
func TestInsertGreatestDepth(t *testing.T) {
	if impl.MaxDepth != 12 {
		t.Fatalf("MaxDepth = %d", impl.MaxDepth)
	}
	low, lower := draw(chain(11)), draw(chain(12))
	for i := range low.nodes {
		if l := succeeded(t, low, insertion(low.path(i), 1, 0, len(low.kids[i]))).nodes; impl.HeightOf(l) != 13 {
			t.Errorf("%v has %d levels", l, impl.HeightOf(l))
		}
	}
	for i := range 12 {
		succeeded(t, lower, insertion(lower.path(i), 1, 0, 0))
		succeeded(t, lower, insertion(lower.path(i), 1, 1, 0))
		checkFails(t, lower.nodes, insertion(lower.path(i), 1, 0, 1), impl.PcDepth)
	}
	checkFails(t, lower.nodes, insertion(lower.path(12), 1, 0, 0), impl.PcDepth)
	for _, depth := range []int{1, 5, 11} {
		inner := chain(12 - depth)
		last := inner
		for range depth - 1 {
			last = &branch{label: 1, kids: []*branch{last}}
		}
		root := &branch{kids: []*branch{{label: 2}, last, {label: 3}}}
		d := draw(root)
		for _, r := range ranges(3) {
			o := insertion(nil, 4, r[0], r[1])
			if r[0] <= 1 && r[0]+r[1] > 1 {
				checkFails(t, d.nodes, o, impl.PcDepth)
			} else {
				succeeded(t, d, o)
			}
		}
	}
}

// With nodes at depth 12 in several places, only a range without all of them can
// move down.
func TestInsertAboveOneOfSeveralDeepNodes(t *testing.T) {
	root := &branch{kids: []*branch{{label: 4, kids: []*branch{chain(8), {label: 3}}}, {label: 5}}}
	root.kids[1].kids = []*branch{{label: 1}, {label: 2, kids: []*branch{{label: 3}}}}
	for depth := 10; depth <= 12; depth++ {
		if depth > 10 {
			root = &branch{label: depth % 6, kids: []*branch{root}}
		}
		d := draw(root)
		for i := range d.nodes {
			for _, o := range insertionsAt(d, i) {
				checkOp(t, d, o)
			}
		}
	}
	for _, d := range limitTrees() {
		for i := range d.nodes {
			if len(d.nodes) < 24 || i == 0 {
				continue
			}
			less := succeeded(t, d, deletion(d.path(i)))
			for k := range less.nodes {
				for _, o := range insertionsAt(less, k) {
					checkOp(t, less, o)
				}
			}
		}
	}
}

// someOp returns an operation on a tree that may fail only for the root, the size
// or a depth.
func someOp(d *drawn, next func(limit int) int) impl.Op {
	x := next(len(d.nodes))
	from := next(len(d.kids[x]) + 1)
	o := impl.Op{Kind: 1 + next(3), Path: d.path(x), Label: next(6), From: from, Count: next(len(d.kids[x]) - from + 1)}
	if next(3) == 0 {
		o.Kind = impl.OpInsert
	}
	return o
}

// someScript returns n operations that can be applied to a tree one after another,
// and the trees before each of them and after the last one.
func someScript(d *drawn, n int, seed uint32) ([]impl.Op, []*drawn) {
	next := numbersFrom(seed)
	var ops []impl.Op
	trees := []*drawn{d}
	for len(ops) < n {
		o := someOp(d, next)
		e, code := performed(d, o)
		if code == 0 {
			ops, d = append(ops, o), e
			trees = append(trees, e)
		}
	}
	return ops, trees
}

// failing returns an operation for each code that one on this tree can have.
func failing(d *drawn) []impl.Op {
	kids := len(d.kids[0])
	out := []impl.Op{{Kind: 4}, deletion([]int{kids}), relabeling(nil, 6), deletion(nil), insertion(nil, 0, kids, 1)}
	if len(d.nodes) == 24 {
		return append(out, insertion(nil, 0, 0, kids))
	}
	if d.branches[0].height() == 13 {
		return append(out, insertion(nil, 0, 0, kids))
	}
	return out
}

func scriptTrees() []*drawn {
	out := append(smallTrees(4), limitTrees()...)
	return append(out, variedTree(23, 3), variedTree(20, 4), draw(chain(11)), drawnIn("p(a(ul) b li)"))
}

func TestScriptsInTwoParts(t *testing.T) {
	for n, d := range scriptTrees() {
		for length := range 13 {
			ops, trees := someScript(d, length, uint32(100*n+length))
			checkScript(t, d, ops)
			last := trees[length].nodes
			checkAppliedAll(t, d.nodes, ops, last, length, impl.PcOk)
		}
	}
}

// An operation that fails ends the script, wherever it is, and whether or not
// those after it could be applied.
func TestScriptsThatFail(t *testing.T) {
	codes := map[int]int{}
	for n, d := range scriptTrees() {
		ops, trees := someScript(d, 8, uint32(n))
		for k, e := range trees {
			for _, o := range failing(e) {
				_, code := performed(e, o)
				if code == 0 {
					t.Fatalf("%v succeeds on %v", o, e.nodes)
				}
				codes[code]++
				script := slices.Insert(slices.Clone(ops), k, o)
				checkScript(t, d, script)
				checkAppliedAll(t, d.nodes, script, e.nodes, k, code)
				checkScript(t, d, slices.Insert(slices.Clone(script), k, o))
				checkScript(t, d, slices.Insert(slices.Clone(script), k+1, impl.Op{}))
			}
		}
	}
	for code := 1; code <= 7; code++ {
		if codes[code] < 5 {
			t.Errorf("the code %d was met %d times", code, codes[code])
		}
	}
}

// Each path is that in the tree which the operations before it leave.
func TestScriptsOfSomeTrees(t *testing.T) {
	cases := []struct {
		s    string
		ops  []impl.Op
		want string
		n    int
		code int
	}{
		{"div", nil, "div", 0, impl.PcOk},
		{"div", []impl.Op{}, "div", 0, impl.PcOk},
		{"div(p(a b) ul)", slices.Repeat([]impl.Op{deletion([]int{0})}, 4), "div", 4, impl.PcOk},
		{"div(p(a b) ul)", slices.Repeat([]impl.Op{deletion([]int{0})}, 5), "div", 4, impl.PcPath},
		{"div(p(a b) ul)", slices.Repeat([]impl.Op{deletion([]int{1})}, 5), "div(p(a b))", 1, impl.PcPath},
		{"div(p(a b) ul)", []impl.Op{deletion([]int{0}), deletion([]int{2}), deletion([]int{0, 0})}, "div(a b)", 2, impl.PcPath},
		{"div(p(a b) ul)", []impl.Op{insertion(nil, 5, 0, 2), deletion([]int{0, 0, 1}), relabeling([]int{0, 1}, 4)}, "div(b(p(a) li))", 3, impl.PcOk},
		{"div(p(a b) ul)", []impl.Op{relabeling([]int{1}, 4), relabeling([]int{1}, 6), relabeling([]int{1}, 5)}, "div(p(a b) li)", 1, impl.PcLabel},
		{"div(p(a b) ul)", []impl.Op{deletion(nil), relabeling([]int{1}, 5)}, "div(p(a b) ul)", 0, impl.PcRoot},
		{"div(p(a b) ul)", []impl.Op{deletion([]int{1}), insertion(nil, 5, 0, 2)}, "div(p(a b))", 1, impl.PcRange},
		{"div(p(a b) ul)", []impl.Op{deletion([]int{0}), insertion(nil, 5, 0, 3)}, "div(b(a b ul))", 2, impl.PcOk},
	}
	for _, c := range cases {
		checkAppliedAll(t, treeIn(c.s), c.ops, treeIn(c.want), c.n, c.code)
		checkScript(t, drawnIn(c.s), c.ops)
	}
}

// No number of operations is too great.
func TestScriptsWithoutEnd(t *testing.T) {
	d := drawnIn("p(a(ul) b li)")
	round := []impl.Op{insertion(nil, 0, 1, 2), relabeling([]int{1}, 3), deletion([]int{1}), relabeling(nil, 5), relabeling(nil, 1)}
	checkScript(t, d, slices.Repeat(round, 20))
	for _, times := range []int{13, 52, 5000} {
		ops := slices.Repeat(round, times)
		checkAppliedAll(t, d.nodes, ops, d.nodes, len(ops), impl.PcOk)
		checkAppliedAll(t, d.nodes, append(ops, impl.Op{}), d.nodes, len(ops), impl.PcKind)
	}
}

func TestOpsOfInvalidTrees(t *testing.T) {
	ops := []impl.Op{{}, {Kind: 4}, relabeling(nil, 1), relabeling(nil, 6), deletion(nil), deletion([]int{0}), insertion(nil, 1, 0, 0), insertion(nil, 1, -1, 0)}
	for _, l := range invalidTrees() {
		for i := -1; i <= min(len(l), 30); i++ {
			checkPath(t, l, i, nil)
		}
		for _, path := range [][]int{nil, {}, {0}, {0, 0}, {-1}} {
			checkNodeAt(t, l, path, -1)
		}
		for _, o := range ops {
			checkApplied(t, l, o, nil, impl.PcPath)
			checkAppliedAll(t, l, []impl.Op{o}, nil, 0, impl.PcPath)
		}
		checkAppliedAll(t, l, nil, nil, 0, impl.PcPath)
		checkAppliedAll(t, l, []impl.Op{}, nil, 0, impl.PcPath)
		checkAppliedAll(t, l, ops, nil, 0, impl.PcPath)
	}
}

func TestOpsWithoutElements(t *testing.T) {
	for _, l := range [][]impl.Node{nil, {}, treeIn("div(p)")[:0]} {
		checkPath(t, l, 0, nil)
		checkNodeAt(t, l, nil, -1)
		checkApplied(t, l, relabeling(nil, 1), nil, impl.PcPath)
		checkAppliedAll(t, l, nil, nil, 0, impl.PcPath)
	}
	for _, d := range manyTrees() {
		checkFails(t, d.nodes, impl.Op{}, impl.PcKind)
		checkAppliedAll(t, d.nodes, nil, d.nodes, 0, impl.PcOk)
		checkAppliedAll(t, d.nodes, []impl.Op{}, d.nodes, 0, impl.PcOk)
		for _, path := range [][]int{nil, {}, make([]int, 0, 3)} {
			checkNodeAt(t, d.nodes, path, 0)
			checkOp(t, d, relabeling(path, 1))
			checkOp(t, d, deletion(path))
			checkOp(t, d, insertion(path, 1, 0, 0))
		}
	}
}

func TestCodeNames(t *testing.T) {
	want := []string{"ok", "kind", "path", "label", "root", "range", "size", "depth"}
	for n, name := range want {
		if got := impl.CodeName(n); got != name {
			t.Errorf("CodeName(%d) = %q, want %q", n, got, name)
		}
	}
	if impl.CodeName(impl.PcOk) != "ok" || impl.CodeName(impl.PcDepth) != "depth" {
		t.Errorf("%q and %q", impl.CodeName(impl.PcOk), impl.CodeName(impl.PcDepth))
	}
}

func TestCodeNameOfNoCode(t *testing.T) {
	for _, n := range append([]int{8, 9, -7, -8, 128, -256, 1<<32 + 1, math.MaxInt32, math.MinInt32, 1 << 62}, far...) {
		if got := impl.CodeName(n); got != "" {
			t.Errorf("CodeName(%d) = %q, want none", n, got)
		}
	}
	for n := 8; n < 1000; n++ {
		if impl.CodeName(n) != "" || impl.CodeName(7-n) != "" {
			t.Errorf("CodeName(%d) = %q, CodeName(%d) = %q", n, impl.CodeName(n), 7-n, impl.CodeName(7-n))
		}
	}
}

// heldOps returns a copy of some operations, of which the list and each path have
// unused capacity, and all the numbers with it.
func heldOps(ops []impl.Op) ([]impl.Op, func() ([]impl.Op, [][]int)) {
	full := slices.Clone(ops)
	var paths [][]int
	for i, o := range full {
		path := append(slices.Clone(o.Path), 0, 1, 77)
		paths = append(paths, path)
		full[i].Path = path[:len(o.Path)]
	}
	full = append(full, relabeling(nil, 5), impl.Op{Kind: 77})
	return full[:len(ops)], func() ([]impl.Op, [][]int) { return full, paths }
}

func sameOps(a []impl.Op, b []impl.Op) bool {
	return slices.EqualFunc(a, b, func(x impl.Op, y impl.Op) bool {
		sameNumbers := x.Kind == y.Kind && x.Label == y.Label && x.From == y.From && x.Count == y.Count
		return sameNumbers && slices.Equal(x.Path, y.Path)
	})
}

// checkOpsStay holds a function of a list of operations to changing neither the
// list nor a path, nor the unused capacity of them.
func checkOpsStay(t *testing.T, ops []impl.Op, call func(ops []impl.Op)) {
	t.Helper()
	held, all := heldOps(ops)
	_, before := heldOps(ops)
	call(held)
	full, paths := all()
	wantFull, wantPaths := before()
	if !sameOps(full, wantFull) || !slices.EqualFunc(paths, wantPaths, slices.Equal[[]int]) {
		t.Fatalf("%v and %v became %v and %v", wantFull, wantPaths, full, paths)
	}
}

func TestOpArgumentsStayAsTheyAre(t *testing.T) {
	ops := []impl.Op{relabeling([]int{0}, 3), insertion(nil, 1, 0, 1), insertion(nil, 2, 1, 0), deletion([]int{0}), {}, deletion(nil)}
	checkArgumentStays(t, func(l []impl.Node) {
		for i := -1; i <= len(l) && i < 30; i++ {
			impl.NodeAt(l, impl.PathOf(l, i))
		}
		for _, o := range ops {
			impl.ApplyOp(l, o)
		}
		impl.ApplyAll(l, nil)
		impl.ApplyAll(l, ops)
		impl.ApplyAll(l, ops[1:])
	})
	for n, d := range scriptTrees() {
		script, _ := someScript(d, 8, uint32(n))
		for k := range script {
			for _, o := range append(failing(d), script[0]) {
				checkOpsStay(t, slices.Insert(slices.Clone(script), k, o), func(ops []impl.Op) {
					impl.ApplyAll(d.nodes, ops)
					for _, o := range ops {
						impl.ApplyOp(d.nodes, o)
						impl.NodeAt(d.nodes, o.Path)
					}
				})
			}
		}
	}
}

// checkNewNodes holds a call with a tree to a result that shares no memory with
// the tree nor with the result of another call.
func checkNewNodes(t *testing.T, d *drawn, call func(l []impl.Node) []impl.Node) {
	t.Helper()
	l := append(slices.Clone(d.nodes), slices.Repeat([]impl.Node{{Label: 77}}, 30)...)
	want := slices.Clone(l)
	first, second := call(l[:len(d.nodes)]), call(l[:len(d.nodes)])
	kept := slices.Clone(second)
	spoil(first)
	if !slices.Equal(l, want) || !slices.Equal(second, kept) {
		t.Fatalf("%v and %v became %v and %v", want, kept, l, second)
	}
	if third := call(l[:len(d.nodes)]); !slices.Equal(third, kept) {
		t.Fatalf("%v became %v", kept, third)
	}
}

func TestOpResultsAreNewMemory(t *testing.T) {
	for n, d := range append(fewTrees(), roomyTrees()...) {
		for i := range d.nodes {
			for _, o := range opsAt(d, i) {
				checkNewNodes(t, d, func(l []impl.Node) []impl.Node {
					out, _ := impl.ApplyOp(l, o)
					return out
				})
			}
			first, second := impl.PathOf(d.nodes, i), impl.PathOf(d.nodes, i)
			spoilTable(first)
			if want := d.path(i); !slices.Equal(second, want) {
				t.Fatalf("%v became %v", want, second)
			}
			checkPath(t, d.nodes, i, d.path(i))
		}
		script, _ := someScript(d, 5, uint32(n))
		for _, ops := range [][]impl.Op{nil, {}, script, script[:1], {{}}, {relabeling(nil, d.nodes[0].Label)}, append([]impl.Op{{}}, script...), append(script, impl.Op{})} {
			checkNewNodes(t, d, func(l []impl.Node) []impl.Node {
				out, _, _ := impl.ApplyAll(l, ops)
				return out
			})
		}
	}
}

// Nodes, operations and steps in the unused capacity of a list do not count.
func TestOpUnusedCapacityDoesNotCount(t *testing.T) {
	for n, d := range scriptTrees() {
		size := len(d.nodes)
		l := append(slices.Clone(d.nodes), impl.Node{Depth: 1})[:size]
		script, trees := someScript(d, 6, uint32(n))
		held, _ := heldOps(script)
		checkAppliedAll(t, l, held, trees[6].nodes, 6, impl.PcOk)
		checkAppliedAll(t, l, held[:5], trees[5].nodes, 5, impl.PcOk)
		checkAppliedAll(t, l, held[:0], d.nodes, 0, impl.PcOk)
		checkApplied(t, l, held[0], trees[1].nodes, impl.PcOk)
		checkPath(t, l, size, nil)
		checkFails(t, l, insertion(nil, 1, len(d.kids[0])+1, 0), impl.PcRange)
		checkFails(t, l, deletion([]int{len(d.kids[0])}), impl.PcPath)
		for i := range l {
			path := append(d.path(i), 0, 0)
			checkNodeAt(t, l, path[:len(path)-2], i)
			checkOp(t, d, relabeling(path[:len(path)-2], 1))
		}
	}
}
