package tests

import (
	"math"
	"slices"
	"testing"

	"loop.example/g01618/impl"
)

// Promise 9: the script of a valid mapping transforms the first tree into the
// second one, costs as much as the mapping, and has one operation per change.
// Promise 7, as far as it speaks of scripts: the script from a tree to itself is
// empty. These tests hold both for the functions of chapter 14.

// A standing node is one of the tree that a script changes. It stands for node b
// of the second tree, or for none if that is -1.
type standing struct {
	b    int
	up   *standing
	kids []*standing
}

func (s *standing) path() []int {
	if s.up == nil {
		return nil
	}
	return append(s.up.path(), slices.Index(s.up.kids, s))
}

// leave puts the children of a node in its place.
func (s *standing) leave() {
	for _, kid := range s.kids {
		kid.up = s.up
	}
	at := slices.Index(s.up.kids, s)
	s.up.kids = slices.Replace(s.up.kids, at, at+1, s.kids...)
}

// enter adds a node for b, below which some children of s move.
func (s *standing) enter(b int, from int, count int) *standing {
	added := &standing{b: b, up: s, kids: slices.Clone(s.kids[from : from+count])}
	for _, kid := range added.kids {
		kid.up = added
	}
	s.kids = slices.Replace(s.kids, from, from+count, added)
	return added
}

// standingTree links the nodes of a, each of which stands for the node that it is
// mapped to.
func standingTree(a *drawn, m []impl.Pair) []*standing {
	var out []*standing
	for i, up := range a.parents {
		s := &standing{b: imageOf(m, i)}
		if up >= 0 {
			s.up = out[up]
			s.up.kids = append(s.up.kids, s)
		}
		out = append(out, s)
	}
	return out
}

// lowered finds the script of a valid mapping of root to root on linked nodes,
// word for word as the chapter describes it.
func lowered(a *drawn, b *drawn, m []impl.Pair) []impl.Op {
	var ops []impl.Op
	nodes := standingTree(a, m)
	for _, p := range m {
		if label := b.nodes[p.B].Label; label != a.nodes[p.A].Label {
			ops = append(ops, relabeling(nodes[p.A].path(), label))
		}
	}
	for _, i := range a.positions().order {
		if nodes[i].b < 0 {
			ops = append(ops, deletion(nodes[i].path()))
			nodes[i].leave()
		}
	}
	byB := map[int]*standing{}
	for _, s := range nodes {
		byB[s.b] = s
	}
	for v, up := range b.parents {
		if byB[v] != nil {
			continue
		}
		from, count := 0, 0
		for _, kid := range byB[up].kids {
			if kid.b < v {
				from++
			} else if b.isUnder(v, kid.b) {
				count++
			}
		}
		ops = append(ops, insertion(byB[up].path(), b.nodes[v].Label, from, count))
		byB[v] = byB[up].enter(v, from, count)
	}
	return ops
}

// rooted returns a list of pairs with that of the roots, and without any other
// pair that has one of them.
func rooted(m []impl.Pair) []impl.Pair {
	below := slices.DeleteFunc(slices.Clone(m), func(p impl.Pair) bool { return p.A == 0 || p.B == 0 })
	return append(pairsOf(0, 0), below...)
}

func checkLower(t *testing.T, a []impl.Node, b []impl.Node, m []impl.Pair, want []impl.Op) {
	t.Helper()
	if got := impl.Lower(a, b, m); !sameOps(got, want) {
		t.Fatalf("Lower(%v, %v, %v) = %v, want %v", a, b, m, got, want)
	}
}

// checkNoLower holds Lower to its result for a list that is no valid mapping of
// root to root, or for lists of nodes that are no valid trees.
func checkNoLower(t *testing.T, a []impl.Node, b []impl.Node, m []impl.Pair) {
	t.Helper()
	checkLower(t, a, b, m, nil)
}

// changesOf applies a script one operation after another, and returns for each one
// its kind, the label that it takes away and the one that it brings.
func changesOf(t *testing.T, a *drawn, ops []impl.Op) ([][3]int, *drawn) {
	t.Helper()
	var out [][3]int
	for _, o := range ops {
		line := a.branches[0].line(o.Path)
		next, code := performed(a, o)
		if code != 0 {
			t.Fatalf("%v of %v has the code %d on %v", o, ops, code, a.nodes)
		}
		// The branches may have other labels than the list, but their shape is
		// that of the tree.
		at := slices.Index(a.branches, line[len(line)-1])
		out = append(out, [3]int{o.Kind, a.nodes[at].Label, o.Label})
		a = next
	}
	return out, a
}

// costOf adds up what changes cost.
func costOf(changes [][3]int, c impl.Cost) int {
	sum := 0
	for _, change := range changes {
		switch change[0] {
		case 1:
			sum += c.Rel[6*change[1]+change[2]]
		case 2:
			sum += c.Del[change[1]]
		case 3:
			sum += c.Ins[change[2]]
		}
	}
	return sum
}

// kindsOf returns how many pairs have two labels, and how many nodes of either
// tree are in no pair.
func kindsOf(a *drawn, b *drawn, m []impl.Pair) [3]int {
	differ := 0
	for _, p := range m {
		if a.nodes[p.A].Label != b.nodes[p.B].Label {
			differ++
		}
	}
	as, bs := nodesOf(m)
	return [3]int{differ, len(without(len(a.nodes), as)), len(without(len(b.nodes), bs))}
}

// checkTransforms holds the script of a valid mapping of root to root to the
// second tree, to one operation for each change, and to what the mapping costs.
func checkTransforms(t *testing.T, a *drawn, b *drawn, m []impl.Pair, costs []impl.Cost) {
	t.Helper()
	ops := impl.Lower(a.nodes, b.nodes, m)
	checkAppliedAll(t, a.nodes, ops, b.nodes, len(ops), impl.PcOk)
	changes, last := changesOf(t, a, ops)
	if !slices.Equal(last.nodes, b.nodes) {
		t.Fatalf("Lower(%v, %v, %v) = %v, which gives %v", a.nodes, b.nodes, m, ops, last.nodes)
	}
	kinds := [3]int{impl.CountOps(ops, impl.OpRelabel), impl.CountOps(ops, impl.OpDelete), impl.CountOps(ops, impl.OpInsert)}
	if want := kindsOf(a, b, m); kinds != want || len(ops) != want[0]+want[1]+want[2] {
		t.Fatalf("Lower(%v, %v, %v) = %v has %v of each kind, want %v", a.nodes, b.nodes, m, ops, kinds, want)
	}
	for _, c := range costs {
		want := summed(a, b, c, m)
		if got := costOf(changes, c); got != want {
			t.Fatalf("Lower(%v, %v, %v) = %v costs %d, want %d", a.nodes, b.nodes, m, ops, got, want)
		}
		checkMapCost(t, a.nodes, b.nodes, c, m, want)
	}
}

// checkPhases holds the tree between the deletions and the insertions to the nodes
// that the mapping keeps, which are the same in both trees by then.
func checkPhases(t *testing.T, a *drawn, b *drawn, m []impl.Pair) {
	t.Helper()
	ops := impl.Lower(a.nodes, b.nodes, m)
	first := len(ops) - impl.CountOps(ops, impl.OpInsert)
	kept := impl.Kept(b.nodes, impl.Turned(m))
	checkAppliedAll(t, a.nodes, ops[:first], kept, first, impl.PcOk)
	checkAppliedAll(t, kept, ops[first:], b.nodes, len(ops)-first, impl.PcOk)
	relabels := impl.CountOps(ops, impl.OpRelabel)
	checkAppliedAll(t, a.nodes, ops[relabels:first], impl.Kept(a.nodes, m), first-relabels, impl.PcOk)
	as, bs := nodesOf(m)
	checkKept(t, a, m, as)
	checkKept(t, b, impl.Turned(m), bs)
}

// checkScriptOf holds Lower to all that is said of the script of a valid mapping of
// root to root, and of the way back.
func checkScriptOf(t *testing.T, a *drawn, b *drawn, m []impl.Pair, costs []impl.Cost) {
	t.Helper()
	checkLower(t, a.nodes, b.nodes, m, lowered(a, b, m))
	checkTransforms(t, a, b, m, costs)
	checkPhases(t, a, b, m)
	back := impl.Turned(m)
	checkLower(t, b.nodes, a.nodes, back, lowered(b, a, back))
	checkTransforms(t, b, a, back, nil)
}

// keptNodes returns the nodes of a tree that are A of some pair, in ascending
// order.
func keptNodes(d *drawn, m []impl.Pair) []int {
	as, _ := nodesOf(m)
	return slices.DeleteFunc(upTo(len(d.nodes)), func(i int) bool { return !slices.Contains(as, i) })
}

// checkKept holds Kept to some nodes of a tree, given in ascending order, and to
// their labels and how they are below each other.
func checkKept(t *testing.T, d *drawn, m []impl.Pair, nodes []int) {
	t.Helper()
	got := impl.Kept(d.nodes, m)
	if len(nodes) == 0 || nodes[0] != 0 {
		if len(got) != 0 {
			t.Fatalf("Kept(%v, %v) = %v, want none", d.nodes, m, got)
		}
		return
	}
	var want []impl.Node
	for n, depth := range d.keptDepths(nodes) {
		want = append(want, impl.Node{Label: d.nodes[nodes[n]].Label, Depth: depth})
	}
	if !slices.Equal(got, want) || !impl.TreeOk(got) {
		t.Fatalf("Kept(%v, %v) = %v, want %v", d.nodes, m, got, want)
	}
}

func TestLowerOfSomeTrees(t *testing.T) {
	cases := []struct {
		a, b string
		m    []impl.Pair
		want []impl.Op
	}{
		{"div", "div", pairsOf(0, 0), nil},
		{"div", "p", pairsOf(0, 0), []impl.Op{relabeling(nil, 1)}},
		{"div(p)", "div", pairsOf(0, 0), []impl.Op{deletion([]int{0})}},
		{"div", "div(p)", pairsOf(0, 0), []impl.Op{insertion(nil, 1, 0, 0)}},
		{"div(p)", "div(a)", pairsOf(0, 0, 1, 1), []impl.Op{relabeling([]int{0}, 2)}},
		{"div(p)", "div(a)", pairsOf(0, 0), []impl.Op{deletion([]int{0}), insertion(nil, 2, 0, 0)}},
		// Equal labels do not make a pair.
		{"div(p)", "div(p)", pairsOf(0, 0), []impl.Op{deletion([]int{0}), insertion(nil, 1, 0, 0)}},
		{"div(p)", "div(p)", pairsOf(0, 0, 1, 1), nil},
		{"div(p(a b) ul)", "div(a ul(li b))", pairsOf(0, 0, 2, 1, 4, 4), []impl.Op{
			relabeling([]int{1}, 5), deletion([]int{0, 1}), deletion([]int{0}), insertion(nil, 3, 1, 1), insertion([]int{1}, 4, 0, 0),
		}},
		// Of the relabelings, the root comes first, and p before what is below it.
		{"div(p(a b) ul)", "p(a(b ul) li)", samePairs(5), []impl.Op{
			relabeling(nil, 1), relabeling([]int{0}, 2), relabeling([]int{0, 0}, 5), relabeling([]int{0, 1}, 3), relabeling([]int{1}, 4),
		}},
		{"div(p(a b) ul)", "div(p(b b) li)", samePairs(5), []impl.Op{relabeling([]int{0, 0}, 5), relabeling([]int{1}, 4)}},
		// Of the deletions, p comes after what is below it, and ul is last.
		{"div(p(a b) ul)", "div", pairsOf(0, 0), []impl.Op{deletion([]int{0, 0}), deletion([]int{0, 0}), deletion([]int{0}), deletion([]int{0})}},
		{"div(p(a b) ul)", "div(a ul)", pairsOf(0, 0, 2, 1, 4, 2), []impl.Op{deletion([]int{0, 1}), deletion([]int{0})}},
		{"div(p(a b) ul)", "div(b)", pairsOf(0, 0, 3, 1), []impl.Op{deletion([]int{0, 0}), deletion([]int{0}), deletion([]int{1})}},
		{"div(p(a(li) b) ul)", "div(li b)", pairsOf(0, 0, 3, 1, 4, 2), []impl.Op{deletion([]int{0, 0}), deletion([]int{0}), deletion([]int{2})}},
		{"div(p(a b) ul(li b))", "div(ul)", pairsOf(0, 0, 4, 1), []impl.Op{
			deletion([]int{0, 0}), deletion([]int{0, 0}), deletion([]int{0}), deletion([]int{0, 0}), deletion([]int{0, 0}),
		}},
		// Of the insertions, p comes before what is below it, and ul is last.
		{"div", "div(p(a b) ul)", pairsOf(0, 0), []impl.Op{
			insertion(nil, 1, 0, 0), insertion([]int{0}, 2, 0, 0), insertion([]int{0}, 5, 1, 0), insertion(nil, 3, 1, 0),
		}},
		{"div(a ul)", "div(p(a b) ul)", pairsOf(0, 0, 1, 2, 2, 4), []impl.Op{insertion(nil, 1, 0, 1), insertion([]int{0}, 5, 1, 0)}},
		{"div(b)", "div(p(a b) ul)", pairsOf(0, 0, 1, 3), []impl.Op{insertion(nil, 1, 0, 1), insertion([]int{0}, 2, 0, 0), insertion(nil, 3, 1, 0)}},
		{"div(li b)", "div(p(a(li) b) ul)", pairsOf(0, 0, 1, 3, 2, 4), []impl.Op{insertion(nil, 1, 0, 2), insertion([]int{0}, 2, 0, 1), insertion(nil, 3, 1, 0)}},
		// Operations of all kinds at the same nodes.
		{"div(p(a) b)", "p(ul(a b))", pairsOf(0, 0, 2, 2, 3, 3), []impl.Op{relabeling(nil, 1), deletion([]int{0}), insertion(nil, 3, 0, 2)}},
		{"div(p(a) b)", "p(ul(li b))", pairsOf(0, 0, 2, 2, 3, 3), []impl.Op{relabeling(nil, 1), relabeling([]int{0, 0}, 4), deletion([]int{0}), insertion(nil, 3, 0, 2)}},
	}
	for _, c := range cases {
		checkLower(t, treeIn(c.a), treeIn(c.b), c.m, c.want)
		checkScriptOf(t, drawnIn(c.a), drawnIn(c.b), c.m, distCosts())
	}
}

// The parent of an inserted node may have been inserted itself, with or without
// nodes that were there before it.
func TestLowerBelowAnInsertedParent(t *testing.T) {
	cases := []struct {
		a, b string
		m    []impl.Pair
		want []impl.Op
	}{
		// Chains.
		{"div", "div(p(a(b)))", pairsOf(0, 0), []impl.Op{
			insertion(nil, 1, 0, 0), insertion([]int{0}, 2, 0, 0), insertion([]int{0, 0}, 5, 0, 0),
		}},
		{"div(ul)", "div(p(a(b)) ul)", pairsOf(0, 0, 1, 4), []impl.Op{
			insertion(nil, 1, 0, 0), insertion([]int{0}, 2, 0, 0), insertion([]int{0, 0}, 5, 0, 0),
		}},
		{"div(ul)", "div(ul p(a(b)))", pairsOf(0, 0, 1, 1), []impl.Op{
			insertion(nil, 1, 1, 0), insertion([]int{1}, 2, 0, 0), insertion([]int{1, 0}, 5, 0, 0),
		}},
		{"div(ul li)", "div(ul p(a(b)) li)", pairsOf(0, 0, 1, 1, 2, 5), []impl.Op{
			insertion(nil, 1, 1, 0), insertion([]int{1}, 2, 0, 0), insertion([]int{1, 0}, 5, 0, 0),
		}},
		{"div(ul)", "div(p(a(b(ul))))", pairsOf(0, 0, 1, 4), []impl.Op{
			insertion(nil, 1, 0, 1), insertion([]int{0}, 2, 0, 1), insertion([]int{0, 0}, 5, 0, 1),
		}},
		{"div(ul)", "div(p(ul(a(b))))", pairsOf(0, 0, 1, 2), []impl.Op{
			insertion(nil, 1, 0, 1), insertion([]int{0, 0}, 2, 0, 0), insertion([]int{0, 0, 0}, 5, 0, 0),
		}},
		// Beside children that are kept.
		{"div(ul li)", "div(p(a ul li))", pairsOf(0, 0, 1, 3, 2, 4), []impl.Op{insertion(nil, 1, 0, 2), insertion([]int{0}, 2, 0, 0)}},
		{"div(ul li)", "div(p(ul a li))", pairsOf(0, 0, 1, 2, 2, 4), []impl.Op{insertion(nil, 1, 0, 2), insertion([]int{0}, 2, 1, 0)}},
		{"div(ul li)", "div(p(ul li a))", pairsOf(0, 0, 1, 2, 2, 3), []impl.Op{insertion(nil, 1, 0, 2), insertion([]int{0}, 2, 2, 0)}},
		{"div(ul li)", "div(ul p(li a))", pairsOf(0, 0, 1, 1, 2, 3), []impl.Op{insertion(nil, 1, 1, 1), insertion([]int{1}, 2, 1, 0)}},
		{"div(ul li)", "div(p(ul a) li)", pairsOf(0, 0, 1, 2, 2, 4), []impl.Op{insertion(nil, 1, 0, 1), insertion([]int{0}, 2, 1, 0)}},
		{"div(ul li)", "div(p(a ul b li div))", pairsOf(0, 0, 1, 3, 2, 5), []impl.Op{
			insertion(nil, 1, 0, 2), insertion([]int{0}, 2, 0, 0), insertion([]int{0}, 5, 2, 0), insertion([]int{0}, 0, 4, 0),
		}},
		// Children that another inserted node had adopted before.
		{"div(ul li b)", "div(p(a(ul li b)))", pairsOf(0, 0, 1, 3, 2, 4, 3, 5), []impl.Op{insertion(nil, 1, 0, 3), insertion([]int{0}, 2, 0, 3)}},
		{"div(ul li b)", "div(p(a(ul li) b))", pairsOf(0, 0, 1, 3, 2, 4, 3, 5), []impl.Op{insertion(nil, 1, 0, 3), insertion([]int{0}, 2, 0, 2)}},
		{"div(ul li b)", "div(p(ul a(li b)))", pairsOf(0, 0, 1, 2, 2, 4, 3, 5), []impl.Op{insertion(nil, 1, 0, 3), insertion([]int{0}, 2, 1, 2)}},
		{"div(ul li b)", "div(p(ul a(li) b))", pairsOf(0, 0, 1, 2, 2, 4, 3, 5), []impl.Op{insertion(nil, 1, 0, 3), insertion([]int{0}, 2, 1, 1)}},
		{"div(ul li b)", "div(ul p(li a(b)))", pairsOf(0, 0, 1, 1, 2, 3, 3, 5), []impl.Op{insertion(nil, 1, 1, 2), insertion([]int{1}, 2, 1, 1)}},
		{"div(ul li b)", "div(p(a(ul) div(li b)))", pairsOf(0, 0, 1, 3, 2, 5, 3, 6), []impl.Op{
			insertion(nil, 1, 0, 3), insertion([]int{0}, 2, 0, 1), insertion([]int{0}, 0, 1, 2),
		}},
		{"div(ul li b)", "div(p(a(div(ul li) b)))", pairsOf(0, 0, 1, 4, 2, 5, 3, 6), []impl.Op{
			insertion(nil, 1, 0, 3), insertion([]int{0}, 2, 0, 3), insertion([]int{0, 0}, 0, 0, 2),
		}},
		// What is below an adopted node moves with it and does not count.
		{"div(ul(li) b(a a))", "div(p(ul(li) div(b(a a))))", pairsOf(0, 0, 1, 2, 2, 3, 3, 5, 4, 6, 5, 7), []impl.Op{
			insertion(nil, 1, 0, 2), insertion([]int{0}, 0, 1, 1),
		}},
	}
	for _, c := range cases {
		checkLower(t, treeIn(c.a), treeIn(c.b), c.m, c.want)
		checkScriptOf(t, drawnIn(c.a), drawnIn(c.b), c.m, distCosts())
	}
}

// A leaf more at each place below the root, below a node that is kept, and below
// one that is inserted.
func TestLowerInsertsALeafAtEachPlace(t *testing.T) {
	for n := range 9 {
		kids := star(n + 1).kids
		for from := range n + 1 {
			added := &branch{label: 5}
			more := slices.Insert(slices.Clone(kids), from, added)
			m := pairsOf(0, 0)
			for k := range n {
				m = append(m, impl.Pair{A: k + 1, B: k + 1})
				if k >= from {
					m[k+1].B++
				}
			}
			a, b := draw(&branch{kids: kids}), draw(&branch{kids: more})
			checkLower(t, a.nodes, b.nodes, m, []impl.Op{insertion(nil, 5, from, 0)})
			checkLower(t, b.nodes, a.nodes, impl.Turned(m), []impl.Op{deletion([]int{from})})
			low, lower := lowerBy(a, 1, 2), lowerBy(b, 1, 2)
			under := append(pairsOf(0, 0, 1, 1), moved(m, 2, 2)...)
			checkLower(t, low.nodes, lower.nodes, under, []impl.Op{insertion([]int{1}, 5, from, 0)})
			// Only the nodes below the root are mapped, and the root is inserted.
			outer := append(pairsOf(0, 0), moved(m, 0, 2)[1:]...)
			checkLower(t, a.nodes, draw(&branch{kids: []*branch{{label: 3}, {label: 4, kids: more}}}).nodes, outer, []impl.Op{
				insertion(nil, 3, 0, 0), insertion(nil, 4, 1, n), insertion([]int{1}, 5, from, 0),
			})
		}
	}
}

// lowerBy returns the tree whose root has a leaf and then d as its children, with
// these labels for the new root and the leaf.
func lowerBy(d *drawn, root int, leaf int) *drawn {
	return draw(&branch{label: root, kids: []*branch{{label: leaf}, d.branches[0]}})
}

// moved returns the pairs with other numbers for the nodes, as there are nodes
// before them in both trees.
func moved(m []impl.Pair, a int, b int) []impl.Pair {
	var out []impl.Pair
	for _, p := range m {
		out = append(out, impl.Pair{A: p.A + a, B: p.B + b})
	}
	return out
}

// mixed returns the tree with labels that the seed decides, of the first few.
func mixed(d *drawn, seed uint32, labels int) *drawn {
	next := numbersFrom(seed)
	changed := *d
	changed.nodes = slices.Clone(d.nodes)
	for i := range changed.nodes {
		changed.nodes[i].Label = next(labels)
	}
	return &changed
}

func TestLowerOfAllMappings(t *testing.T) {
	trees := smallTrees(4)
	for n, a := range trees {
		for k, b := range trees {
			for i, m := range rootedMappings(a, b, ascendingLists(a, b)) {
				checkScriptOf(t, a, b, m, distCosts())
				for seed := range uint32(12) {
					from, to := mixed(a, seed+uint32(100*n), 2+int(seed)/3), mixed(b, seed+uint32(100*k+i), 2+int(seed)/3)
					checkScriptOf(t, from, to, m, []impl.Cost{distCosts()[(i+int(seed))%17]})
				}
			}
		}
	}
}

func TestLowerOfAllMappingsAndLabels(t *testing.T) {
	trees := relabeledTrees(3, 0, 2, 5)
	for n, a := range trees {
		for k, b := range trees {
			for _, m := range rootedMappings(a, b, ascendingLists(a, b)) {
				checkScriptOf(t, a, b, m, []impl.Cost{distCosts()[(n+3*k)%17]})
			}
		}
	}
}

func TestLowerOfAllMappingsOfFiveNodes(t *testing.T) {
	trees := smallTrees(5)
	for n, a := range trees {
		for k, b := range trees {
			from, to := mixed(a, uint32(n), 3), mixed(b, uint32(k), 3)
			for _, m := range rootedMappings(a, b, ascendingLists(a, b)) {
				checkScriptOf(t, from, to, m, []impl.Cost{distCosts()[(n+3*k)%17]})
			}
		}
	}
}

func TestLowerOfGreatMappings(t *testing.T) {
	trees := greatTrees()
	for n, a := range trees {
		for k, b := range trees {
			costs := []impl.Cost{evenCost(1), distCosts()[(n+3*k)%17], variedCost(uint32(n+k), impl.MaxCost+1)}
			for seed := range uint32(3) {
				checkScriptOf(t, a, b, rooted(someMapping(a, b, uint32(100*n+k)+10000*seed)), costs)
			}
			checkScriptOf(t, a, b, pairsOf(0, 0), costs)
		}
	}
}

func TestLowerOfBestMappings(t *testing.T) {
	trees := greatTrees()
	for n, a := range trees {
		for k, b := range trees {
			for _, c := range []impl.Cost{evenCost(1), distCosts()[(n+3*k)%17]} {
				checkScriptOf(t, a, b, impl.BestMap(a.nodes, b.nodes, c), []impl.Cost{c, fewCosts()[k%4]})
			}
		}
	}
}

func TestLowerOfATreeToItselfIsEmpty(t *testing.T) {
	for _, d := range append(manyTrees(), relabeledTrees(4, 1, 4)...) {
		best := impl.BestMap(d.nodes, d.nodes, impl.UnitCost())
		checkNoLower(t, d.nodes, slices.Clone(d.nodes), best)
		checkNoLower(t, d.nodes, d.nodes, samePairs(len(d.nodes)))
		checkTransforms(t, d, d, best, fewCosts())
		if len(best) != len(d.nodes) {
			t.Errorf("BestMap(%v, %v) = %v", d.nodes, d.nodes, best)
		}
	}
}

// With unit costs the best mapping has a script of as many operations as the
// distance, which is empty for equal trees only.
func TestLowerHasOneOperationPerUnitOfDistance(t *testing.T) {
	trees := append(relabeledTrees(3, 1, 4), greatTrees()...)
	for i, a := range trees {
		for k, b := range trees {
			ops := impl.Lower(a.nodes, b.nodes, impl.BestMap(a.nodes, b.nodes, impl.UnitCost()))
			if n := impl.RootDist(a.nodes, b.nodes, impl.UnitCost()); len(ops) != n || (n == 0) != (i == k) {
				t.Errorf("the script from %v to %v is %v, but the distance is %d", a.nodes, b.nodes, ops, n)
			}
		}
	}
}

// All nodes of one tree give way to all of the other one, but for the root.
func TestLowerOfTheRootsAlone(t *testing.T) {
	roots := pairsOf(0, 0)
	for n := range impl.MaxNodes {
		one, wide := []impl.Node{{Label: 5}}, sameLabel(draw(star(n+1)), 5).nodes
		checkLower(t, wide, one, roots, slices.Repeat([]impl.Op{deletion([]int{0})}, n))
		var added []impl.Op
		for from := range n {
			added = append(added, insertion(nil, 5, from, 0))
		}
		checkLower(t, one, wide, roots, added)
	}
	for n := range impl.MaxDepth + 1 {
		one, deep := []impl.Node{{Label: 5}}, sameLabel(draw(chain(n)), 5).nodes
		var gone, added []impl.Op
		for depth := range n {
			gone = append(gone, deletion(make([]int, n-depth)))
			added = append(added, insertion(make([]int, depth), 5, 0, 0))
		}
		checkLower(t, deep, one, roots, gone)
		checkLower(t, one, deep, roots, added)
	}
	for n, a := range manyTrees() {
		if b := greatTrees()[n%14]; n%5 == 0 {
			checkScriptOf(t, a, b, roots, fewCosts())
		}
	}
}

// A node more on the way from the root to each node, with each range of children
// below it.
func TestLowerOfOneNodeMore(t *testing.T) {
	for _, d := range roomyTrees() {
		for i := range d.nodes {
			for _, o := range insertionsAt(d, i) {
				e, code := performed(d, o)
				if code != 0 {
					continue
				}
				added := e.kids[i][o.From]
				var m []impl.Pair
				for k := range d.nodes {
					p := impl.Pair{A: k, B: k}
					if k >= added {
						p.B++
					}
					m = append(m, p)
				}
				checkLower(t, d.nodes, e.nodes, m, []impl.Op{o})
				checkLower(t, e.nodes, d.nodes, impl.Turned(m), []impl.Op{deletion(e.path(added))})
			}
		}
	}
}

// Each pair whose labels differ is relabeled, before anything else is changed.
func TestLowerRelabelsInAscendingOrder(t *testing.T) {
	for n, d := range manyTrees() {
		other := mixed(d, uint32(n), 6)
		var want []impl.Op
		for i := range d.nodes {
			if label := other.nodes[i].Label; label != d.nodes[i].Label {
				want = append(want, relabeling(d.path(i), label))
			}
		}
		checkLower(t, d.nodes, other.nodes, samePairs(len(d.nodes)), want)
	}
}

// A list that is valid but does not begin with the pair of the roots has no script.
func TestLowerNeedsThePairOfTheRoots(t *testing.T) {
	for _, a := range smallTrees(4) {
		for _, b := range smallTrees(4) {
			for _, m := range mappings(a, b) {
				if len(m) == 0 || m[0] != (impl.Pair{}) {
					checkNoLower(t, a.nodes, b.nodes, m)
				}
			}
		}
	}
	trees := greatTrees()
	for n, a := range trees {
		b := trees[(5*n+2)%len(trees)]
		for _, m := range [][]impl.Pair{nil, {}, pairsOf(0, 0)[:0], rooted(someMapping(a, b, uint32(n)))[1:], pairsOf(0, 1), pairsOf(1, 0), pairsOf(1, 1)} {
			checkNoLower(t, a.nodes, b.nodes, m)
			checkNoLower(t, a.nodes, a.nodes, m)
		}
		checkNoLower(t, a.nodes, a.nodes, samePairs(len(a.nodes))[1:])
	}
}

// Every list of pairs of nodes, and of those next to the first and the last one.
func TestLowerOfAllLists(t *testing.T) {
	for _, a := range smallTrees(3) {
		for _, b := range smallTrees(3) {
			var pairs []impl.Pair
			for x := -1; x <= len(a.nodes); x++ {
				for y := -1; y <= len(b.nodes); y++ {
					pairs = append(pairs, impl.Pair{A: x, B: y})
				}
			}
			eachList(pairs, 3, func(m []impl.Pair) {
				if len(m) > 0 && m[0] == (impl.Pair{}) && isMapping(a, b, m) {
					checkLower(t, a.nodes, b.nodes, m, lowered(a, b, m))
				} else {
					checkNoLower(t, a.nodes, b.nodes, m)
				}
			})
		}
	}
}

// All ascending lists, some of which are no mappings for their descendants alone.
func TestLowerOfAscendingLists(t *testing.T) {
	for _, a := range smallTrees(5) {
		for _, b := range smallTrees(5) {
			for _, m := range ascendingLists(a, b) {
				if len(m) > 0 && m[0] == (impl.Pair{}) && !isMapping(a, b, m) {
					checkNoLower(t, a.nodes, b.nodes, m)
				}
			}
		}
	}
}

// One pair of a list that would be valid is wrong.
func TestLowerOfInvalidMappings(t *testing.T) {
	for _, d := range append(smallTrees(4), greatTrees()...) {
		m := samePairs(len(d.nodes))
		for i := range m {
			checkNoLower(t, d.nodes, d.nodes, slices.Insert(slices.Clone(m), i, m[i]))
			for _, x := range append([]int{len(d.nodes)}, far...) {
				if d.has(x) {
					continue
				}
				wrong := slices.Clone(m)
				wrong[i].A = x
				checkNoLower(t, d.nodes, d.nodes, wrong)
				checkNoLower(t, d.nodes, d.nodes, impl.Turned(wrong))
			}
			for k := range i {
				checkNoLower(t, d.nodes, d.nodes, exchangedB(m, i, k))
				wrong := slices.Clone(m)
				wrong[i], wrong[k] = wrong[k], wrong[i]
				checkNoLower(t, d.nodes, d.nodes, wrong)
			}
			if i > 0 && len(d.kids[i]) > 0 {
				checkNoLower(t, d.nodes, d.lifted(i).nodes, m)
				checkNoLower(t, d.lifted(i).nodes, d.nodes, m)
			}
		}
		checkNoLower(t, d.nodes, d.nodes, samePairs(len(m)+1))
		checkNoLower(t, d.nodes, d.nodes, append(slices.Clone(m), impl.Pair{}))
		checkNoLower(t, d.nodes, d.nodes, append(pairsOf(0, 0), m...))
		checkNoLower(t, d.nodes, d.nodes, make([]impl.Pair, 30000))
		checkNoLower(t, d.nodes, d.nodes, samePairs(30000))
	}
}

// checkNoLowerOf holds Lower to its result for a list that is no valid tree, on
// either side.
func checkNoLowerOf(t *testing.T, l []impl.Node, other []impl.Node) {
	t.Helper()
	for _, m := range [][]impl.Pair{nil, pairsOf(0, 0), pairsOf(0, 0, 1, 1), samePairs(len(l))} {
		checkNoLower(t, l, other, m)
		checkNoLower(t, other, l, m)
		checkNoLower(t, l, l, m)
	}
}

func TestLowerOfInvalidTrees(t *testing.T) {
	others := [][]impl.Node{treeIn("div"), treeIn("p(a(ul) b)"), draw(star(impl.MaxNodes)).nodes, nil, {}, depthsOf(0, 1, 0)}
	for _, l := range append(invalidTrees(), treeIn("div(p)")[:0]) {
		for _, other := range others {
			checkNoLowerOf(t, l, other)
		}
	}
}

// The most nodes that a script can change, and one more.
func TestLowerMostNodesAndGreatestDepth(t *testing.T) {
	wide, deep := draw(star(impl.MaxNodes)), draw(chain(impl.MaxDepth))
	for n, d := range limitTrees() {
		for k, e := range limitTrees() {
			checkScriptOf(t, d, mixed(e, uint32(n), 6), rooted(someMapping(d, e, uint32(10*n+k))), fewCosts())
			if len(d.nodes) < 24 || len(e.nodes) < 24 {
				continue
			}
			other := mixed(e, uint32(n), 6)
			other.nodes[0].Label = (d.nodes[0].Label + 1) % 6
			if ops := impl.Lower(d.nodes, other.nodes, pairsOf(0, 0)); len(ops) != 47 {
				t.Errorf("%d operations from %v to %v", len(ops), d.nodes, other.nodes)
			}
		}
		checkNoLowerOf(t, draw(star(impl.MaxNodes+1)).nodes, d.nodes)
		checkNoLowerOf(t, draw(chain(impl.MaxDepth+1)).nodes, d.nodes)
	}
	// The deepest node is mapped to the last one.
	last := append(pairsOf(0, 0), impl.Pair{A: impl.MaxDepth, B: impl.MaxNodes - 1})
	checkScriptOf(t, deep, wide, last, distCosts())
}

func checkCount(t *testing.T, ops []impl.Op, kind int, want int) {
	t.Helper()
	if got := impl.CountOps(ops, kind); got != want {
		t.Fatalf("CountOps(%v, %d) = %d, want %d", ops, kind, got, want)
	}
}

// Kinds that do not exist are counted like the others.
func TestCountOpsOfEachKind(t *testing.T) {
	kinds := append(far, 0, 1, 2, 3, 4, 5, -3, 257, 258, 1<<32+1, 1<<32+2, 1<<32+3)
	var ops []impl.Op
	for n, kind := range kinds {
		checkCount(t, ops, kind, 0)
		for range n {
			ops = append(ops, impl.Op{Kind: kind, Path: []int{kind}, Label: 1, From: 2, Count: 3})
		}
		checkCount(t, ops, kind, n)
	}
	next := numbersFrom(1)
	for i := range ops {
		k := i + next(len(ops)-i)
		ops[i], ops[k] = ops[k], ops[i]
	}
	for n, kind := range kinds {
		checkCount(t, ops, kind, n)
		checkCount(t, ops[:0], kind, 0)
		checkCount(t, nil, kind, 0)
		checkCount(t, []impl.Op{}, kind, 0)
		checkCount(t, slices.Repeat([]impl.Op{{Kind: kind}}, 100000), kind, 100000)
		checkCount(t, slices.Repeat([]impl.Op{{Kind: 77}}, 1000), kind, 0)
	}
}

// Only the kind counts, and each list is the sum of its parts.
func TestCountOpsOfScripts(t *testing.T) {
	fields := []impl.Op{{}, {Path: []int{1}}, {Label: 1}, {From: 1}, {Count: 1}, {Path: []int{2, 3}, Label: 2, From: 3, Count: 1}}
	for kind := -1; kind <= 5; kind++ {
		for _, o := range fields {
			o.Kind = kind
			for other := -1; other <= 5; other++ {
				want := 0
				if other == kind {
					want = 1
				}
				checkCount(t, []impl.Op{o}, other, want)
			}
		}
	}
	for n, d := range scriptTrees() {
		ops, _ := someScript(d, 12, uint32(n))
		all := 0
		for kind := range 5 {
			whole := impl.CountOps(ops, kind)
			all += whole
			for cut := range len(ops) + 1 {
				if first, second := impl.CountOps(ops[:cut], kind), impl.CountOps(ops[cut:], kind); first+second != whole {
					t.Errorf("%v has %d operations of kind %d, but its parts %d and %d", ops, whole, kind, first, second)
				}
			}
		}
		if all != len(ops) {
			t.Errorf("%v has %d operations of all kinds", ops, all)
		}
	}
}

func TestKeptOfSomeTrees(t *testing.T) {
	cases := []struct {
		a    string
		m    []impl.Pair
		want string
	}{
		{"div", pairsOf(0, 0), "div"},
		{"div(p(a b) ul)", pairsOf(0, 0), "div"},
		{"div(p(a b) ul)", pairsOf(0, 0, 3, 1, 4, 2), "div(b ul)"},
		{"div(p(a b) ul)", pairsOf(0, 0, 1, 1, 3, 2), "div(p(b))"},
		{"div(p(a b) ul)", pairsOf(0, 0, 1, 1, 4, 2), "div(p ul)"},
		{"div(p(a b) ul)", pairsOf(0, 0, 2, 1), "div(a)"},
		{"div(p(a b) ul)", samePairs(5), "div(p(a b) ul)"},
		{"div(p(a(ul(li))) b)", pairsOf(0, 0, 2, 1, 4, 2), "div(a(li))"},
		{"div(p(a(ul(li))) b)", pairsOf(0, 0, 4, 2, 5, 3), "div(li b)"},
		{"p(p(p p) p(p))", pairsOf(0, 0, 2, 1, 3, 2, 4, 3), "p(p p p)"},
		// What stands in B does not matter, nor does the order of the pairs.
		{"div(p(a b) ul)", pairsOf(4, 7, 0, -1, 3, 7), "div(b ul)"},
		{"div(p(a b) ul)", pairsOf(3, 0, 3, 0, 3, 1, 0, 5, 0, 0), "div(b)"},
		{"div(p(a b) ul)", pairsOf(5, 1, 0, 2, -1, 3, 1, 4, 24, 5), "div(p)"},
		{"div(p(a b) ul)", pairsOf(0, math.MinInt, math.MaxInt, 1, math.MinInt, 1, 1<<32+1, 2), "div"},
	}
	for _, c := range cases {
		if got := impl.Kept(treeIn(c.a), c.m); !slices.Equal(got, treeIn(c.want)) {
			t.Errorf("Kept of %s and %v = %v, want %s", c.a, c.m, got, c.want)
		}
		checkKept(t, drawnIn(c.a), c.m, keptNodes(drawnIn(c.a), c.m))
	}
	for _, m := range [][]impl.Pair{nil, {}, pairsOf(0, 0)[:0], pairsOf(1, 0), pairsOf(1, 0, 2, 0, 3, 0, 4, 0), pairsOf(-1, 0), pairsOf(5, 0), pairsOf(1<<32, 0)} {
		checkKept(t, drawnIn("div(p(a b) ul)"), m, nil)
	}
}

// Every set of nodes, with the pairs in and out of order, repeated, and beside
// others that have no node.
func TestKeptOfAllSets(t *testing.T) {
	for n, d := range append(smallTrees(6), relabeledTrees(4, 1, 4)...) {
		for set := range 1 << len(d.nodes) {
			nodes := slices.DeleteFunc(upTo(len(d.nodes)), func(i int) bool { return set>>i&1 == 0 })
			var m []impl.Pair
			for k, i := range nodes {
				m = append(m, impl.Pair{A: i, B: (k + n) % 3})
			}
			checkKept(t, d, m, nodes)
			slices.Reverse(m)
			checkKept(t, d, m, nodes)
			checkKept(t, d, append(m, m...), nodes)
			checkKept(t, d, append(pairsOf(-1, 0, len(d.nodes), 0, 1<<32, 0), m...), nodes)
		}
	}
}

func TestKeptOfAllLists(t *testing.T) {
	for _, d := range smallTrees(4) {
		var pairs []impl.Pair
		for x := -1; x <= len(d.nodes); x++ {
			pairs = append(pairs, impl.Pair{A: x}, impl.Pair{A: x, B: 3 - x})
		}
		eachList(pairs, 4, func(m []impl.Pair) {
			checkKept(t, d, m, keptNodes(d, m))
		})
	}
}

func TestKeptOfGreatTrees(t *testing.T) {
	for n, d := range append(manyTrees(), greatTrees()...) {
		size := len(d.nodes)
		checkKept(t, d, samePairs(size), upTo(size))
		checkKept(t, d, pairsOf(0, 0), []int{0})
		next := numbersFrom(uint32(n))
		for range 5 {
			m := pairsOf(0, 7)
			for range next(size + 8) {
				m = slices.Insert(m, next(len(m)+1), impl.Pair{A: next(size+2) - 1, B: next(30) - 3})
			}
			checkKept(t, d, m, keptNodes(d, m))
			below := slices.DeleteFunc(m, func(p impl.Pair) bool { return p.A == 0 })
			checkKept(t, d, below, nil)
		}
		long := make([]impl.Pair, 3000)
		for i := range long {
			long[i] = impl.Pair{A: 3 * i, B: -i}
		}
		checkKept(t, d, long, keptNodes(d, long))
	}
}

// What is kept is what deleting the other nodes one by one leaves, in any order.
func TestKeptIsWhatDeletionsLeave(t *testing.T) {
	for n, d := range manyTrees() {
		next := numbersFrom(uint32(n))
		left := upTo(len(d.nodes))
		e := d
		for len(left) > 1 {
			at := 1 + next(len(left)-1)
			e, _ = performed(e, deletion(e.path(at)))
			left = slices.Delete(left, at, at+1)
			var m []impl.Pair
			for _, i := range left {
				m = append(m, impl.Pair{A: i, B: i})
			}
			if got := impl.Kept(d.nodes, m); !slices.Equal(got, e.nodes) {
				t.Fatalf("Kept(%v, %v) = %v, want %v", d.nodes, m, got, e.nodes)
			}
		}
	}
}

// The nodes that a mapping keeps of both trees form trees of the same shape.
func TestKeptOfBothTreesHasTheSameShape(t *testing.T) {
	trees := append(smallTrees(5), greatTrees()...)
	for n, a := range trees {
		for k, b := range trees {
			m := rooted(someMapping(a, b, uint32(100*n+k)))
			x, y := impl.Kept(a.nodes, m), impl.Kept(b.nodes, impl.Turned(m))
			if len(x) != len(m) || !slices.EqualFunc(x, y, func(p impl.Node, q impl.Node) bool { return p.Depth == q.Depth }) {
				t.Fatalf("%v keeps %v of %v and %v of %v", m, x, a.nodes, y, b.nodes)
			}
		}
	}
}

func TestKeptOfInvalidTrees(t *testing.T) {
	for _, l := range append(invalidTrees(), treeIn("div(p)")[:0]) {
		for _, m := range [][]impl.Pair{nil, {}, pairsOf(0, 0), pairsOf(0, 0, 1, 1), samePairs(len(l)), samePairs(len(l) + 1)} {
			if got := impl.Kept(l, m); len(got) != 0 {
				t.Fatalf("Kept(%v, %v) = %v, want none", l, m, got)
			}
		}
	}
}

// clonedOps returns a copy of some operations and of each path.
func clonedOps(ops []impl.Op) []impl.Op {
	out := slices.Clone(ops)
	for i := range out {
		out[i].Path = slices.Clone(out[i].Path)
	}
	return out
}

// callLowerFunctions calls the functions of chapter 14 that have nodes and pairs.
func callLowerFunctions(a []impl.Node, b []impl.Node, m []impl.Pair) {
	impl.Lower(a, b, m)
	impl.Lower(b, a, m)
	impl.Kept(a, m)
	impl.Kept(b, m)
}

func TestLowerArgumentsStayAsTheyAre(t *testing.T) {
	other := treeIn("p(a(ul) b)")
	checkArgumentStays(t, func(l []impl.Node) {
		for _, m := range [][]impl.Pair{nil, pairsOf(0, 0), samePairs(len(l)), pairsOf(0, 0, 1, 2), pairsOf(2, 2, 0, 0)} {
			callLowerFunctions(l, other, m)
			callLowerFunctions(l, l, m)
		}
	})
	if !slices.Equal(other, treeIn("p(a(ul) b)")) {
		t.Errorf("p(a(ul) b) became %v", other)
	}
	eachList(pairsOf(0, 0, 1, 1, 2, 1, 3, 3, -1, 5), 4, func(list []impl.Pair) {
		m, full := heldPairs(list)
		_, want := heldPairs(list)
		callLowerFunctions(other, treeIn("div(p a b)"), m)
		if !slices.Equal(full, want) {
			t.Fatalf("%v became %v", want, full)
		}
	})
	for n, d := range scriptTrees() {
		ops, _ := someScript(d, 8, uint32(n))
		checkOpsStay(t, append(ops, impl.Op{}, impl.Op{Kind: 9, Path: []int{-1}}), func(ops []impl.Op) {
			for kind := range 5 {
				impl.CountOps(ops, kind)
			}
		})
	}
}

// checkOpsApart holds a call to operations whose paths share no memory, and that
// share none with those of another call.
func checkOpsApart(t *testing.T, call func() []impl.Op) {
	t.Helper()
	first, second := call(), call()
	want := clonedOps(first)
	for i, o := range first {
		spoilTable(o.Path)
		for j, p := range first {
			if j != i && !slices.Equal(p.Path, want[j].Path) {
				t.Fatalf("%v became %v after a change of %v", want[j], p, want[i])
			}
		}
		copy(o.Path, want[i].Path)
	}
	for i := range first[:cap(first)] {
		spoilTable(first[:cap(first)][i].Path)
		first[:cap(first)][i] = impl.Op{Kind: -9}
	}
	if third := call(); !sameOps(second, want) || !sameOps(third, want) {
		t.Fatalf("%v became %v, and then %v", want, second, third)
	}
}

func TestLowerResultsAreNewMemory(t *testing.T) {
	trees := append(smallTrees(4), greatTrees()...)
	for n, a := range trees {
		for k, b := range trees {
			m := rooted(someMapping(a, b, uint32(100*n+k)))
			checkOpsApart(t, func() []impl.Op { return impl.Lower(a.nodes, b.nodes, m) })
		}
	}
}

func TestKeptResultsAreNewMemory(t *testing.T) {
	for n, d := range append(fewTrees(), greatTrees()...) {
		all := samePairs(len(d.nodes))
		for _, m := range [][]impl.Pair{pairsOf(0, 0), all, all[:len(all)/2+1], rooted(someMapping(d, d, uint32(n))), nil} {
			checkNewNodes(t, d, func(l []impl.Node) []impl.Node { return impl.Kept(l, m) })
		}
	}
}

// Nodes, pairs, operations and steps in the unused capacity of a list do not count.
func TestLowerUnusedCapacityDoesNotCount(t *testing.T) {
	trees := append(smallTrees(4), greatTrees()...)
	for n, a := range trees {
		for k, b := range trees {
			list := rooted(someMapping(a, b, uint32(100*n+k)))
			m, _ := heldPairs(list)
			more := impl.Node{Depth: 1}
			from, to := append(slices.Clone(a.nodes), more)[:len(a.nodes)], append(slices.Clone(b.nodes), more)[:len(b.nodes)]
			want := lowered(a, b, list)
			checkLower(t, from, to, m, want)
			checkLower(t, from, to, m[:1], lowered(a, b, pairsOf(0, 0)))
			checkNoLower(t, from, to, m[:0])
			checkKept(t, a, m, keptNodes(a, list))
			checkKept(t, a, m[:0], nil)
			if got := impl.Kept(from, m); !slices.Equal(got, impl.Kept(a.nodes, list)) {
				t.Fatalf("Kept(%v, %v) = %v", from, m, got)
			}
			held, _ := heldOps(want)
			checkCount(t, held, 77, 0)
			checkCount(t, held[:0], impl.OpInsert, 0)
		}
	}
}
