package tests

import (
	"math"
	"slices"
	"testing"

	"loop.example/g01618/impl"
)

// Promise 8: the composition of two valid mappings is valid; so is the inverse of
// a mapping; the mapped nodes of both trees form trees of the same shape. These
// tests hold it for the functions of chapter 10.

// pairsOf returns a list of pairs from A and B of each one after another.
func pairsOf(nodes ...int) []impl.Pair {
	var out []impl.Pair
	for i := 0; i+1 < len(nodes); i += 2 {
		out = append(out, impl.Pair{A: nodes[i], B: nodes[i+1]})
	}
	return out
}

// samePairs maps each node of a tree of n nodes to itself.
func samePairs(n int) []impl.Pair {
	out := make([]impl.Pair, n)
	for i := range out {
		out[i] = impl.Pair{A: i, B: i}
	}
	return out
}

func (d *drawn) has(i int) bool {
	return 0 <= i && i < len(d.nodes)
}

// isMapping finds by the parents and the order of the drawn nodes whether a list
// is a valid mapping.
func isMapping(a *drawn, b *drawn, m []impl.Pair) bool {
	for i, p := range m {
		if !a.has(p.A) || !b.has(p.B) {
			return false
		}
		for _, q := range m[:i] {
			if q.A >= p.A || q.B >= p.B || a.isUnder(q.A, p.A) != b.isUnder(q.B, p.B) {
				return false
			}
		}
	}
	return true
}

// chosen returns every choice of size of the numbers from first to n-1, each in
// ascending order.
func chosen(first int, n int, size int) [][]int {
	if size == 0 {
		return [][]int{nil}
	}
	var out [][]int
	for i := first; i < n; i++ {
		for _, rest := range chosen(i+1, n, size-1) {
			out = append(out, append([]int{i}, rest...))
		}
	}
	return out
}

// ascendingLists returns all lists of pairs of nodes of two trees in which A and
// B are strictly ascending.
func ascendingLists(a *drawn, b *drawn) [][]impl.Pair {
	var out [][]impl.Pair
	for size := range min(len(a.nodes), len(b.nodes)) + 1 {
		for _, as := range chosen(0, len(a.nodes), size) {
			for _, bs := range chosen(0, len(b.nodes), size) {
				m := make([]impl.Pair, size)
				for i := range m {
					m[i] = impl.Pair{A: as[i], B: bs[i]}
				}
				out = append(out, m)
			}
		}
	}
	return out
}

func mappings(a *drawn, b *drawn) [][]impl.Pair {
	return slices.DeleteFunc(ascendingLists(a, b), func(m []impl.Pair) bool { return !isMapping(a, b, m) })
}

// eachList calls check with every list of at most length of the pairs, in any
// order and with pairs repeated.
func eachList(pairs []impl.Pair, length int, check func(m []impl.Pair)) {
	list := make([]impl.Pair, 0, length)
	var longer func()
	longer = func() {
		check(list)
		if len(list) == length {
			return
		}
		for _, p := range pairs {
			list = append(list, p)
			longer()
			list = list[:len(list)-1]
		}
	}
	longer()
}

// someMapping returns a valid mapping that the seed decides. Each node of a is
// mapped to one of the next nodes of b that it can be mapped to, or to none.
func someMapping(a *drawn, b *drawn, seed uint32) []impl.Pair {
	next := numbersFrom(seed)
	spread := 1 + next(5)
	var m []impl.Pair
	after := 0
	for x := range a.nodes {
		for y := after; y < min(len(b.nodes), after+spread); y++ {
			longer := append(m, impl.Pair{A: x, B: y})
			if next(4) > 0 && isMapping(a, b, longer) {
				m, after = longer, y+1
				break
			}
		}
	}
	return m
}

// imageOf returns the node that x is mapped to, or -1 if there is none.
func imageOf(m []impl.Pair, x int) int {
	for _, p := range m {
		if p.A == x {
			return p.B
		}
	}
	return -1
}

// keptDepths returns for each of some nodes the number of the others above it,
// which is its depth in the forest that they form.
func (d *drawn) keptDepths(nodes []int) []int {
	var out []int
	for _, j := range nodes {
		depth := 0
		for _, i := range nodes {
			if d.isUnder(i, j) {
				depth++
			}
		}
		out = append(out, depth)
	}
	return out
}

func nodesOf(m []impl.Pair) ([]int, []int) {
	var as, bs []int
	for _, p := range m {
		as, bs = append(as, p.A), append(bs, p.B)
	}
	return as, bs
}

// summed adds up what a mapping costs node by node.
func summed(a *drawn, b *drawn, c impl.Cost, m []impl.Pair) int {
	sum := 0
	inserted := upTo(len(b.nodes))
	for x, node := range a.nodes {
		y := imageOf(m, x)
		if y < 0 {
			sum += c.Del[node.Label]
			continue
		}
		sum += c.Rel[6*node.Label+b.nodes[y].Label]
		inserted = slices.DeleteFunc(inserted, func(other int) bool { return other == y })
	}
	for _, y := range inserted {
		sum += c.Ins[b.nodes[y].Label]
	}
	return sum
}

func checkMap(t *testing.T, a []impl.Node, b []impl.Node, m []impl.Pair, want bool) {
	t.Helper()
	if got := impl.MapOk(a, b, m); got != want {
		t.Fatalf("MapOk(%v, %v, %v) = %v, want %v", a, b, m, got, want)
	}
}

// checkBothWays holds MapOk to what is expected of a list of pairs, and of the
// same one turned, with the trees exchanged.
func checkBothWays(t *testing.T, a []impl.Node, b []impl.Node, m []impl.Pair, want bool) {
	t.Helper()
	checkMap(t, a, b, m, want)
	checkMap(t, b, a, impl.Turned(m), want)
}

func checkMapCost(t *testing.T, a []impl.Node, b []impl.Node, c impl.Cost, m []impl.Pair, want int) {
	t.Helper()
	if got := impl.MapCost(a, b, c, m); got != want {
		t.Fatalf("MapCost(%v, %v, %v, %v) = %d, want %d", a, b, c, m, got, want)
	}
}

// checkNoMap holds both functions of trees to their results for a list that is
// no valid mapping of them, or for trees that are not valid.
func checkNoMap(t *testing.T, a []impl.Node, b []impl.Node, m []impl.Pair) {
	t.Helper()
	checkMap(t, a, b, m, false)
	checkMapCost(t, a, b, evenCost(1), m, -1)
}

// checkValid holds the functions of trees to what they say of a valid mapping,
// and of the same one turned.
func checkValid(t *testing.T, a *drawn, b *drawn, c impl.Cost, m []impl.Pair) {
	t.Helper()
	back := impl.Turned(m)
	checkMap(t, a.nodes, b.nodes, m, true)
	checkMap(t, b.nodes, a.nodes, back, true)
	want := summed(a, b, c, m)
	checkMapCost(t, a.nodes, b.nodes, c, m, want)
	checkMapCost(t, b.nodes, a.nodes, exchanged(c), back, want)
	if again := impl.Turned(back); !slices.Equal(again, m) {
		t.Fatalf("%v became %v, turned twice", m, again)
	}
}

// checkNoMapOf holds MapOk and MapCost to their results for a list that is no
// valid tree, on either side.
func checkNoMapOf(t *testing.T, l []impl.Node, other []impl.Node) {
	t.Helper()
	for _, m := range [][]impl.Pair{nil, {}, pairsOf(0, 0), pairsOf(0, 1), pairsOf(0, 0, 1, 1), samePairs(len(l))} {
		checkNoMap(t, l, other, m)
		checkNoMap(t, other, l, m)
		checkNoMap(t, l, l, m)
	}
}

func checkComposed(t *testing.T, m []impl.Pair, n []impl.Pair, want []impl.Pair) {
	t.Helper()
	if got := impl.Composed(m, n); !slices.Equal(got, want) {
		t.Fatalf("Composed(%v, %v) = %v, want %v", m, n, got, want)
	}
}

func checkSameMap(t *testing.T, m []impl.Pair, n []impl.Pair, want bool) {
	t.Helper()
	if impl.SameMap(m, n) != want || impl.SameMap(n, m) != want {
		t.Fatalf("SameMap(%v, %v) = %v, want %v", m, n, !want, want)
	}
}

func TestMapOfSomeTrees(t *testing.T) {
	cases := []struct {
		a, b string
		m    []impl.Pair
		want bool
	}{
		{"div", "p", pairsOf(0, 0), true},
		{"div(p)", "p", pairsOf(1, 0), true},
		{"div(p(a b) ul)", "div(a b li)", pairsOf(0, 0, 2, 1, 3, 2, 4, 3), true},
		{"div(p(a b) ul)", "div(a b ul)", pairsOf(0, 0, 1, 1), true},
		{"div(p(a b) ul)", "div(a b ul)", pairsOf(0, 0, 1, 1, 4, 3), true},
		{"div(p(a b) ul)", "div(a b ul)", pairsOf(2, 1, 4, 3), true},
		// Both are ascending, but p is above a and b.
		{"div(p(a b) ul)", "div(a b ul)", pairsOf(1, 1, 2, 2), false},
		{"div(p(a b) ul)", "div(a b ul)", pairsOf(0, 0, 1, 1, 3, 2, 4, 3), false},
		{"div(p(a b) ul)", "div(a b ul)", pairsOf(1, 0, 4, 3), false},
		{"div(p(a b) ul)", "div(a b ul)", pairsOf(1, 0, 2, 1, 3, 2), true},
		{"div(a b ul)", "p(a(b))", pairsOf(1, 1, 2, 2), false},
		{"div(a b ul)", "p(a(b))", pairsOf(0, 1, 2, 2), true},
		{"div(a b ul)", "p(a(b))", pairsOf(0, 0, 3, 2), true},
		// Pairs next to each other are good, but not the first and the last one.
		{"div(p(a) b)", "div(p(a b))", pairsOf(1, 1, 2, 2, 3, 3), false},
		{"div(p(a) b)", "div(p(a b))", pairsOf(2, 2, 3, 3), true},
		{"div(p(a) b)", "div(p(a b))", pairsOf(1, 1, 2, 2), true},
		{"div(p(a) b)", "div(p(a b))", pairsOf(1, 1, 3, 3), false},
	}
	for _, c := range cases {
		checkBothWays(t, treeIn(c.a), treeIn(c.b), c.m, c.want)
	}
}

// Every list of pairs of nodes, and of those next to the first and the last one.
func TestMapOkOfAllLists(t *testing.T) {
	for _, a := range smallTrees(3) {
		for _, b := range smallTrees(3) {
			var pairs []impl.Pair
			for x := -1; x <= len(a.nodes); x++ {
				for y := -1; y <= len(b.nodes); y++ {
					pairs = append(pairs, impl.Pair{A: x, B: y})
				}
			}
			eachList(pairs, 4, func(m []impl.Pair) {
				checkMap(t, a.nodes, b.nodes, m, isMapping(a, b, m))
			})
		}
	}
}

func TestMapOkOfShortLists(t *testing.T) {
	for _, a := range smallTrees(4) {
		for _, b := range smallTrees(4) {
			eachList(allPairs(a, b), 3, func(m []impl.Pair) {
				checkMap(t, a.nodes, b.nodes, m, isMapping(a, b, m))
			})
		}
	}
}

// allPairs returns every pair of nodes, in ascending order of A and then of B.
func allPairs(a *drawn, b *drawn) []impl.Pair {
	var out []impl.Pair
	for x := range a.nodes {
		for y := range b.nodes {
			out = append(out, impl.Pair{A: x, B: y})
		}
	}
	return out
}

// Every set of pairs, in which nodes of one side or the other may be repeated.
func TestMapOkOfAllSets(t *testing.T) {
	for _, a := range smallTrees(4) {
		for _, b := range smallTrees(4) {
			pairs := allPairs(a, b)
			for set := range 1 << len(pairs) {
				var m []impl.Pair
				for i, p := range pairs {
					if set>>i&1 == 1 {
						m = append(m, p)
					}
				}
				checkMap(t, a.nodes, b.nodes, m, isMapping(a, b, m))
			}
		}
	}
}

func TestMapOkOfAscendingLists(t *testing.T) {
	for _, a := range smallTrees(5) {
		for _, b := range smallTrees(5) {
			for _, m := range ascendingLists(a, b) {
				checkMap(t, a.nodes, b.nodes, m, isMapping(a, b, m))
			}
		}
	}
}

// The numbers of valid mappings of paths and of stars are known. Of paths, all
// ascending lists are valid. Of stars, so are those that pair both roots or none,
// and one pair of a root with a leaf.
func TestMapOkCounts(t *testing.T) {
	accepted := func(a *drawn, b *drawn) int {
		n := 0
		for _, m := range ascendingLists(a, b) {
			if impl.MapOk(a.nodes, b.nodes, m) {
				n++
			}
		}
		return n
	}
	for m := 1; m <= 6; m++ {
		for n := 1; n <= 6; n++ {
			want := len(chosen(0, m+n, n))
			if got := accepted(draw(chain(m-1)), draw(chain(n-1))); got != want {
				t.Errorf("%d mappings of paths of %d and %d nodes, want %d", got, m, n, want)
			}
			want = 2*len(chosen(0, m+n-2, n-1)) + m - 1 + n - 1
			if got := accepted(draw(star(m)), draw(star(n))); got != want {
				t.Errorf("%d mappings of stars of %d and %d nodes, want %d", got, m, n, want)
			}
		}
	}
}

// A list with both sides ascending is valid exactly if each mapped node has the
// same depth among the mapped nodes of its tree.
func TestMappedNodesHaveTheSameShape(t *testing.T) {
	for _, a := range smallTrees(5) {
		for _, b := range smallTrees(5) {
			for _, m := range ascendingLists(a, b) {
				as, bs := nodesOf(m)
				checkMap(t, a.nodes, b.nodes, m, slices.Equal(a.keptDepths(as), b.keptDepths(bs)))
			}
		}
	}
	trees := greatTrees()
	for n, a := range trees {
		for k, b := range trees {
			m := someMapping(a, b, uint32(100*n+k))
			checkMap(t, a.nodes, b.nodes, m, true)
			as, bs := nodesOf(m)
			if x, y := a.keptDepths(as), b.keptDepths(bs); !slices.Equal(x, y) {
				t.Errorf("the mapped nodes of %v and %v have the depths %v and %v in %v", a.nodes, b.nodes, x, y, m)
			}
		}
	}
}

func TestMapOkDoesNotDependOnLabels(t *testing.T) {
	for _, a := range smallTrees(4) {
		for _, b := range smallTrees(4) {
			for _, m := range ascendingLists(a, b) {
				want := isMapping(a, b, m)
				for label := range 6 {
					checkMap(t, sameLabel(a, label).nodes, sameLabel(b, 5-label).nodes, m, want)
				}
			}
		}
	}
}

// exchangedB returns the pairs with B of two of them exchanged.
func exchangedB(m []impl.Pair, i int, k int) []impl.Pair {
	m = slices.Clone(m)
	m[i].B, m[k].B = m[k].B, m[i].B
	return m
}

// Two pairs that cross by order, anywhere in a list that is valid otherwise.
func TestMapPairsCrossByOrder(t *testing.T) {
	for _, d := range append(smallTrees(4), greatTrees()...) {
		m := samePairs(len(d.nodes))
		checkBothWays(t, d.nodes, d.nodes, m, true)
		for k := range m {
			for i := range k {
				crossed := exchangedB(m, i, k)
				checkNoMap(t, d.nodes, d.nodes, crossed)
				checkNoMap(t, d.nodes, d.nodes, impl.Turned(crossed))
				// Now it is A that descends, with B in order.
				crossed[i], crossed[k] = crossed[k], crossed[i]
				checkNoMap(t, d.nodes, d.nodes, crossed)
				checkNoMap(t, d.nodes, d.nodes, []impl.Pair{crossed[i], crossed[k]})
				// Both descend, as the pairs stand in each other's place.
				m[i], m[k] = m[k], m[i]
				checkNoMap(t, d.nodes, d.nodes, m)
				checkNoMap(t, d.nodes, d.nodes, []impl.Pair{m[i], m[k]})
				m[i], m[k] = m[k], m[i]
			}
		}
	}
	a := treeIn("div(p a b)")
	checkBothWays(t, a, a, pairsOf(1, 2, 2, 1), false)
	checkBothWays(t, a, a, pairsOf(0, 0, 1, 2, 2, 1, 3, 3), false)
	checkBothWays(t, a, a, pairsOf(0, 1, 1, 0, 2, 2, 3, 3), false)
	checkBothWays(t, a, a, pairsOf(0, 0, 1, 1, 2, 3, 3, 2), false)
	checkBothWays(t, a, a, pairsOf(0, 0, 1, 3, 2, 2, 3, 1), false)
}

// lifted returns the tree in which the last child of node i, with all that is
// below it, follows the node instead.
func (d *drawn) lifted(i int) *drawn {
	l := slices.Clone(d.nodes)
	last := d.kids[i][len(d.kids[i])-1]
	for k := last; k < d.ends[i]; k++ {
		l[k].Depth--
	}
	return drawnIn(impl.TreeText(l))
}

// Two pairs that cross by descent: node i is above its last child in one of the
// trees only. The nodes are in the same order in both.
func TestMapPairsCrossByDescent(t *testing.T) {
	crossings := 0
	for _, d := range append(smallTrees(5), greatTrees()...) {
		m := samePairs(len(d.nodes))
		for i := 1; i < len(d.nodes); i++ {
			if len(d.kids[i]) == 0 {
				continue
			}
			crossings++
			up := d.lifted(i)
			last := d.kids[i][len(d.kids[i])-1]
			checkBothWays(t, d.nodes, up.nodes, m, false)
			checkBothWays(t, d.nodes, up.nodes, m[:last], true)
			checkBothWays(t, d.nodes, up.nodes, m[:last+1], false)
			checkBothWays(t, d.nodes, up.nodes, m[i:], false)
			checkBothWays(t, d.nodes, up.nodes, m[i+1:], true)
			checkBothWays(t, d.nodes, up.nodes, slices.Delete(slices.Clone(m), i, i+1), true)
			checkBothWays(t, d.nodes, up.nodes, slices.Delete(slices.Clone(m), last, d.ends[i]), true)
			for k := last; k < d.ends[i]; k++ {
				checkBothWays(t, d.nodes, up.nodes, []impl.Pair{m[i], m[k]}, false)
			}
		}
	}
	if crossings < 100 {
		t.Errorf("only %d crossings", crossings)
	}
}

func TestMapOkRepeatsANode(t *testing.T) {
	for _, d := range append(smallTrees(4), greatTrees()...) {
		m := samePairs(len(d.nodes))
		for i := range m {
			checkNoMap(t, d.nodes, d.nodes, slices.Insert(slices.Clone(m), i, m[i]))
			checkNoMap(t, d.nodes, d.nodes, []impl.Pair{m[i], m[i]})
			for k := range m {
				if k == i {
					continue
				}
				again := slices.Clone(m)
				again[i].A = k
				checkNoMap(t, d.nodes, d.nodes, again)
				checkNoMap(t, d.nodes, d.nodes, impl.Turned(again))
				first, second := again[min(i, k)], again[max(i, k)]
				checkNoMap(t, d.nodes, d.nodes, []impl.Pair{first, second})
				checkNoMap(t, d.nodes, d.nodes, impl.Turned([]impl.Pair{first, second}))
			}
		}
		checkNoMap(t, d.nodes, d.nodes, append(m, m...))
	}
	// Nothing but the repeated node is wrong with these.
	a := treeIn("div(p a b)")
	checkBothWays(t, a, a, pairsOf(1, 1, 1, 2), false)
	checkBothWays(t, a, a, pairsOf(0, 0, 1, 1, 1, 2, 2, 3), false)
	checkBothWays(t, a, a, pairsOf(0, 0, 2, 2, 2, 3), false)
}

// A node that does not exist, in place of each A and each B.
func TestMapOkNodeBeyondTheTree(t *testing.T) {
	trees := append(smallTrees(3), greatTrees()...)
	for n, d := range trees {
		size := len(d.nodes)
		m := samePairs(size)
		other := trees[(n+3)%len(trees)].nodes
		for _, x := range append([]int{size, size + 1, size + 256, size + 1<<32}, far...) {
			if d.has(x) {
				continue
			}
			for i := range m {
				beyond := slices.Clone(m)
				beyond[i].A = x
				checkNoMap(t, d.nodes, d.nodes, beyond)
				checkNoMap(t, d.nodes, d.nodes, impl.Turned(beyond))
				checkNoMap(t, d.nodes, d.nodes, beyond[i:i+1])
				checkNoMap(t, d.nodes, d.nodes, impl.Turned(beyond[i:i+1]))
			}
			checkNoMap(t, d.nodes, other, []impl.Pair{{A: x}})
			checkNoMap(t, other, d.nodes, []impl.Pair{{B: x}})
			checkNoMap(t, d.nodes, d.nodes, []impl.Pair{{A: x, B: x}})
		}
		// One more pair, of a node before the first one or after the last one.
		checkNoMap(t, d.nodes, d.nodes, samePairs(size+1))
		checkNoMap(t, d.nodes, d.nodes, append(pairsOf(-1, -1), m...))
		checkNoMap(t, d.nodes, d.nodes, append(pairsOf(-1, 0), m[1:]...))
		checkNoMap(t, d.nodes, d.nodes, append(slices.Clone(m[:size-1]), impl.Pair{A: size, B: size - 1}))
		checkNoMap(t, d.nodes, d.nodes, append(slices.Clone(m[:size-1]), impl.Pair{A: size - 1, B: size}))
	}
}

// What is a node of the larger tree may be none of the smaller one.
func TestMapOkNodeOfTheOtherTree(t *testing.T) {
	for m := 1; m <= impl.MaxDepth; m++ {
		for n := 1; n <= impl.MaxNodes; n++ {
			a, b := draw(chain(m-1)), draw(star(n))
			for x := range impl.MaxNodes + 1 {
				for y := range impl.MaxNodes + 1 {
					checkMap(t, a.nodes, b.nodes, pairsOf(x, y), x < m && y < n)
				}
			}
		}
	}
}

func TestMapWithoutPairs(t *testing.T) {
	trees := append(smallTrees(4), greatTrees()...)
	for n, a := range trees {
		for k, b := range trees {
			c := distCosts()[(n+k)%len(distCosts())]
			want := sumOf(a, a.whole(), c.Del) + sumOf(b, b.whole(), c.Ins)
			for _, m := range [][]impl.Pair{nil, {}, samePairs(3)[:0]} {
				checkMap(t, a.nodes, b.nodes, m, true)
				checkMapCost(t, a.nodes, b.nodes, c, m, want)
			}
		}
	}
	for _, m := range [][]impl.Pair{nil, {}, samePairs(3)[:0]} {
		if impl.RootsPaired(m) {
			t.Error("RootsPaired without pairs = true")
		}
		if got := impl.Turned(m); len(got) != 0 {
			t.Errorf("Turned without pairs = %v", got)
		}
		checkComposed(t, m, samePairs(3), nil)
		checkComposed(t, samePairs(3), m, nil)
		checkComposed(t, m, m, nil)
		checkSameMap(t, m, nil, true)
		checkSameMap(t, m, []impl.Pair{}, true)
		checkSameMap(t, m, pairsOf(0, 0), false)
	}
}

func TestMapOfOnePair(t *testing.T) {
	trees := append(smallTrees(4), greatTrees()...)
	for n, a := range trees {
		b := trees[(5*n+2)%len(trees)]
		for _, c := range fewCosts() {
			for _, p := range allPairs(a, b) {
				m := []impl.Pair{p}
				checkValid(t, a, b, c, m)
				if got := impl.RootsPaired(m); got != (p.A == 0 && p.B == 0) {
					t.Errorf("RootsPaired(%v) = %v", m, got)
				}
			}
		}
	}
}

func TestMapOfAllNodesOfEqualTrees(t *testing.T) {
	for _, d := range manyTrees() {
		m := samePairs(len(d.nodes))
		checkMap(t, d.nodes, slices.Clone(d.nodes), m, true)
		checkMapCost(t, d.nodes, slices.Clone(d.nodes), countedCost(110, 17), m, 0)
		if !impl.RootsPaired(m) {
			t.Errorf("RootsPaired(%v) = false", m)
		}
		if got := impl.Turned(m); !slices.Equal(got, m) {
			t.Errorf("Turned(%v) = %v", m, got)
		}
		checkComposed(t, m, m, m)
		// Each of its parts is a valid mapping, too.
		for i := range m {
			part := slices.Delete(slices.Clone(m), i, i+1)
			checkMap(t, d.nodes, d.nodes, part, true)
			checkMapCost(t, d.nodes, d.nodes, levelCost(3, 5, 7), part, 8)
			if got := impl.RootsPaired(part); got != (i > 0) {
				t.Errorf("RootsPaired(%v) = %v", part, got)
			}
			checkMap(t, d.nodes, d.nodes, m[i:], true)
			checkMap(t, d.nodes, d.nodes, m[:i], true)
		}
	}
}

// Equal depths make all nodes a valid mapping, whatever the labels are. With
// other depths, the same pairs are not valid.
func TestMapOfAllNodesOfTwoTrees(t *testing.T) {
	for size := 1; size <= 6; size++ {
		m := samePairs(size)
		for i, a := range smallTrees(6) {
			for k, b := range smallTrees(6) {
				if len(a.nodes) == size && len(b.nodes) == size {
					checkMap(t, a.nodes, sameLabel(b, i%6).nodes, m, i == k)
				}
			}
		}
	}
}

func TestRootsPairedOfAnyLists(t *testing.T) {
	cases := []struct {
		m    []impl.Pair
		want bool
	}{
		{pairsOf(0, 0), true},
		{pairsOf(0, 1), false},
		{pairsOf(1, 0), false},
		{pairsOf(1, 1), false},
		{pairsOf(0, 0, 1, 1), true},
		{pairsOf(1, 1, 0, 0), false},
		{pairsOf(0, 1, 0, 0), false},
		{pairsOf(0, 0, 0, 0), true},
		{pairsOf(0, 0, -1, -5), true},
		{pairsOf(-1, 1), false},
		{pairsOf(1, -1), false},
		{pairsOf(-1, 0, 0, 0), false},
	}
	for _, c := range cases {
		if got := impl.RootsPaired(c.m); got != c.want {
			t.Errorf("RootsPaired(%v) = %v, want %v", c.m, got, c.want)
		}
	}
	for _, x := range far {
		for _, m := range [][]impl.Pair{{{A: x}}, {{B: x}}, {{A: x, B: x}}, {{A: x, B: -x}}, {{A: x}, {}}} {
			if impl.RootsPaired(m) {
				t.Errorf("RootsPaired(%v) = true", m)
			}
		}
		if m := []impl.Pair{{}, {A: x, B: x}}; !impl.RootsPaired(m) {
			t.Errorf("RootsPaired(%v) = false", m)
		}
	}
}

func TestMapCostOfSomeMappings(t *testing.T) {
	level := levelCost(3, 5, 7)
	cases := []struct {
		a, b string
		c    impl.Cost
		m    []impl.Pair
		want int
	}{
		{"div", "div", level, nil, 8},
		{"div", "div", level, pairsOf(0, 0), 0},
		{"div", "p", level, pairsOf(0, 0), 7},
		{"div(p)", "p", level, pairsOf(1, 0), 3},
		{"div(p)", "p", level, pairsOf(0, 0), 10},
		{"p", "div(p)", level, pairsOf(0, 1), 5},
		{"p", "div(p)", level, pairsOf(0, 0), 12},
		{"div(p(a b) ul)", "div(a b li)", evenCost(1), pairsOf(0, 0, 2, 1, 3, 2, 4, 3), 2},
		{"div(p(a b) ul)", "div(a b li)", evenCost(1), nil, 9},
		{"div(p(a b) ul)", "div(a b li)", level, pairsOf(0, 0, 2, 1, 3, 2, 4, 3), 10},
		{"div(p(a b) ul)", "div(a b li)", level, nil, 35},
		{"div(p(a b) ul)", "div(a b li)", level, pairsOf(1, 1, 4, 2), 3*3 + 2*5 + 14},
		{"div(p(a b) ul)", "div(a b li)", evenCost(0), pairsOf(1, 1), 0},
	}
	for _, c := range cases {
		checkMapCost(t, treeIn(c.a), treeIn(c.b), c.c, c.m, c.want)
	}
}

// Which label of a pair is the old one, and which costs are for which tree.
func TestMapCostTakesEachCostFromItsTable(t *testing.T) {
	a, b := treeIn("div(p)"), treeIn("ul(a)")
	c := levelCost(100, 200, 50)
	c.Rel[6*1+2], c.Rel[6*0+3], c.Rel[6*0+2], c.Rel[6*1+3] = 7, 11, 13, 17
	c.Del[0], c.Del[1], c.Ins[3], c.Ins[2] = 60, 61, 70, 71
	checkMapCost(t, a, b, c, nil, 60+61+70+71)
	checkMapCost(t, a, b, c, pairsOf(0, 0), 11+61+71)
	checkMapCost(t, a, b, c, pairsOf(1, 1), 7+60+70)
	checkMapCost(t, a, b, c, pairsOf(0, 1), 13+61+70)
	checkMapCost(t, a, b, c, pairsOf(1, 0), 17+60+71)
	checkMapCost(t, a, b, c, pairsOf(0, 0, 1, 1), 18)
	checkMapCost(t, b, a, c, pairsOf(0, 0, 1, 1), 100)
	for from := range 6 {
		for to := range 6 {
			one, other := []impl.Node{{Label: from}}, []impl.Node{{Label: to}}
			for _, c := range distCosts() {
				checkMapCost(t, one, other, c, pairsOf(0, 0), c.Rel[6*from+to])
				checkMapCost(t, one, other, c, nil, c.Del[from]+c.Ins[to])
			}
		}
	}
}

func TestMapCostOfAllMappings(t *testing.T) {
	for _, a := range smallTrees(4) {
		for _, b := range smallTrees(4) {
			for _, m := range mappings(a, b) {
				for _, c := range distCosts() {
					checkValid(t, a, b, c, m)
				}
			}
		}
	}
	for _, a := range smallTrees(5) {
		for n, b := range smallTrees(5) {
			for _, m := range mappings(a, b) {
				checkValid(t, a, b, fewCosts()[n%4], m)
			}
		}
	}
}

func TestMapCostOfGreatTrees(t *testing.T) {
	trees := greatTrees()
	for n, a := range trees {
		for k, b := range trees {
			for seed := range uint32(3) {
				m := someMapping(a, b, uint32(100*n+k)+10000*seed)
				checkValid(t, a, b, distCosts()[(n+2*k+int(seed))%len(distCosts())], m)
			}
		}
	}
}

// The least of these costs are the distances, which chapter 8 finds.
func TestMapCostIsNoLessThanTheDistance(t *testing.T) {
	for _, a := range smallTrees(4) {
		for _, b := range smallTrees(4) {
			maps := mappings(a, b)
			for _, c := range distCosts() {
				all, rooted := math.MaxInt, math.MaxInt
				for _, m := range maps {
					cost := impl.MapCost(a.nodes, b.nodes, c, m)
					all = min(all, cost)
					if impl.RootsPaired(m) {
						rooted = min(rooted, cost)
					}
				}
				if got := impl.TreeDist(a.nodes, b.nodes, c); got != all {
					t.Errorf("TreeDist(%v, %v, %v) = %d, but the least MapCost is %d", a.nodes, b.nodes, c, got, all)
				}
				if got := impl.RootDist(a.nodes, b.nodes, c); got != rooted {
					t.Errorf("RootDist(%v, %v, %v) = %d, but the least MapCost is %d", a.nodes, b.nodes, c, got, rooted)
				}
			}
		}
	}
}

// checkChain holds the composition of two valid mappings to the way of each node,
// and to being a valid mapping of the first tree and the last one.
func checkChain(t *testing.T, a *drawn, b *drawn, c *drawn, m []impl.Pair, n []impl.Pair) {
	t.Helper()
	var want []impl.Pair
	for x := range a.nodes {
		if y := imageOf(m, x); y >= 0 && imageOf(n, y) >= 0 {
			want = append(want, impl.Pair{A: x, B: imageOf(n, y)})
		}
	}
	got := impl.Composed(m, n)
	if !slices.Equal(got, want) {
		t.Fatalf("Composed(%v, %v) = %v, want %v", m, n, got, want)
	}
	if !impl.MapOk(a.nodes, c.nodes, got) || !isMapping(a, c, got) {
		t.Fatalf("%v of %v and %v over %v is no mapping", got, a.nodes, c.nodes, b.nodes)
	}
}

func TestComposedOfAllMappings(t *testing.T) {
	trees := smallTrees(4)
	for _, a := range trees {
		for _, b := range trees {
			there := mappings(a, b)
			for _, c := range trees {
				onward := mappings(b, c)
				for _, m := range there {
					for _, n := range onward {
						checkChain(t, a, b, c, m, n)
					}
				}
			}
		}
	}
}

func TestComposedOfGreatMappings(t *testing.T) {
	trees := greatTrees()
	for i, a := range trees {
		for k, b := range trees {
			c, d := trees[(3*i+5*k+1)%len(trees)], trees[(5*i+3*k+2)%len(trees)]
			m := someMapping(a, b, uint32(100*i+k))
			n := someMapping(b, c, uint32(100*k+i)+7)
			o := someMapping(c, d, uint32(100*k+i)+5000)
			checkChain(t, a, b, c, m, n)
			checkChain(t, a, b, a, m, impl.Turned(m))
			checkComposed(t, impl.Composed(m, n), o, impl.Composed(m, impl.Composed(n, o)))
			checkComposed(t, impl.Turned(n), impl.Turned(m), impl.Turned(impl.Composed(m, n)))
			checkComposed(t, m, samePairs(len(b.nodes)), m)
			checkComposed(t, samePairs(len(a.nodes)), m, m)
			as, bs := nodesOf(m)
			checkComposed(t, m, impl.Turned(m), pairsOf(doubled(as)...))
			checkComposed(t, impl.Turned(m), m, pairsOf(doubled(bs)...))
		}
	}
}

func doubled(list []int) []int {
	var out []int
	for _, n := range list {
		out = append(out, n, n)
	}
	return out
}

// With unit costs, the way over a tree in between costs no less than the mapping
// that it comes to.
func TestComposedCostsNoMore(t *testing.T) {
	unit := impl.UnitCost()
	trees := greatTrees()
	for i, a := range trees {
		for k, b := range trees {
			c := trees[(3*i+5*k+1)%len(trees)]
			m, n := someMapping(a, b, uint32(100*i+k)), someMapping(b, c, uint32(100*k+i)+7)
			there, onward := impl.MapCost(a.nodes, b.nodes, unit, m), impl.MapCost(b.nodes, c.nodes, unit, n)
			whole := impl.MapCost(a.nodes, c.nodes, unit, impl.Composed(m, n))
			if there < 0 || onward < 0 || whole < 0 || whole > there+onward {
				t.Errorf("%v and %v cost %d and %d, but composed %d", m, n, there, onward, whole)
			}
		}
	}
}

// Every list, whether or not it is a valid mapping, with elements that match
// none, one and several of the other list.
func TestComposedOfAllLists(t *testing.T) {
	var lists [][]impl.Pair
	eachList(pairsOf(0, 0, 0, 1, 1, 0, 1, 1, -1, 2, 2, -1), 3, func(m []impl.Pair) {
		lists = append(lists, slices.Clone(m))
	})
	for _, m := range lists {
		for _, n := range lists {
			var want []impl.Pair
			for _, p := range m {
				for _, q := range n {
					if p.B == q.A {
						want = append(want, impl.Pair{A: p.A, B: q.B})
					}
				}
			}
			checkComposed(t, m, n, want)
		}
	}
}

func TestComposedOfSomeLists(t *testing.T) {
	cases := []struct {
		m, n, want []impl.Pair
	}{
		{pairsOf(0, 1), pairsOf(1, 2), pairsOf(0, 2)},
		{pairsOf(0, 1), pairsOf(0, 1), nil},
		{pairsOf(0, 1), pairsOf(2, 1), nil},
		{pairsOf(1, 0), pairsOf(1, 0), nil},
		{pairsOf(5, 3), pairsOf(3, 9, 4, 9, 3, 8, 3, 9), pairsOf(5, 9, 5, 8, 5, 9)},
		{pairsOf(5, 3, 4, 3, 5, 3), pairsOf(3, 9), pairsOf(5, 9, 4, 9, 5, 9)},
		{pairsOf(5, 3, 4, 3), pairsOf(3, 9, 3, 8), pairsOf(5, 9, 5, 8, 4, 9, 4, 8)},
		{pairsOf(2, 7, 1, 6), pairsOf(6, 0, 7, 1), pairsOf(2, 1, 1, 0)},
		{pairsOf(-3, -4), pairsOf(-4, -5, 4, 5), pairsOf(-3, -5)},
		{pairsOf(0, 1<<32), pairsOf(0, 7, 1<<32, 8), pairsOf(0, 8)},
		{pairsOf(0, 256), pairsOf(0, 7), nil},
		{pairsOf(math.MinInt, math.MaxInt, 1, math.MinInt), pairsOf(math.MaxInt, math.MinInt, math.MinInt, 2), pairsOf(math.MinInt, math.MinInt, 1, 2)},
	}
	for _, c := range cases {
		checkComposed(t, c.m, c.n, c.want)
	}
}

// Lists that are far longer than any mapping.
func TestMapOfLongLists(t *testing.T) {
	const size = 30000
	up, down := make([]impl.Pair, size), make([]impl.Pair, size)
	for i := range size {
		up[i] = impl.Pair{A: i, B: i + 1}
		down[i] = impl.Pair{A: size - i, B: -i}
	}
	var want []impl.Pair
	for i := range size {
		want = append(want, impl.Pair{A: i, B: i + 1 - size})
	}
	checkComposed(t, up, down, want)
	if back := impl.Turned(impl.Turned(down)); !slices.Equal(back, down) {
		t.Error("a long list is not the same, turned twice")
	}
	checkSameMap(t, up, slices.Clone(up), true)
	checkSameMap(t, up, up[:size-1], false)
	full := draw(star(impl.MaxNodes)).nodes
	checkNoMap(t, full, full, up)
	checkNoMap(t, full, full, samePairs(size))
	checkNoMap(t, full, full, make([]impl.Pair, size))
}

func TestTurnedOfAnyLists(t *testing.T) {
	check := func(m []impl.Pair) {
		t.Helper()
		as, bs := nodesOf(m)
		got := impl.Turned(m)
		gotA, gotB := nodesOf(got)
		if len(got) != len(m) || !slices.Equal(gotA, bs) || !slices.Equal(gotB, as) {
			t.Fatalf("Turned(%v) = %v", m, got)
		}
		if again := impl.Turned(got); !slices.Equal(again, m) {
			t.Fatalf("%v became %v, turned twice", m, again)
		}
	}
	eachList(pairsOf(0, 0, 0, 1, 1, 0, 1, 2, -1, 2, 30, -7), 4, check)
	for _, x := range far {
		for _, y := range far {
			check(pairsOf(x, y))
			check(pairsOf(0, 0, x, y, y, x, x, y))
		}
	}
}

func TestSameMapOfAllLists(t *testing.T) {
	var lists [][]impl.Pair
	eachList(pairsOf(0, 0, 0, 1, 1, 0, 1, 1, -1, 2), 3, func(m []impl.Pair) {
		lists = append(lists, slices.Clone(m))
	})
	for i, m := range lists {
		for k, n := range lists {
			if got := impl.SameMap(m, n); got != (i == k) {
				t.Fatalf("SameMap(%v, %v) = %v", m, n, got)
			}
		}
	}
}

func TestSameMapOneDifference(t *testing.T) {
	for _, m := range [][]impl.Pair{pairsOf(0, 0), pairsOf(0, 0, 2, 1, 3, 2, 4, 3), pairsOf(7, -2, 7, -2), samePairs(24), samePairs(40), pairsOf(math.MinInt, math.MaxInt)} {
		checkSameMap(t, m, slices.Clone(m), true)
		for i, p := range m {
			for _, d := range []int{1, -1, 256, 1 << 32, math.MinInt} {
				n := slices.Clone(m)
				n[i].A = p.A + d
				checkSameMap(t, m, n, false)
				n[i] = impl.Pair{A: p.A, B: p.B + d}
				checkSameMap(t, m, n, false)
				n[i] = impl.Pair{A: p.A + d, B: p.B - d}
				checkSameMap(t, m, n, false)
			}
			checkSameMap(t, m, m[:i], false)
			checkSameMap(t, m, m[i+1:], false)
			checkSameMap(t, m, slices.Insert(slices.Clone(m), i, p), false)
			checkSameMap(t, m, slices.Delete(slices.Clone(m), i, i+1), false)
		}
		checkSameMap(t, m, append(slices.Clone(m), impl.Pair{}), false)
		checkSameMap(t, m, append(slices.Clone(m), m[len(m)-1]), false)
		checkSameMap(t, m, nil, false)
	}
	checkSameMap(t, pairsOf(0, 1), pairsOf(1, 0), false)
	checkSameMap(t, pairsOf(0, 0, 1, 1), pairsOf(1, 1, 0, 0), false)
}

func TestMapMostNodesAndGreatestDepth(t *testing.T) {
	for n, d := range limitTrees() {
		m := samePairs(len(d.nodes))
		checkValid(t, d, d, fewCosts()[n%4], m)
		for k, other := range limitTrees() {
			checkValid(t, d, other, fewCosts()[k%4], someMapping(d, other, uint32(10*n+k)))
		}
		if len(d.nodes) == impl.MaxNodes {
			more := append(slices.Clone(d.nodes), impl.Node{Depth: 1})
			checkNoMapOf(t, more, d.nodes)
			checkNoMap(t, more, more, m)
			checkNoMap(t, d.nodes, more, m)
			checkNoMap(t, more, d.nodes, m)
		}
		checkNoMapOf(t, draw(chain(impl.MaxDepth+1)).nodes, d.nodes)
		checkNoMapOf(t, draw(star(impl.MaxNodes+1)).nodes, d.nodes)
	}
	// The deepest node and the last one are nodes like any others.
	deep, wide := draw(chain(impl.MaxDepth)), draw(star(impl.MaxNodes))
	last := []impl.Pair{{A: impl.MaxDepth, B: impl.MaxNodes - 1}}
	checkValid(t, deep, wide, levelCost(3, 5, 7), last)
	checkValid(t, deep, wide, levelCost(3, 5, 7), append(pairsOf(0, 0), last...))
	checkBothWays(t, deep.nodes, wide.nodes, append(pairsOf(1, 1), last...), false)
	checkNoMap(t, deep.nodes, wide.nodes, pairsOf(impl.MaxDepth+1, 0))
	checkNoMap(t, deep.nodes, wide.nodes, pairsOf(0, impl.MaxNodes))
}

func TestMapCostLargestCosts(t *testing.T) {
	for _, n := range []int{1, 2, 12, impl.MaxNodes} {
		a, b := sameLabel(draw(star(n)), 0).nodes, sameLabel(draw(star(n)), 1).nodes
		most := evenCost(impl.MaxCost)
		checkMapCost(t, a, b, most, nil, 2*n*impl.MaxCost)
		checkMapCost(t, a, a, most, nil, 2*n*impl.MaxCost)
		checkMapCost(t, a, b, most, samePairs(n), n*impl.MaxCost)
		checkMapCost(t, a, a, most, samePairs(n), 0)
		checkMapCost(t, a, b, most, samePairs(n)[:1], (2*n-1)*impl.MaxCost)
		checkMapCost(t, a, b, levelCost(impl.MaxCost, 0, 0), nil, n*impl.MaxCost)
		checkMapCost(t, a, b, levelCost(0, impl.MaxCost, 0), nil, n*impl.MaxCost)
		checkMapCost(t, a, b, levelCost(0, 0, impl.MaxCost), nil, 0)
		checkMapCost(t, a, b, levelCost(0, 0, impl.MaxCost), samePairs(n), n*impl.MaxCost)
		checkMapCost(t, a, b, evenCost(impl.MaxCost+1), nil, -1)
		checkMapCost(t, a, a, evenCost(impl.MaxCost+1), samePairs(n), -1)
	}
}

func TestMapCostBeyondItsLimit(t *testing.T) {
	some := append(smallTrees(2), limitTrees()...)
	for _, c := range someCosts() {
		for table, size := range tableSizes {
			for i := range size {
				for _, d := range some {
					for _, n := range []int{impl.MaxCost + 1, -1} {
						checkMapCost(t, d.nodes, d.nodes, withElement(c, table, i, n), nil, -1)
						checkMapCost(t, d.nodes, d.nodes, withElement(c, table, i, n), samePairs(len(d.nodes)), -1)
					}
				}
			}
		}
	}
}

// The nodes need none of the numbers that are wrong, but all of them count.
func TestMapCostInvalidCosts(t *testing.T) {
	for _, c := range invalidCosts() {
		for _, d := range []*drawn{draw(star(1)), draw(chain(2)), draw(star(impl.MaxNodes))} {
			for _, m := range [][]impl.Pair{nil, pairsOf(0, 0), samePairs(len(d.nodes)), samePairs(len(d.nodes) + 1)} {
				checkMapCost(t, d.nodes, d.nodes, c, m, -1)
				checkMapCost(t, d.nodes, treeIn("p"), c, m, -1)
				checkMapCost(t, treeIn("p"), d.nodes, c, m, -1)
				checkMapCost(t, d.nodes, nil, c, m, -1)
			}
		}
		checkMapCost(t, nil, nil, c, nil, -1)
	}
}

// Costs that would be 0 in sum do not make an invalid mapping valid.
func TestMapCostInvalidMapping(t *testing.T) {
	a, b := treeIn("div(p(a b) ul)"), treeIn("div(a b li)")
	for _, c := range distCosts() {
		for _, m := range [][]impl.Pair{
			pairsOf(2, 2, 3, 1), pairsOf(1, 1, 2, 2), pairsOf(0, 0, 0, 0), pairsOf(0, 0, 0, 1), pairsOf(0, 0, 1, 0), pairsOf(1, 1, 0, 0),
			pairsOf(5, 0), pairsOf(0, 4), pairsOf(-1, 0), pairsOf(0, -1), pairsOf(math.MaxInt, math.MinInt), samePairs(5),
		} {
			checkMapCost(t, a, b, c, m, -1)
		}
	}
}

func TestMapInvalidTrees(t *testing.T) {
	others := [][]impl.Node{treeIn("div"), treeIn("p(a(ul) b)"), draw(star(impl.MaxNodes)).nodes, nil, depthsOf(0, 1, 0)}
	for _, l := range append(invalidTrees(), nil, []impl.Node{}) {
		for _, other := range others {
			checkNoMapOf(t, l, other)
		}
		checkMapCost(t, l, treeIn("div"), impl.Cost{}, nil, -1)
		checkMapCost(t, treeIn("div"), l, impl.Cost{}, nil, -1)
	}
}

// callMapFunctions calls every function of chapter 10 that has a list of pairs.
func callMapFunctions(a []impl.Node, b []impl.Node, c impl.Cost, m []impl.Pair, n []impl.Pair) {
	impl.MapOk(a, b, m)
	impl.RootsPaired(m)
	impl.MapCost(a, b, c, m)
	impl.Turned(m)
	impl.Composed(m, n)
	impl.SameMap(m, n)
}

// heldPairs returns a copy of a list that has unused capacity, and the list with
// it.
func heldPairs(m []impl.Pair) ([]impl.Pair, []impl.Pair) {
	full := append(slices.Clone(m), pairsOf(77, -77, 0, 0, 1, 1)...)
	return full[:len(m)], full
}

func TestMapArgumentsStayAsTheyAre(t *testing.T) {
	other := treeIn("p(a(ul) b)")
	checkArgumentStays(t, func(l []impl.Node) {
		for _, m := range [][]impl.Pair{nil, pairsOf(0, 0), samePairs(len(l)), pairsOf(0, 0, 1, 2)} {
			callMapFunctions(l, other, evenCost(1), m, m)
			callMapFunctions(other, l, evenCost(1), m, m)
			callMapFunctions(l, l, evenCost(1), m, m)
		}
	})
	if !slices.Equal(other, treeIn("p(a(ul) b)")) {
		t.Errorf("p(a(ul) b) became %v", other)
	}
	for _, c := range append(distCosts(), invalidCosts()...) {
		held, full := heldCost(c)
		callMapFunctions(other, other, held, samePairs(4), nil)
		_, want := heldCost(c)
		if !slices.EqualFunc(full, want, slices.Equal[[]int]) {
			t.Errorf("%v became %v", want, full)
		}
	}
}

func TestMapPairsStayAsTheyAre(t *testing.T) {
	other := treeIn("p(a(ul) b)")
	eachList(pairsOf(0, 0, 1, 1, 2, 1, 3, 3, -1, 5), 4, func(list []impl.Pair) {
		m, fullM := heldPairs(list)
		n, fullN := heldPairs(impl.Turned(list))
		_, wantM := heldPairs(list)
		_, wantN := heldPairs(impl.Turned(list))
		callMapFunctions(other, other, evenCost(1), m, n)
		callMapFunctions(other, other, evenCost(1), n, m)
		if !slices.Equal(fullM, wantM) || !slices.Equal(fullN, wantN) {
			t.Fatalf("%v and %v became %v and %v", wantM, wantN, fullM, fullN)
		}
	})
}

// spoilPairs overwrites a result, to show what else changes with it.
func spoilPairs(m []impl.Pair) {
	m = m[:cap(m)]
	for i := range m {
		m[i] = impl.Pair{A: -9, B: -9}
	}
}

func TestMapResultsAreNewMemory(t *testing.T) {
	eachList(pairsOf(0, 0, 1, 1, 2, 1, 1, 2), 4, func(list []impl.Pair) {
		m, fullM := heldPairs(list)
		n, fullN := heldPairs(samePairs(3))
		wantM, wantN := slices.Clone(fullM), slices.Clone(fullN)
		results := func() [][]impl.Pair {
			return [][]impl.Pair{impl.Turned(m), impl.Composed(m, n), impl.Composed(n, m), impl.Composed(m, m)}
		}
		first, second := results(), results()
		for _, result := range first {
			spoilPairs(result)
		}
		if !slices.Equal(fullM, wantM) || !slices.Equal(fullN, wantN) {
			t.Fatalf("%v and %v became %v and %v", wantM, wantN, fullM, fullN)
		}
		if third := results(); !slices.EqualFunc(second, third, slices.Equal[[]impl.Pair]) {
			t.Fatalf("%v became %v", second, third)
		}
	})
}

// Nodes, costs and pairs in the unused capacity of a list do not count.
func TestMapUnusedCapacityDoesNotCount(t *testing.T) {
	for _, d := range append(smallTrees(4), limitTrees()...) {
		size := len(d.nodes)
		l := append(slices.Clone(d.nodes), impl.Node{Depth: 1})[:size]
		m, _ := heldPairs(samePairs(size))
		for _, c := range fewCosts() {
			held, _ := heldCost(c)
			checkMapCost(t, l, l, held, m, 0)
			checkMapCost(t, l, d.nodes, held, m[:size-1], c.Del[d.nodes[size-1].Label]+c.Ins[d.nodes[size-1].Label])
			for table, list := range tablesOf(c) {
				checkMapCost(t, l, l, withTable(c, table, list[:len(list)-1]), m, -1)
			}
		}
		checkBothWays(t, l, d.nodes, m, true)
		checkNoMap(t, l, l, samePairs(size+1))
		checkSameMap(t, m, samePairs(size), true)
		checkComposed(t, m, m, samePairs(size))
		if got := impl.Turned(m); !slices.Equal(got, samePairs(size)) {
			t.Errorf("Turned(%v) = %v", m, got)
		}
	}
}
