package tests

import (
	"math"
	"slices"
	"strings"
	"testing"

	"loop.example/g01618/impl"
)

// Promise 2: trees, costs, scripts and operations can be read from their
// binary and text formats; nothing else is accepted. These tests hold it for
// the binary format of a tree of chapter 4.

// treeBytes returns the binary format of a valid tree. All its numbers are less
// than 128, so the varint of each is one byte.
func treeBytes(l []impl.Node) string {
	s := []byte{byte(len(l))}
	for _, x := range l {
		s = append(s, byte(x.Label), byte(x.Depth))
	}
	return string(s)
}

// withNumber returns a format of one byte for each number with the number at
// index i replaced by n.
func withNumber(s string, i int, n int) string {
	return s[:i] + impl.Var(n) + s[i+1:]
}

func checkGetTree(t *testing.T, s string, want []impl.Node) {
	t.Helper()
	l, code := impl.GetTree(s)
	if code != impl.TrOk || !slices.Equal(l, want) {
		t.Errorf("GetTree(%q) = %v, %d, want %v", s, l, code, want)
	}
}

func checkTreeError(t *testing.T, s string, want int) {
	t.Helper()
	l, code := impl.GetTree(s)
	if code != want || len(l) != 0 {
		t.Errorf("GetTree(%q) = %v, %d, want no nodes and %d", s, l, code, want)
	}
}

// checkOnlyFormats holds GetTree to accepting s exactly if PutTree returns s
// for the valid tree that GetTree returns, and to no nodes otherwise.
func checkOnlyFormats(t *testing.T, s string) {
	t.Helper()
	l, code := impl.GetTree(s)
	if code == impl.TrOk && (!impl.TreeOk(l) || impl.PutTree(l) != s) {
		t.Errorf("GetTree(%q) = %v, of which PutTree returns %q", s, l, impl.PutTree(l))
	}
	if code != impl.TrOk && (len(l) != 0 || impl.TreeCode(code) == "") {
		t.Errorf("GetTree(%q) = %v, %d", s, l, code)
	}
}

func TestTreeFormatBytes(t *testing.T) {
	cases := []struct {
		l []impl.Node
		s string
	}{
		{[]impl.Node{{}}, "\x01\x00\x00"},
		{[]impl.Node{{Label: 5}}, "\x01\x05\x00"},
		{[]impl.Node{{Label: 0}, {Label: 5, Depth: 1}}, "\x02\x00\x00\x05\x01"},
		{[]impl.Node{{Label: 0}, {Label: 1, Depth: 1}, {Label: 2, Depth: 2}, {Label: 5, Depth: 1}}, "\x04\x00\x00\x01\x01\x02\x02\x05\x01"},
		{[]impl.Node{{Label: 4}, {Label: 3, Depth: 1}, {Label: 3, Depth: 2}, {Label: 3, Depth: 2}}, "\x04\x04\x00\x03\x01\x03\x02\x03\x02"},
	}
	for _, c := range cases {
		if got := impl.PutTree(c.l); got != c.s {
			t.Errorf("PutTree(%v) = %q, want %q", c.l, got, c.s)
		}
		checkGetTree(t, c.s, c.l)
	}
}

func TestTreeFormatOfManyTrees(t *testing.T) {
	for _, d := range manyTrees() {
		s := impl.PutTree(d.nodes)
		if want := treeBytes(d.nodes); s != want {
			t.Fatalf("PutTree(%v) = %q, want %q", d.nodes, s, want)
		}
		checkGetTree(t, s, d.nodes)
	}
}

func TestTreeFormatEachLabelAtEachNode(t *testing.T) {
	for _, d := range append(smallTrees(4), limitTrees()...) {
		for i := range d.nodes {
			for label := range impl.MaxLabels {
				l := slices.Clone(d.nodes)
				l[i].Label = label
				if got, want := impl.PutTree(l), treeBytes(l); got != want {
					t.Errorf("PutTree(%v) = %q, want %q", l, got, want)
				}
				checkGetTree(t, treeBytes(l), l)
			}
		}
	}
}

// labeled returns the list with every choice of labels for its nodes.
func labeled(l []impl.Node) [][]impl.Node {
	out := [][]impl.Node{slices.Clone(l)}
	for i := range l {
		var more [][]impl.Node
		for _, x := range out {
			for label := range impl.MaxLabels {
				y := slices.Clone(x)
				y[i].Label = label
				more = append(more, y)
			}
		}
		out = more
	}
	return out
}

func TestGetTreeAcceptsNothingElse(t *testing.T) {
	trees := map[string][]impl.Node{}
	for _, d := range smallTrees(4) {
		for _, l := range labeled(d.nodes) {
			trees[treeBytes(l)] = l
		}
	}
	if want := 6 + 36 + 2*216 + 5*1296; len(trees) != want {
		t.Fatalf("%d formats of %d trees", len(trees), want)
	}
	for s, l := range trees {
		checkGetTree(t, s, l)
	}
	for _, s := range stringsOver("\x00\x01\x02\x03\x05\x06\x0d\x80", 7) {
		l, code := impl.GetTree(s)
		want, ok := trees[s]
		if (code == impl.TrOk) != ok || !slices.Equal(l, want) {
			t.Fatalf("GetTree(%q) = %v, %d, want %v", s, l, code, want)
		}
	}
}

func TestTreeFormatCutOff(t *testing.T) {
	checkTreeError(t, "", impl.TrShort)
	for _, d := range manyTrees() {
		s := impl.PutTree(d.nodes)
		for i := range len(s) {
			checkTreeError(t, s[:i], impl.TrShort)
		}
		// A last byte that announces another one.
		checkTreeError(t, s[:len(s)-1]+"\x80", impl.TrShort)
	}
}

func TestTreeFormatOneExtraByte(t *testing.T) {
	for _, d := range manyTrees() {
		s := impl.PutTree(d.nodes)
		for b := range 256 {
			checkTreeError(t, s+string([]byte{byte(b)}), impl.TrLeft)
		}
	}
}

func TestTreeFormatMoreAtTheEnd(t *testing.T) {
	rests := []string{"\x00\x00", "\x00\x01", "\x80\x80", "\x80\x00", "\xff\xff\xff", "\n", " ", strings.Repeat("\x00", 100)}
	for _, d := range append(smallTrees(5), limitTrees()...) {
		s := impl.PutTree(d.nodes)
		for _, rest := range append(rests, s) {
			checkTreeError(t, s+rest, impl.TrLeft)
		}
		checkTreeError(t, "\x00"+s, impl.TrSize)
	}
}

func TestTreeFormatOneByteChanged(t *testing.T) {
	for _, d := range append(smallTrees(5), limitTrees()...) {
		s := impl.PutTree(d.nodes)
		for i := range len(s) {
			for b := range 256 {
				changed := s[:i] + string([]byte{byte(b)}) + s[i+1:]
				checkOnlyFormats(t, changed)
				want := codeAfterChange(d.nodes, i, b)
				if l, code := impl.GetTree(changed); code != want {
					t.Errorf("GetTree(%q) = %v, %d, want %d", changed, l, code, want)
				}
			}
		}
	}
}

// codeAfterChange returns the code of the first error in the format of a valid
// tree whose byte i is b instead.
func codeAfterChange(l []impl.Node, i int, b int) int {
	if b >= 128 {
		return codeAfterJoining(l, i, b)
	}
	node, isDepth := (i-1)/2, i%2 == 0
	switch {
	case i == 0 && (b < 1 || b > impl.MaxNodes):
		return impl.TrSize
	case i == 0 && b > len(l):
		return impl.TrShort
	case i == 0 && b < len(l):
		return impl.TrLeft
	case i == 0:
		return impl.TrOk
	case !isDepth && b >= impl.MaxLabels:
		return impl.TrLabel
	case !isDepth:
		return impl.TrOk
	case b > impl.MaxDepth:
		return impl.TrDepth
	case node == 0 && b != 0 || node > 0 && (b == 0 || b > l[node-1].Depth+1):
		return impl.TrShape
	case node+1 < len(l) && l[node+1].Depth > b+1:
		return impl.TrShape
	}
	return impl.TrOk
}

// codeAfterJoining is codeAfterChange for a byte that makes one number of itself
// and the byte behind it. The number is at least 128, unless the byte behind is
// 0, which makes it longer than necessary.
func codeAfterJoining(l []impl.Node, i int, b int) int {
	s := treeBytes(l)
	if i == len(s)-1 || s[i+1] == 0 {
		return impl.TrShort
	}
	if i == 0 {
		return impl.TrSize
	}
	if i%2 == 1 {
		return impl.TrLabel
	}
	return impl.TrDepth
}

func TestTreeFormatNumberOfNodes(t *testing.T) {
	one := "\x00\x00"
	for n := 1; n <= impl.MaxNodes; n++ {
		l := draw(star(n)).nodes
		checkGetTree(t, treeBytes(l), l)
	}
	for _, n := range []int{0, 25, 26, 100, 127, 128, 256, 256 + 1, 256 + 24, 1 << 16, 1<<32 + 1, impl.MaxVar} {
		// Nodes for any number, no nodes at all, and nodes with errors.
		for _, rest := range []string{"", one, one + "\x00\x01", one + strings.Repeat("\x00\x01", n%1000), "\x06\x0d", "\x80"} {
			checkTreeError(t, impl.Var(n)+rest, impl.TrSize)
		}
	}
}

func TestTreeFormatNumberBeyondItsLimit(t *testing.T) {
	// Some of these become valid if their high bits are cut off.
	great := []int{127, 128, 129, 255, 256, 257, 1 << 14, 1 << 16, 1 << 32, 1<<32 + 1, impl.MaxVar - 1, impl.MaxVar}
	for _, d := range append(smallTrees(4), limitTrees()...) {
		s := impl.PutTree(d.nodes)
		for i := range len(s) {
			code, least := impl.TrDepth, impl.MaxDepth+1
			if i == 0 {
				code, least = impl.TrSize, impl.MaxNodes+1
			} else if i%2 == 1 {
				code, least = impl.TrLabel, impl.MaxLabels
			}
			for _, n := range append([]int{least, least + 1}, great...) {
				checkTreeError(t, withNumber(s, i, n), code)
				// What follows the error does not matter.
				checkTreeError(t, withNumber(s[:i+1], i, n), code)
				checkTreeError(t, withNumber(s[:i+1], i, n)+"\x80", code)
			}
		}
	}
}

func TestTreeFormatGreatestDepth(t *testing.T) {
	l := draw(chain(impl.MaxDepth)).nodes
	checkGetTree(t, treeBytes(l), l)
	// Depth 13 directly below depth 12 is possible at this position, but too
	// great; below a lesser depth it is both, and the limit comes first.
	checkTreeError(t, treeBytes(draw(chain(impl.MaxDepth+1)).nodes), impl.TrDepth)
	checkTreeError(t, "\x01\x00\x0d", impl.TrDepth)
	checkTreeError(t, "\x02\x00\x00\x00\x0d", impl.TrDepth)
	// Depth 12 is within the limit, but not possible here.
	checkTreeError(t, "\x01\x00\x0c", impl.TrShape)
	checkTreeError(t, "\x02\x00\x00\x00\x0c", impl.TrShape)
}

func TestTreeFormatDepthNotPossible(t *testing.T) {
	for _, depths := range [][]int{
		{1}, {2}, {12}, {1, 0}, {1, 1}, {1, 2},
		{0, 0}, {0, 0, 1}, {0, 1, 0}, {0, 1, 0, 1}, {0, 1, 2, 0},
		{0, 2}, {0, 2, 1}, {0, 1, 3}, {0, 1, 2, 4}, {0, 1, 1, 3}, {0, 1, 2, 1, 3}, {0, 12}, {0, 1, 12},
	} {
		checkTreeError(t, treeBytes(depthsOf(depths...)), impl.TrShape)
	}
	for _, d := range manyTrees() {
		s := impl.PutTree(d.nodes)
		for depth := 1; depth <= impl.MaxDepth; depth++ {
			checkTreeError(t, withNumber(s, 2, depth), impl.TrShape)
		}
		for i := 1; i < len(d.nodes); i++ {
			checkTreeError(t, withNumber(s, 2*i+2, 0), impl.TrShape)
			for depth := d.nodes[i-1].Depth + 2; depth <= impl.MaxDepth; depth++ {
				checkTreeError(t, withNumber(s, 2*i+2, depth), impl.TrShape)
			}
		}
	}
}

func TestTreeFormatNumberLongerThanNecessary(t *testing.T) {
	for _, d := range append(smallTrees(5), limitTrees()...) {
		s := impl.PutTree(d.nodes)
		for i := range len(s) {
			first := string([]byte{s[i] | 128})
			for zeros := range 8 {
				long := first + strings.Repeat("\x80", zeros) + "\x00"
				checkTreeError(t, s[:i]+long+s[i+1:], impl.TrShort)
			}
			// Longer than any number that ReadVar reads.
			for _, long := range []string{strings.Repeat("\x80", 7) + "\x01", strings.Repeat("\xff", 7) + "\x7f", strings.Repeat("\x80", 100)} {
				checkTreeError(t, s[:i]+long+s[i+1:], impl.TrShort)
			}
		}
	}
}

// Each input has two errors; the one whose bytes come first decides.
func TestTreeFormatFirstOfTwoErrors(t *testing.T) {
	cases := []struct {
		s    string
		want int
	}{
		// Number of nodes and then a missing number, a label, a depth, a shape,
		// or bytes that are left.
		{"\x00", impl.TrSize}, {"\x19", impl.TrSize}, {"\x00\x80", impl.TrSize},
		{"\x19\x06\x00", impl.TrSize}, {"\x19\x00\x0d", impl.TrSize}, {"\x00\x00\x01", impl.TrSize}, {"\x00\x00", impl.TrSize},
		// A number of nodes that cannot be read and then each other error.
		{"\x80\x00", impl.TrShort}, {"\x99\x00\x06\x00", impl.TrShort}, {"\x81\x00\x00\x0d", impl.TrShort}, {"\x81\x00\x00\x00\x00", impl.TrShort},
		// A label and then each other error.
		{"\x01\x06", impl.TrLabel}, {"\x01\x06\x80", impl.TrLabel}, {"\x01\x06\x0d", impl.TrLabel}, {"\x01\x06\x01", impl.TrLabel}, {"\x01\x06\x00\x00", impl.TrLabel}, {"\x02\x06\x00", impl.TrLabel}, {"\x02\x06\x00\x00\x02", impl.TrLabel},
		// A label that cannot be read and then each other error.
		{"\x01\x80\x00\x0d", impl.TrShort}, {"\x01\x86\x00\x01", impl.TrShort}, {"\x01\x80\x00\x00\x00", impl.TrShort},
		// A depth beyond the limit and then each other error.
		{"\x02\x00\x0d", impl.TrDepth}, {"\x01\x00\x0d\x00", impl.TrDepth}, {"\x02\x00\x0d\x06\x01", impl.TrDepth}, {"\x02\x00\x00\x00\x0d\x00", impl.TrDepth},
		{"\x03\x00\x00\x00\x0d\x06\x01", impl.TrDepth}, {"\x03\x00\x00\x00\x0d\x00\x00", impl.TrDepth}, {"\x03\x00\x00\x00\x0d", impl.TrDepth},
		// A depth that is not possible and then each other error.
		{"\x02\x00\x01", impl.TrShape}, {"\x01\x00\x01\x00", impl.TrShape}, {"\x02\x00\x01\x06\x01", impl.TrShape}, {"\x02\x00\x01\x00\x0d", impl.TrShape},
		{"\x03\x00\x00\x00\x02\x06\x01", impl.TrShape}, {"\x03\x00\x00\x00\x02\x00\x0d", impl.TrShape}, {"\x03\x00\x00\x00\x00", impl.TrShape}, {"\x02\x00\x00\x00\x00\x00", impl.TrShape},
		// A depth that cannot be read and then each other error.
		{"\x02\x00\x80\x00\x06\x01", impl.TrShort}, {"\x02\x00\x80\x00\x00\x0d", impl.TrShort}, {"\x02\x00\x81\x00\x00\x02", impl.TrShort}, {"\x01\x00\x80\x00\x00", impl.TrShort},
	}
	for _, c := range cases {
		checkTreeError(t, c.s, c.want)
	}
}

// badNumbers returns, for number i of the format of a valid tree, some numbers
// that are wrong there, each with its code.
func badNumbers(l []impl.Node, i int) map[string]int {
	if i == 0 {
		return map[string]int{"\x00": impl.TrSize, "\x19": impl.TrSize, "\x81\x00": impl.TrShort}
	}
	if i%2 == 1 {
		return map[string]int{"\x06": impl.TrLabel, "\x85\x01": impl.TrLabel, "\x85\x00": impl.TrShort}
	}
	bad := map[string]int{"\x0d": impl.TrDepth, "\x81\x01": impl.TrDepth, "\x81\x00": impl.TrShort}
	if i == 2 {
		bad["\x01"] = impl.TrShape
	} else {
		bad["\x00"] = impl.TrShape
		if most := l[i/2-2].Depth + 1; most < impl.MaxDepth {
			bad[impl.Var(most+1)] = impl.TrShape
		}
	}
	return bad
}

func TestTreeFormatFirstOfAnyTwoErrors(t *testing.T) {
	for _, d := range append(smallTrees(4), limitTrees()...) {
		s := treeBytes(d.nodes)
		for i := range len(s) {
			for first, code := range badNumbers(d.nodes, i) {
				start := s[:i] + first
				for k := i + 1; k < len(s); k++ {
					for second := range badNumbers(d.nodes, k) {
						checkTreeError(t, start+s[i+1:k]+second+s[k+1:], code)
					}
					checkTreeError(t, start+s[i+1:k], code)
				}
				checkTreeError(t, start+s[i+1:]+"\x00", code)
			}
		}
	}
}

func checkNotPut(t *testing.T, l []impl.Node) {
	t.Helper()
	if got := impl.PutTree(l); got != "" {
		t.Errorf("PutTree(%v) = %q, want none", l, got)
	}
}

// invalidTrees returns lists that break each rule of a valid tree.
func invalidTrees() [][]impl.Node {
	out := [][]impl.Node{nil, {}, draw(chain(impl.MaxDepth + 1)).nodes}
	for n := impl.MaxNodes + 1; n < 300; n++ {
		out = append(out, draw(star(n)).nodes)
	}
	for _, depths := range [][]int{{1}, {12}, {-1}, {0, 0}, {0, 2}, {0, 1, 0}, {0, 1, 3}, {0, 1, 2, 4}, {0, -1}, {1, 2}} {
		out = append(out, depthsOf(depths...))
	}
	great := append([]int{13, 127, 128, 1 << 14, impl.MaxVar, impl.MaxVar + 1}, far...)
	for _, d := range append(smallTrees(4), limitTrees()...) {
		for i := range d.nodes {
			for _, n := range append([]int{6, 7}, great...) {
				l := slices.Clone(d.nodes)
				l[i].Label = n
				out = append(out, l)
			}
			for _, n := range great {
				l := slices.Clone(d.nodes)
				l[i].Depth = n
				out = append(out, l)
			}
		}
	}
	return out
}

func TestPutTreeInvalid(t *testing.T) {
	for _, l := range invalidTrees() {
		checkNotPut(t, l)
	}
}

// A list whose numbers all can be written is not read back unless it is valid.
func TestGetTreeOfInvalidTrees(t *testing.T) {
	lists := [][]impl.Node{nil, draw(star(impl.MaxNodes + 1)).nodes, draw(chain(impl.MaxDepth + 1)).nodes}
	for _, d := range smallTrees(5) {
		for i := range d.nodes {
			for n := range 16 {
				label, depth := slices.Clone(d.nodes), slices.Clone(d.nodes)
				label[i].Label, depth[i].Depth = n, n
				lists = append(lists, label, depth)
			}
		}
	}
	for _, l := range lists {
		if impl.TreeOk(l) {
			checkGetTree(t, treeBytes(l), l)
			continue
		}
		checkNotPut(t, l)
		if got, code := impl.GetTree(treeBytes(l)); code == impl.TrOk || len(got) != 0 {
			t.Errorf("GetTree(%q) = %v, %d", treeBytes(l), got, code)
		}
	}
}

func TestTreeCodeNames(t *testing.T) {
	cases := []struct {
		code, number int
		want         string
	}{
		{impl.TrOk, 0, "ok"},
		{impl.TrShort, 1, "short"},
		{impl.TrSize, 2, "size"},
		{impl.TrLabel, 3, "label"},
		{impl.TrDepth, 4, "depth"},
		{impl.TrShape, 5, "shape"},
		{impl.TrLeft, 6, "left"},
	}
	for _, c := range cases {
		if c.code != c.number {
			t.Errorf("the code %s is %d, want %d", c.want, c.code, c.number)
		}
		if got := impl.TreeCode(c.code); got != c.want {
			t.Errorf("TreeCode(%d) = %q, want %q", c.code, got, c.want)
		}
	}
}

func TestTreeCodeOfNoCode(t *testing.T) {
	for _, n := range []int{-1, 7, -7, 8, 128, -256, 1 << 32, 1<<32 + 1, math.MinInt, math.MinInt + 1, math.MaxInt, math.MaxInt32, math.MinInt32} {
		if got := impl.TreeCode(n); got != "" {
			t.Errorf("TreeCode(%d) = %q, want none", n, got)
		}
	}
	for n := 7; n < 1000; n++ {
		if impl.TreeCode(n) != "" || impl.TreeCode(6-n) != "" {
			t.Errorf("TreeCode(%d) = %q, TreeCode(%d) = %q", n, impl.TreeCode(n), 6-n, impl.TreeCode(6-n))
		}
	}
}

// checkArgumentStays holds a function of a tree to changing neither its
// argument nor the unused capacity of it.
func checkArgumentStays(t *testing.T, call func(l []impl.Node)) {
	t.Helper()
	lists := invalidTrees()
	for _, d := range manyTrees() {
		lists = append(lists, d.nodes)
	}
	for _, l := range lists {
		full := append(slices.Clone(l), impl.Node{Label: 3, Depth: 1}, impl.Node{Label: 77, Depth: 77})
		before := slices.Clone(full)
		call(full[:len(l)])
		if !slices.Equal(full, before) {
			t.Errorf("%v became %v", before, full)
		}
	}
}

// spoil overwrites a result, to show what else changes with it.
func spoil(l []impl.Node) {
	l = l[:cap(l)]
	for i := range l {
		l[i] = impl.Node{Label: -9, Depth: -9}
	}
}

func TestPutTreeArgumentStaysAsItIs(t *testing.T) {
	checkArgumentStays(t, func(l []impl.Node) { impl.PutTree(l) })
}

func TestGetTreeResultIsNewMemory(t *testing.T) {
	for _, d := range manyTrees() {
		s := impl.PutTree(d.nodes)
		l, _ := impl.GetTree(s)
		spoil(l)
		checkGetTree(t, s, d.nodes)
	}
}
