package tests

import (
	"math"
	"slices"
	"strings"
	"testing"

	"loop.example/g01618/impl"
)

// Promise 9: the script of a valid mapping transforms the first tree into the
// second one, costs as much as the mapping, and has one operation per change.
// Promise 2: trees, costs, scripts and operations can be read from their
// binary and text formats; nothing else is accepted. These tests hold 9 for the
// costs of chapter 7 that the later chapters add up, and 2 for their format.

// tableSizes lists the number of elements of each table of valid costs.
var tableSizes = []int{6, 6, 36}

// costFrom returns costs whose element at each index of each table, 0 for Del,
// 1 for Ins and 2 for Rel, is what number returns for it. Each table has unused
// capacity, whose elements would be valid too.
func costFrom(number func(table int, i int) int) impl.Cost {
	var tables [3][]int
	for table, size := range tableSizes {
		tables[table] = make([]int, size, size+2)
		for i := range size {
			tables[table][i] = number(table, i)
		}
	}
	return impl.Cost{Del: tables[0], Ins: tables[1], Rel: tables[2]}
}

// isSame reports whether index i of a table is that of the cost of relabeling a
// label to itself.
func isSame(table int, i int) bool {
	return table == 2 && i/6 == i%6
}

// free returns n, or 0 for relabeling a label to itself.
func free(table int, i int, n int) int {
	if isSame(table, i) {
		return 0
	}
	return n
}

func evenCost(n int) impl.Cost {
	return costFrom(func(table int, i int) int { return free(table, i, n) })
}

// countedCost returns costs of which no two numbers are equal, except those of
// relabeling a label to itself.
func countedCost(first int, step int) impl.Cost {
	return costFrom(func(table int, i int) int {
		first += step
		return free(table, i, first)
	})
}

func variedCost(seed uint32, limit int) impl.Cost {
	next := numbersFrom(seed)
	return costFrom(func(table int, i int) int {
		return free(table, i, next(limit))
	})
}

// manyCosts returns valid costs, among them some with each number 0 and some
// with each number MaxCost.
func manyCosts() []impl.Cost {
	out := []impl.Cost{
		evenCost(0), evenCost(1), evenCost(127), evenCost(128), evenCost(999), evenCost(impl.MaxCost),
		countedCost(0, 1), countedCost(100, 1), countedCost(impl.MaxCost, -1), countedCost(0, 20), countedCost(110, 17),
	}
	for seed := range 40 {
		limit := []int{2, 10, 300, impl.MaxCost + 1}[seed%4]
		out = append(out, variedCost(uint32(seed), limit))
	}
	return out
}

// someCosts returns a few of manyCosts, for tests that try many changes.
func someCosts() []impl.Cost {
	return []impl.Cost{evenCost(1), evenCost(impl.MaxCost), countedCost(0, 1), countedCost(110, 17), variedCost(7, impl.MaxCost+1)}
}

func tablesOf(c impl.Cost) [][]int {
	return [][]int{c.Del, c.Ins, c.Rel}
}

func cloneCost(c impl.Cost) impl.Cost {
	return impl.Cost{Del: slices.Clone(c.Del), Ins: slices.Clone(c.Ins), Rel: slices.Clone(c.Rel)}
}

// withElement returns a copy of c in which one number is n.
func withElement(c impl.Cost, table int, i int, n int) impl.Cost {
	c = cloneCost(c)
	tablesOf(c)[table][i] = n
	return c
}

// withTable returns a copy of c in which one table is another one.
func withTable(c impl.Cost, table int, list []int) impl.Cost {
	tables := tablesOf(cloneCost(c))
	tables[table] = list
	return impl.Cost{Del: tables[0], Ins: tables[1], Rel: tables[2]}
}

// sameNumbers compares costs without the help of the program.
func sameNumbers(a impl.Cost, b impl.Cost) bool {
	return slices.EqualFunc(tablesOf(a), tablesOf(b), slices.Equal[[]int])
}

// costBytes returns the varints of all numbers, of which each is less than
// 128*128.
func costBytes(c impl.Cost) string {
	var s []byte
	for _, n := range slices.Concat(c.Del, c.Ins, c.Rel) {
		s = append(s, numberBytes(n)...)
	}
	return string(s)
}

func numberBytes(n int) string {
	if n < 128 {
		return string([]byte{byte(n)})
	}
	return string([]byte{byte(n%128 + 128), byte(n / 128)})
}

// numberAt returns the start and the length of the bytes of number i, counted
// over all three tables, in the format of valid costs.
func numberAt(c impl.Cost, i int) (int, int) {
	start := 0
	all := slices.Concat(c.Del, c.Ins, c.Rel)
	for _, n := range all[:i] {
		start += len(numberBytes(n))
	}
	return start, len(numberBytes(all[i]))
}

// costIn returns the valid costs of which s is the format. It reads each byte
// by itself, to find out what is to be accepted.
func costIn(s string) (impl.Cost, bool) {
	var all []int
	for i := 0; i < len(s); i++ {
		n := int(s[i])
		if n >= 128 {
			i++
			if i == len(s) || s[i] == 0 || s[i] >= 128 {
				return impl.Cost{}, false
			}
			n += 128*int(s[i]) - 128
		}
		all = append(all, n)
	}
	if len(all) != 48 || slices.Max(all) > impl.MaxCost {
		return impl.Cost{}, false
	}
	for i := 12; i < 48; i += 7 {
		if all[i] != 0 {
			return impl.Cost{}, false
		}
	}
	return impl.Cost{Del: all[:6], Ins: all[6:12], Rel: all[12:]}, true
}

// foreignLabels lists numbers that are no labels.
func foreignLabels() []int {
	out := []int{
		math.MinInt, math.MinInt + 1, math.MaxInt, math.MaxInt - 1,
		// These become labels or indices if high bits are cut off, or after a
		// multiplication by 6.
		256, 257, -256, 1 << 32, 1<<32 + 5, -1 << 32, 1 << 62, 1<<62 + 1, 1 << 63 / 3, -1 << 63 / 6,
	}
	for n := range 60 {
		out = append(out, impl.MaxLabels+n, -1-n)
	}
	return out
}

func checkGetCost(t *testing.T, s string, want impl.Cost) {
	t.Helper()
	c, ok := impl.GetCost(s)
	if !ok || !sameNumbers(c, want) {
		t.Errorf("GetCost(%q) = %v, %v, want %v", s, c, ok, want)
	}
}

func checkNoCost(t *testing.T, s string) {
	t.Helper()
	c, ok := impl.GetCost(s)
	if ok || len(c.Del)+len(c.Ins)+len(c.Rel) != 0 {
		t.Errorf("GetCost(%q) = %v, %v, want none", s, c, ok)
	}
}

// checkCostFormat holds GetCost to the costs that s is the format of, if any.
func checkCostFormat(t *testing.T, s string) {
	t.Helper()
	want, ok := costIn(s)
	if !ok {
		checkNoCost(t, s)
		return
	}
	checkGetCost(t, s, want)
	if got := impl.PutCost(want); got != s {
		t.Errorf("PutCost(%v) = %q, want %q", want, got, s)
	}
}

// checkElements holds the functions of valid costs to their tables.
func checkElements(t *testing.T, c impl.Cost) {
	t.Helper()
	if !impl.CostOk(c) {
		t.Errorf("CostOk(%v) = false", c)
	}
	for a := range 6 {
		if got := impl.DelCost(c, a); got != c.Del[a] {
			t.Errorf("DelCost(%v, %d) = %d", c, a, got)
		}
		if got := impl.InsCost(c, a); got != c.Ins[a] {
			t.Errorf("InsCost(%v, %d) = %d", c, a, got)
		}
		for b := range 6 {
			if got := impl.RelCost(c, a, b); got != c.Rel[6*a+b] {
				t.Errorf("RelCost(%v, %d, %d) = %d", c, a, b, got)
			}
		}
	}
}

// checkNoElements holds the functions of costs to 0 for a label, alone and with
// each other one.
func checkNoElements(t *testing.T, c impl.Cost, a int) {
	t.Helper()
	if got := impl.DelCost(c, a); got != 0 {
		t.Errorf("DelCost(%v, %d) = %d, want 0", c, a, got)
	}
	if got := impl.InsCost(c, a); got != 0 {
		t.Errorf("InsCost(%v, %d) = %d, want 0", c, a, got)
	}
	for b := range 6 {
		if got := impl.RelCost(c, a, b); got != 0 {
			t.Errorf("RelCost(%v, %d, %d) = %d, want 0", c, a, b, got)
		}
		if got := impl.RelCost(c, b, a); got != 0 {
			t.Errorf("RelCost(%v, %d, %d) = %d, want 0", c, b, a, got)
		}
	}
}

func checkInvalidCost(t *testing.T, c impl.Cost) {
	t.Helper()
	if impl.CostOk(c) {
		t.Errorf("CostOk(%v) = true", c)
	}
	for a := range 6 {
		checkNoElements(t, c, a)
	}
	if got := impl.PutCost(c); got != "" {
		t.Errorf("PutCost(%v) = %q, want none", c, got)
	}
}

// resized returns the start of a list, or the list and further zeros.
func resized(list []int, size int) []int {
	if size <= len(list) {
		return list[:size]
	}
	return append(slices.Clone(list), make([]int, size-len(list))...)
}

// invalidCosts returns costs with one error each, and some with several.
func invalidCosts() []impl.Cost {
	out := []impl.Cost{
		{},
		{Del: []int{}, Ins: []int{}, Rel: []int{}},
		{Del: make([]int, 36), Ins: make([]int, 36), Rel: make([]int, 36)},
		{Del: make([]int, 6), Ins: make([]int, 6), Rel: make([]int, 6)},
		{Del: make([]int, 36), Ins: make([]int, 6), Rel: make([]int, 6)},
		{Del: make([]int, 5), Ins: make([]int, 7), Rel: make([]int, 36)},
		{Del: make([]int, 6), Ins: make([]int, 5), Rel: make([]int, 37)},
	}
	for _, c := range []impl.Cost{evenCost(0), evenCost(1), countedCost(0, 20)} {
		for table, list := range tablesOf(c) {
			for _, size := range []int{0, 1, len(list) / 2, len(list) - 1, len(list) + 1, len(list) + 6, 2 * len(list)} {
				out = append(out, withTable(c, table, resized(list, size)))
			}
			out = append(out, withTable(c, table, nil))
			for i := range list {
				for _, n := range []int{-1, impl.MaxCost + 1, -impl.MaxCost, 1 << 16, 1 << 32, math.MinInt, math.MaxInt} {
					out = append(out, withElement(c, table, i, n))
				}
			}
		}
		for a := range 6 {
			out = append(out, withElement(c, 2, 7*a, 1), withElement(c, 2, 7*a, impl.MaxCost))
		}
	}
	return out
}

func TestCostLimits(t *testing.T) {
	if impl.MaxCost != 1000 || impl.MaxLabels != 6 {
		t.Errorf("MaxCost = %d, MaxLabels = %d", impl.MaxCost, impl.MaxLabels)
	}
}

func TestCostElements(t *testing.T) {
	for _, c := range manyCosts() {
		checkElements(t, c)
	}
}

// Exactly one number differs from 0, so that only one label or pair finds it.
func TestCostOneElement(t *testing.T) {
	for table, size := range tableSizes {
		for i := range size {
			if isSame(table, i) {
				continue
			}
			for _, n := range []int{1, 127, 128, impl.MaxCost - 1, impl.MaxCost} {
				checkElements(t, withElement(evenCost(0), table, i, n))
			}
		}
	}
}

func TestCostNumberAtItsLimits(t *testing.T) {
	for _, c := range someCosts() {
		for table, size := range tableSizes {
			for i := range size {
				checkInvalidCost(t, withElement(c, table, i, -1))
				checkInvalidCost(t, withElement(c, table, i, impl.MaxCost+1))
				checkElements(t, withElement(c, table, i, 0))
				if most := withElement(c, table, i, impl.MaxCost); isSame(table, i) {
					checkInvalidCost(t, most)
				} else {
					checkElements(t, most)
				}
			}
		}
	}
}

func TestCostLabelToItself(t *testing.T) {
	for _, c := range manyCosts() {
		for a := range 6 {
			if got := impl.RelCost(c, a, a); got != 0 {
				t.Errorf("RelCost(%v, %d, %d) = %d, want 0", c, a, a, got)
			}
			for _, n := range []int{-1, 1, 2, 500, impl.MaxCost, impl.MaxCost + 1, math.MinInt, math.MaxInt} {
				checkInvalidCost(t, withElement(c, 2, 7*a, n))
			}
		}
	}
}

func TestCostTableLengths(t *testing.T) {
	for _, c := range someCosts() {
		for table, list := range tablesOf(c) {
			for size := range 80 {
				changed := withTable(c, table, resized(list, size))
				if size == len(list) {
					checkElements(t, changed)
				} else {
					checkInvalidCost(t, changed)
				}
			}
			// One too long, with a valid number that is not 0.
			checkInvalidCost(t, withTable(c, table, append(slices.Clone(list), 1)))
			checkInvalidCost(t, withTable(c, table, nil))
			checkInvalidCost(t, withTable(c, table, []int{}))
		}
	}
}

func TestCostInvalid(t *testing.T) {
	for _, c := range invalidCosts() {
		checkInvalidCost(t, c)
		for _, a := range foreignLabels() {
			checkNoElements(t, c, a)
		}
	}
}

func TestCostForeignLabel(t *testing.T) {
	for _, c := range []impl.Cost{evenCost(1), countedCost(0, 20), impl.UnitCost()} {
		for _, a := range foreignLabels() {
			checkNoElements(t, c, a)
			for _, b := range foreignLabels() {
				if got := impl.RelCost(c, a, b); got != 0 {
					t.Errorf("RelCost(%v, %d, %d) = %d, want 0", c, a, b, got)
				}
			}
		}
	}
}

func TestUnitCostElements(t *testing.T) {
	c := impl.UnitCost()
	want := impl.Cost{
		Del: []int{1, 1, 1, 1, 1, 1},
		Ins: []int{1, 1, 1, 1, 1, 1},
		Rel: []int{
			0, 1, 1, 1, 1, 1,
			1, 0, 1, 1, 1, 1,
			1, 1, 0, 1, 1, 1,
			1, 1, 1, 0, 1, 1,
			1, 1, 1, 1, 0, 1,
			1, 1, 1, 1, 1, 0,
		},
	}
	if !sameNumbers(c, want) {
		t.Errorf("UnitCost() = %v", c)
	}
	checkElements(t, c)
}

// spoilTable overwrites a table of a result and its unused capacity, to show
// what else changes with it.
func spoilTable(list []int) {
	list = list[:cap(list)]
	for i := range list {
		list[i] = -9
	}
}

// checkTablesApart holds the tables of a result to sharing no memory, and costs
// that were made otherwise to staying as they are.
func checkTablesApart(t *testing.T, call func() impl.Cost) {
	t.Helper()
	for spoiled := range tableSizes {
		c, other := call(), call()
		before := cloneCost(c)
		spoilTable(tablesOf(c)[spoiled])
		for table := range tableSizes {
			if table != spoiled && !slices.Equal(tablesOf(c)[table], tablesOf(before)[table]) {
				t.Errorf("table %d of %v changes with table %d", table, before, spoiled)
			}
		}
		if again := call(); !sameNumbers(other, before) || !sameNumbers(again, before) {
			t.Errorf("after a change to it %v becomes %v, and then %v", before, other, again)
		}
	}
}

func TestUnitCostIsNewMemory(t *testing.T) {
	checkTablesApart(t, impl.UnitCost)
}

func TestGetCostIsNewMemory(t *testing.T) {
	for _, c := range manyCosts() {
		s := costBytes(c)
		checkTablesApart(t, func() impl.Cost {
			got, _ := impl.GetCost(s)
			return got
		})
	}
}

func checkSame(t *testing.T, a impl.Cost, b impl.Cost, want bool) {
	t.Helper()
	if got := impl.SameCost(a, b); got != want {
		t.Errorf("SameCost(%v, %v) = %v", a, b, got)
	}
	if got := impl.SameCost(b, a); got != want {
		t.Errorf("SameCost(%v, %v) = %v", b, a, got)
	}
}

func TestSameCostOfAnyTwo(t *testing.T) {
	costs := append(invalidCosts()[:200], manyCosts()...)
	costs = append(costs, impl.UnitCost())
	for _, a := range costs {
		checkSame(t, a, a, true)
		checkSame(t, a, cloneCost(a), true)
		for _, b := range costs {
			checkSame(t, a, b, sameNumbers(a, b))
		}
	}
	for _, a := range invalidCosts() {
		checkSame(t, a, cloneCost(a), true)
	}
}

func TestSameCostOneNumberChanged(t *testing.T) {
	short := impl.Cost{Del: []int{5}, Ins: []int{6, 7}, Rel: []int{8, 9, 10}}
	extreme := impl.Cost{Del: []int{math.MinInt, 1 << 32}, Ins: []int{-1}, Rel: []int{math.MaxInt}}
	for _, c := range append(someCosts(), short, extreme) {
		for table, list := range tablesOf(c) {
			for i, n := range list {
				for _, changed := range []int{n + 1, n - 1, -n - 1, n + 256, n + 1<<32, n ^ math.MinInt} {
					checkSame(t, c, withElement(c, table, i, changed), false)
				}
			}
		}
	}
}

func TestSameCostOneTableLonger(t *testing.T) {
	none := impl.Cost{}
	short := impl.Cost{Del: []int{0}, Ins: []int{0}, Rel: []int{0}}
	for _, c := range append(someCosts(), evenCost(0), none, short) {
		for table, list := range tablesOf(c) {
			for _, more := range [][]int{{0}, {1}, {-1}, make([]int, 6), list} {
				if len(more) > 0 {
					checkSame(t, c, withTable(c, table, append(slices.Clone(list), more...)), false)
				}
			}
			if len(list) > 0 {
				checkSame(t, c, withTable(c, table, list[1:]), false)
				checkSame(t, c, withTable(c, table, nil), false)
			}
		}
	}
}

// Each of these has the same numbers in the same order, but in other tables.
func TestSameCostNumbersMoved(t *testing.T) {
	all := []int{4, 4, 4, 4}
	var costs []impl.Cost
	for first := range len(all) + 1 {
		for second := first; second <= len(all); second++ {
			costs = append(costs, impl.Cost{Del: all[:first], Ins: all[first:second], Rel: all[second:]})
		}
	}
	for i, a := range costs {
		for k, b := range costs {
			checkSame(t, a, b, i == k)
		}
	}
	for _, c := range someCosts() {
		longer := impl.Cost{Del: append(slices.Clone(c.Del), c.Ins[0]), Ins: c.Ins[1:], Rel: c.Rel}
		shorter := impl.Cost{Del: c.Del[:5], Ins: slices.Concat(c.Del[5:], c.Ins), Rel: c.Rel}
		later := impl.Cost{Del: c.Del, Ins: c.Ins[:5], Rel: slices.Concat(c.Ins[5:], c.Rel)}
		checkSame(t, c, longer, false)
		checkSame(t, c, shorter, false)
		checkSame(t, c, later, false)
		checkSame(t, longer, shorter, false)
	}
	exchanged := impl.Cost{Del: evenCost(1).Ins, Ins: evenCost(2).Del, Rel: evenCost(1).Rel}
	checkSame(t, exchanged, impl.Cost{Del: exchanged.Ins, Ins: exchanged.Del, Rel: exchanged.Rel}, false)
}

func TestSameCostNilAndEmpty(t *testing.T) {
	checkSame(t, impl.Cost{}, impl.Cost{Del: []int{}, Ins: []int{}, Rel: []int{}}, true)
	checkSame(t, impl.Cost{Del: []int{3}}, impl.Cost{Del: []int{3}, Ins: []int{}, Rel: []int{}}, true)
	checkSame(t, impl.Cost{Del: []int{3}}, impl.Cost{Ins: []int{3}}, false)
	checkSame(t, impl.Cost{Ins: []int{3}}, impl.Cost{Rel: []int{3}}, false)
}

func TestCostFormatBytes(t *testing.T) {
	row := "\x01\x01\x01\x01\x01\x01\x00"
	unit := strings.Repeat("\x01", 12) + "\x00" + strings.Repeat(row, 5)
	cases := []struct {
		c impl.Cost
		s string
	}{
		{evenCost(0), strings.Repeat("\x00", 48)},
		{impl.UnitCost(), unit},
		{withElement(impl.UnitCost(), 0, 1, 2), "\x01\x02" + unit[2:]},
		{withElement(impl.UnitCost(), 1, 0, 3), unit[:6] + "\x03" + unit[7:]},
		{withElement(impl.UnitCost(), 2, 1, 4), unit[:13] + "\x04" + unit[14:]},
		{withElement(impl.UnitCost(), 2, 6, 5), unit[:18] + "\x05" + unit[19:]},
		{withElement(impl.UnitCost(), 2, 34, 127), unit[:46] + "\x7f\x00"},
		{withElement(impl.UnitCost(), 2, 34, 128), unit[:46] + "\x80\x01\x00"},
		{withElement(impl.UnitCost(), 0, 0, impl.MaxCost), "\xe8\x07" + unit[1:]},
	}
	for _, c := range cases {
		if got := impl.PutCost(c.c); got != c.s {
			t.Errorf("PutCost(%v) = %q, want %q", c.c, got, c.s)
		}
		checkGetCost(t, c.s, c.c)
	}
}

func TestCostFormatOfManyCosts(t *testing.T) {
	for _, c := range manyCosts() {
		s := impl.PutCost(c)
		if want := costBytes(c); s != want {
			t.Errorf("PutCost(%v) = %q, want %q", c, s, want)
		}
		checkGetCost(t, s, c)
		checkCostFormat(t, s)
	}
}

// Each number from 0 to MaxCost, at each index of each table.
func TestCostFormatOfEachNumber(t *testing.T) {
	zero := costBytes(evenCost(0))
	for n := range impl.MaxCost + 1 {
		for i := range 48 {
			s := zero[:i] + numberBytes(n) + zero[i+1:]
			if n != 0 && i >= 12 && isSame(2, i-12) {
				checkNoCost(t, s)
				continue
			}
			c, ok := impl.GetCost(s)
			if !ok || slices.Concat(c.Del, c.Ins, c.Rel)[i] != n || impl.PutCost(c) != s {
				t.Errorf("GetCost(%q) = %v, %v, want number %d to be %d", s, c, ok, i, n)
			}
		}
	}
}

func TestCostFormatCutOff(t *testing.T) {
	for _, c := range manyCosts() {
		s := costBytes(c)
		for i := range len(s) {
			checkNoCost(t, s[:i])
			checkNoCost(t, s[:i]+"\x80")
		}
	}
}

func TestCostFormatOneByteChanged(t *testing.T) {
	for _, c := range someCosts() {
		s := costBytes(c)
		for i := range len(s) {
			for b := range 256 {
				checkCostFormat(t, s[:i]+string([]byte{byte(b)})+s[i+1:])
			}
		}
	}
}

func TestCostFormatOneByteMoreOrLess(t *testing.T) {
	for _, c := range someCosts() {
		s := costBytes(c)
		for i := range len(s) {
			checkCostFormat(t, s[:i]+s[i+1:])
		}
		for i := range len(s) + 1 {
			for b := range 256 {
				checkCostFormat(t, s[:i]+string([]byte{byte(b)})+s[i:])
			}
		}
	}
}

func TestCostFormatMoreAtTheEnd(t *testing.T) {
	for _, c := range manyCosts() {
		s := costBytes(c)
		for _, rest := range []string{"\x00", "\x01", "\x80", "\xff", "\x00\x00", "\x80\x00", "\x80\x01", " ", "\n", strings.Repeat("\x00", 36), strings.Repeat("\x00", 1000), s} {
			checkNoCost(t, s+rest)
			// A first byte that joins the next one may make valid costs.
			checkCostFormat(t, rest+s)
		}
	}
}

func TestCostFormatNumberLongerThanNecessary(t *testing.T) {
	for _, c := range someCosts() {
		s := costBytes(c)
		for i := range 48 {
			start, size := numberAt(c, i)
			last := start + size - 1
			for zeros := range 8 {
				long := string([]byte{s[last] | 128}) + strings.Repeat("\x80", zeros) + "\x00"
				checkNoCost(t, s[:last]+long+s[last+1:])
			}
			for _, long := range []string{strings.Repeat("\x80", 7) + "\x01", strings.Repeat("\xff", 7) + "\x7f", strings.Repeat("\x80", 100)} {
				checkNoCost(t, s[:start]+long+s[last+1:])
			}
		}
	}
}

func TestCostFormatNumberBeyondItsLimit(t *testing.T) {
	// Some of these become valid if their high bits are cut off.
	great := []int{
		impl.MaxCost + 1, impl.MaxCost + 2, 1023, 1024, 1025, 2000, 1<<14 - 1, 1 << 14, 1 << 16, 1<<16 + 1,
		1 << 32, 1<<32 + 1, 1<<32 + impl.MaxCost, impl.MaxVar - 1, impl.MaxVar,
	}
	for _, c := range someCosts() {
		s := costBytes(c)
		for i := range 48 {
			start, size := numberAt(c, i)
			for _, n := range great {
				checkNoCost(t, s[:start]+impl.Var(n)+s[start+size:])
			}
		}
	}
}

func TestCostFormatLabelToItself(t *testing.T) {
	for _, c := range manyCosts() {
		s := costBytes(c)
		for a := range 6 {
			start, _ := numberAt(c, 12+7*a)
			for _, n := range []int{1, 2, 127, 128, impl.MaxCost, impl.MaxCost + 1} {
				checkNoCost(t, s[:start]+numberBytes(n)+s[start+1:])
			}
		}
	}
}

// The empty string, which PutCost returns for invalid costs, and strings that
// are formats of something else.
func TestCostFormatForeign(t *testing.T) {
	for _, s := range []string{"", "\x00", "\x80", "0", "cost", "div(p(a) b)", strings.Repeat("\x00", 12), strings.Repeat("\x00", 47), strings.Repeat("\x00", 49), strings.Repeat("0", 48), strings.Repeat("\xff", 48), strings.Repeat("\x80\x00", 48), strings.Repeat("\x80", 1000)} {
		checkNoCost(t, s)
	}
	for _, d := range manyTrees() {
		checkCostFormat(t, treeBytes(d.nodes))
	}
	for _, c := range invalidCosts() {
		checkNoCost(t, impl.PutCost(c))
	}
	// The order of the tables is part of the format.
	c := countedCost(0, 1)
	checkGetCost(t, costBytes(impl.Cost{Del: c.Ins, Ins: c.Del, Rel: c.Rel}), impl.Cost{Del: c.Ins, Ins: c.Del, Rel: c.Rel})
	checkNoCost(t, costBytes(impl.Cost{Del: c.Rel, Ins: c.Del, Rel: c.Ins}))
	checkNoCost(t, costBytes(impl.Cost{Del: c.Del, Ins: c.Rel, Rel: c.Ins}))
}

// heldCost returns a copy of c whose tables have unused capacity, and the
// tables with it.
func heldCost(c impl.Cost) (impl.Cost, [][]int) {
	full := tablesOf(cloneCost(c))
	held := make([][]int, len(full))
	for table := range full {
		full[table] = append(full[table], 3, -77, 0)
		held[table] = full[table][:len(full[table])-3]
	}
	return impl.Cost{Del: held[0], Ins: held[1], Rel: held[2]}, full
}

func TestCostArgumentStaysAsItIs(t *testing.T) {
	for _, c := range append(manyCosts(), invalidCosts()...) {
		a, fullA := heldCost(c)
		b, fullB := heldCost(c)
		impl.CostOk(a)
		for _, label := range []int{0, 5, -1, 6} {
			impl.DelCost(a, label)
			impl.InsCost(a, label)
			impl.RelCost(a, label, 1)
		}
		impl.SameCost(a, b)
		impl.PutCost(a)
		_, want := heldCost(c)
		for table := range want {
			if !slices.Equal(fullA[table], want[table]) || !slices.Equal(fullB[table], want[table]) {
				t.Errorf("%v became %v and %v", want[table], fullA[table], fullB[table])
			}
		}
	}
}

// Valid numbers behind the end of a table do not lengthen it.
func TestCostUnusedCapacityDoesNotCount(t *testing.T) {
	for _, c := range someCosts() {
		for table, list := range tablesOf(c) {
			checkInvalidCost(t, withTable(c, table, list[:len(list)-1]))
			checkElements(t, withTable(c, table, append(slices.Clone(list), 1)[:len(list)]))
		}
	}
}
