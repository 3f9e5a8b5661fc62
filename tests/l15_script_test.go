package tests

import (
	"math"
	"slices"
	"strings"
	"testing"

	"loop.example/g01618/impl"
)

// Promise 2: trees, costs, scripts and operations can be read from their
// binary and text formats; nothing else is accepted. Promise 9: the script of a
// valid mapping transforms the first tree into the second one, costs as much as
// the mapping, and has one operation per change. These tests hold 2 for the
// binary format of a script of chapter 15, and 9 for what ScriptCost returns. Both
// compare scripts, as SameOps does.

// A place says which numbers one of a script may be, and the code of any other.
type place struct {
	least, most, code int
}

var places = map[string]place{
	"size":  {0, 60, 2},
	"kind":  {1, 3, 3},
	"steps": {0, 12, 4},
	"rank":  {0, 24, 4},
	"label": {0, 5, 5},
	"from":  {0, 24, 6},
	"count": {0, 24, 6},
}

// fieldsOf names what follows each kind. As many ranks as there are steps come in
// between.
var fieldsOf = map[int][]string{
	1: {"steps", "label"},
	2: {"steps"},
	3: {"steps", "label", "from", "count"},
}

// scriptBytes returns the binary format of a valid script. All its numbers are
// less than 128, so the varint of each is one byte.
func scriptBytes(ops []impl.Op) string {
	s := []byte{byte(len(ops))}
	for _, o := range ops {
		s = append(s, opBytes(o)...)
	}
	return string(s)
}

func opBytes(o impl.Op) []byte {
	s := []byte{byte(o.Kind), byte(len(o.Path))}
	for _, rank := range o.Path {
		s = append(s, byte(rank))
	}
	switch o.Kind {
	case 1:
		s = append(s, byte(o.Label))
	case 3:
		s = append(s, byte(o.Label), byte(o.From), byte(o.Count))
	}
	return s
}

// placesOf names the place of each byte of the format of a valid script.
func placesOf(ops []impl.Op) []string {
	out := []string{"size"}
	for _, o := range ops {
		fields := fieldsOf[o.Kind]
		out = append(out, "kind", fields[0])
		out = append(out, slices.Repeat([]string{"rank"}, len(o.Path))...)
		out = append(out, fields[1:]...)
	}
	return out
}

// numbersIn returns the numbers whose varints s is made of, up to the first place
// where none starts, and the bytes from there on.
func numbersIn(s string) ([]int, string) {
	var out []int
	for s != "" {
		size := 1
		for size < len(s) && s[size-1] >= 128 {
			size++
		}
		if last := s[size-1]; size > 7 || last >= 128 || size > 1 && last == 0 {
			break
		}
		n := 0
		for i := range size {
			n += int(s[i]%128) << (7 * i)
		}
		out = append(out, n)
		s = s[size:]
	}
	return out, s
}

// scriptIn returns the operations of which s is the format, and 0, or the code of
// the first error. It holds each number to the next of the places to come.
func scriptIn(s string) ([]impl.Op, int) {
	numbers, rest := numbersIn(s)
	var ops []impl.Op
	for coming := []string{"size"}; len(coming) > 0; numbers = numbers[1:] {
		if len(numbers) == 0 {
			return nil, 1
		}
		n, name := numbers[0], coming[0]
		if p := places[name]; n < p.least || n > p.most {
			return nil, p.code
		}
		if name == "kind" {
			ops = append(ops, impl.Op{})
		}
		if name != "size" {
			setField(&ops[len(ops)-1], name, n)
		}
		coming = slices.Concat(broughtBy(name, n), coming[1:])
	}
	if len(numbers) > 0 || rest != "" {
		return nil, 7
	}
	return ops, 0
}

func setField(o *impl.Op, name string, n int) {
	switch name {
	case "kind":
		o.Kind = n
	case "rank":
		o.Path = append(o.Path, n)
	case "label":
		o.Label = n
	case "from":
		o.From = n
	case "count":
		o.Count = n
	}
}

// broughtBy names the places that a number brings, before all others to come.
func broughtBy(name string, n int) []string {
	switch name {
	case "size":
		return slices.Repeat([]string{"kind"}, n)
	case "kind":
		return fieldsOf[n]
	case "steps":
		return slices.Repeat([]string{"rank"}, n)
	}
	return nil
}

// opValid finds by the limits of each kind whether an operation is valid.
func opValid(o impl.Op) bool {
	mostLabel := map[int]int{1: 5, 2: 0, 3: 5}
	mostRange := map[int]int{1: 0, 2: 0, 3: 24}
	within := func(n int, most int) bool { return 0 <= n && n <= most }
	for _, rank := range o.Path {
		if !within(rank, 24) {
			return false
		}
	}
	inRange := within(o.From, mostRange[o.Kind]) && within(o.Count, mostRange[o.Kind])
	return within(o.Kind-1, 2) && within(o.Label, mostLabel[o.Kind]) && inRange && within(len(o.Path), 12)
}

// limitOps returns valid operations of each kind with paths of each length, and
// with the least and the greatest number at each place.
func limitOps() []impl.Op {
	var out []impl.Op
	for length := range 13 {
		for _, rank := range []int{0, 1, 24} {
			path := slices.Repeat([]int{rank}, length)
			out = append(out, deletion(path))
			for label := range 6 {
				out = append(out, relabeling(path, label), insertion(path, label, 0, 0))
				out = append(out, insertion(path, label, 24, 0), insertion(path, label, 0, 24), insertion(path, label, 24, 24))
			}
		}
	}
	return out
}

// anyOps returns n valid operations that the seed decides. Hardly any tree is such
// that they can be applied to it.
func anyOps(n int, seed uint32) []impl.Op {
	next := numbersFrom(seed)
	var out []impl.Op
	for range n {
		path := make([]int, next(13))
		for i := range path {
			path[i] = next(25)
		}
		label, from, count := next(6), next(25), next(25)
		some := []impl.Op{relabeling(path, label), deletion(path), insertion(path, label, from, count)}
		out = append(out, some[next(3)])
	}
	return out
}

// manyScripts returns valid scripts of each length, and those of the limits.
func manyScripts() [][]impl.Op {
	out := [][]impl.Op{nil, {}}
	for _, o := range limitOps() {
		out = append(out, []impl.Op{o}, []impl.Op{deletion(nil), o, o}, slices.Repeat([]impl.Op{o}, 60))
	}
	for n := range 61 {
		for seed := range uint32(10) {
			out = append(out, anyOps(n, seed+100*uint32(n)))
		}
	}
	for n, d := range scriptTrees() {
		ops, _ := someScript(d, 12, uint32(n))
		for i := range ops {
			ops[i] = bare(ops[i])
		}
		out = append(out, ops)
	}
	return out
}

// bare returns an operation without what its kind has no use for.
func bare(o impl.Op) impl.Op {
	switch o.Kind {
	case 1:
		return relabeling(o.Path, o.Label)
	case 2:
		return deletion(o.Path)
	}
	return o
}

// fewScripts returns some valid scripts, for tests that try many changes.
func fewScripts() [][]impl.Op {
	last := slices.Repeat([]int{24}, 12)
	return [][]impl.Op{
		nil, {relabeling(nil, 0)}, {deletion(nil)}, {insertion(nil, 0, 0, 0)},
		{relabeling(last, 5)}, {deletion(last)}, {insertion(last, 5, 24, 24)},
		{relabeling([]int{1}, 5), deletion([]int{0, 2}), insertion(nil, 3, 1, 2)},
		{insertion([]int{3, 1, 2}, 1, 2, 3), insertion([]int{3}, 2, 1, 3), deletion(nil), relabeling([]int{2, 1}, 3)},
		anyOps(2, 5), anyOps(3, 6), slices.Repeat([]impl.Op{deletion(nil)}, 60),
	}
}

// someScripts returns fewScripts and others, of each length and with each operation
// of the limits alone.
func someScripts() [][]impl.Op {
	out := fewScripts()
	for _, o := range limitOps() {
		out = append(out, []impl.Op{o})
	}
	for n := range 61 {
		out = append(out, anyOps(n, uint32(n)))
	}
	return out
}

func checkOpOk(t *testing.T, o impl.Op, want bool) {
	t.Helper()
	if got := impl.OpOk(o); got != want {
		t.Fatalf("OpOk(%v) = %v, want %v", o, got, want)
	}
	first := insertion([]int{1}, 2, 3, 4)
	for _, ops := range [][]impl.Op{{o}, {o, first}, {first, o}, {first, o, deletion(nil)}, {o, o}} {
		checkScriptOk(t, ops, want)
	}
}

// checkScriptOk holds the functions of a script to whether it is valid, and to its
// format.
func checkScriptOk(t *testing.T, ops []impl.Op, want bool) {
	t.Helper()
	format := ""
	if want {
		format = scriptBytes(ops)
	}
	if got := impl.ScriptOk(ops); got != want {
		t.Fatalf("ScriptOk(%v) = %v, want %v", ops, got, want)
	}
	if got := impl.PutScript(ops); got != format {
		t.Fatalf("PutScript(%v) = %q, want %q", ops, got, format)
	}
}

func checkGetScript(t *testing.T, s string, want []impl.Op) {
	t.Helper()
	if got, code := impl.GetScript(s); code != impl.ScOk || !sameOps(got, want) {
		t.Fatalf("GetScript(%q) = %v, %d, want %v", s, got, code, want)
	}
}

func checkScriptError(t *testing.T, s string, want int) {
	t.Helper()
	if got, code := impl.GetScript(s); code != want || len(got) != 0 {
		t.Fatalf("GetScript(%q) = %v, %d, want no operations and %d", s, got, code, want)
	}
}

// checkScriptFormat holds GetScript to what s is the format of, or to its first
// error.
func checkScriptFormat(t *testing.T, s string) {
	t.Helper()
	want, code := scriptIn(s)
	if code != 0 {
		checkScriptError(t, s, code)
		return
	}
	checkGetScript(t, s, want)
	got, _ := impl.GetScript(s)
	if again := impl.PutScript(got); again != s {
		t.Fatalf("GetScript(%q) = %v, of which PutScript returns %q", s, got, again)
	}
}

func TestScriptFormatBytes(t *testing.T) {
	cases := []struct {
		ops []impl.Op
		s   string
	}{
		{nil, "\x00"},
		{[]impl.Op{relabeling(nil, 0)}, "\x01\x01\x00\x00"},
		{[]impl.Op{relabeling(nil, 5)}, "\x01\x01\x00\x05"},
		{[]impl.Op{relabeling([]int{7}, 4)}, "\x01\x01\x01\x07\x04"},
		{[]impl.Op{deletion(nil)}, "\x01\x02\x00"},
		{[]impl.Op{deletion([]int{3})}, "\x01\x02\x01\x03"},
		{[]impl.Op{insertion(nil, 1, 2, 3)}, "\x01\x03\x00\x01\x02\x03"},
		{[]impl.Op{insertion([]int{0, 24}, 5, 24, 0)}, "\x01\x03\x02\x00\x18\x05\x18\x00"},
		{[]impl.Op{insertion([]int{0}, 0, 0, 24)}, "\x01\x03\x01\x00\x00\x00\x18"},
		{[]impl.Op{deletion([]int{1, 2, 3, 4, 5, 6, 7, 8, 9, 10, 11, 12})}, "\x01\x02\x0c\x01\x02\x03\x04\x05\x06\x07\x08\x09\x0a\x0b\x0c"},
		{[]impl.Op{deletion([]int{2}), deletion(nil), deletion([]int{0})}, "\x03\x02\x01\x02\x02\x00\x02\x01\x00"},
		{[]impl.Op{insertion([]int{1}, 4, 2, 5), relabeling([]int{3, 0}, 2), deletion([]int{6})}, "\x03\x03\x01\x01\x04\x02\x05\x01\x02\x03\x00\x02\x02\x01\x06"},
		{slices.Repeat([]impl.Op{deletion(nil)}, 60), "\x3c" + strings.Repeat("\x02\x00", 60)},
	}
	for _, c := range cases {
		if got := impl.PutScript(c.ops); got != c.s {
			t.Errorf("PutScript(%v) = %q, want %q", c.ops, got, c.s)
		}
		checkGetScript(t, c.s, c.ops)
		checkScriptFormat(t, c.s)
	}
}

func TestScriptFormatOfManyScripts(t *testing.T) {
	for _, ops := range manyScripts() {
		for _, o := range ops {
			if !impl.OpOk(o) {
				t.Fatalf("OpOk(%v) = false", o)
			}
		}
		checkScriptOk(t, ops, true)
		checkGetScript(t, scriptBytes(ops), ops)
	}
}

// Each range and label with some paths.
func TestScriptFormatOfEachInsertion(t *testing.T) {
	for from := range 25 {
		for count := range 25 {
			for label := range 6 {
				ops := []impl.Op{insertion(slices.Repeat([]int{count}, from/2), label, from, count), insertion(nil, label, from, count)}
				checkScriptOk(t, ops, true)
				checkGetScript(t, scriptBytes(ops), ops)
			}
		}
	}
}

// The best mappings of large trees have scripts with a format, as do those that
// map only the roots.
func TestScriptFormatOfLower(t *testing.T) {
	trees := greatTrees()
	for n, a := range trees {
		for k, b := range trees {
			for _, m := range [][]impl.Pair{pairsOf(0, 0), rooted(someMapping(a, b, uint32(100*n+k))), impl.BestMap(a.nodes, b.nodes, evenCost(1))} {
				ops := impl.Lower(a.nodes, b.nodes, m)
				checkScriptOk(t, ops, true)
				checkGetScript(t, scriptBytes(ops), ops)
			}
		}
	}
}

// listsOf returns all lists of n of the numbers.
func listsOf(numbers []int, n int) [][]int {
	out := [][]int{nil}
	for range n {
		var more [][]int
		for _, list := range out {
			for _, number := range numbers {
				more = append(more, append(slices.Clone(list), number))
			}
		}
		out = more
	}
	return out
}

// opsOver returns the valid operations whose formats have at most length bytes,
// with some numbers of which all are at most 5.
func opsOver(numbers []int, length int) []impl.Op {
	var out []impl.Op
	for _, steps := range numbers {
		if steps+2 > length {
			continue
		}
		for _, path := range listsOf(numbers, steps) {
			out = append(out, deletion(path))
			for _, label := range numbers {
				out = append(out, relabeling(path, label))
				for _, r := range listsOf(numbers, 2) {
					out = append(out, insertion(path, label, r[0], r[1]))
				}
			}
		}
	}
	return slices.DeleteFunc(out, func(o impl.Op) bool { return len(opBytes(o)) > length })
}

// scriptsOver adds the scripts that start with some operations, have n more, and
// have formats of at most length bytes after those, to the scripts by their
// formats.
func scriptsOver(start []impl.Op, some []impl.Op, n int, length int, found map[string][]impl.Op) {
	if n == 0 {
		found[scriptBytes(start)] = start
		return
	}
	for _, o := range some {
		if size := len(opBytes(o)); size <= length {
			scriptsOver(append(slices.Clone(start), o), some, n-1, length-size, found)
		}
	}
}

func TestGetScriptAcceptsNothingElse(t *testing.T) {
	const length = 7
	numbers := []int{0, 1, 2, 3, 5}
	some := opsOver(numbers, length-1)
	scripts := map[string][]impl.Op{}
	for _, n := range numbers {
		scriptsOver(nil, some, n, length-1, scripts)
	}
	// The others are no numbers of such a script.
	for _, s := range stringsOver("\x00\x01\x02\x03\x05\x19\x80", length) {
		got, code := impl.GetScript(s)
		want, ok := scripts[s]
		if (code == impl.ScOk) != ok || !sameOps(got, want) {
			t.Fatalf("GetScript(%q) = %v, %d, want %v, %v", s, got, code, want, ok)
		}
		delete(scripts, s)
	}
	if len(scripts) != 0 {
		t.Errorf("%d scripts were not tried", len(scripts))
	}
}

func TestGetScriptOfAllShortStrings(t *testing.T) {
	var all []byte
	for b := range 256 {
		all = append(all, byte(b))
	}
	pairs := stringsOver(string(all), 2)
	// What a script may start with, up to each place.
	for _, start := range []string{"", "\x01", "\x01\x01", "\x01\x02", "\x01\x03", "\x01\x01\x00", "\x01\x01\x02\x18", "\x01\x03\x00\x05", "\x01\x03\x00\x05\x18", "\x01\x02\x00", "\x02\x02\x00"} {
		for _, s := range pairs {
			checkScriptFormat(t, start+s)
		}
	}
	for _, s := range stringsOver("\x00\x01\x02\x03\x04\x06\x0d\x19\x80", 6) {
		checkScriptFormat(t, s)
	}
	for _, s := range stringsOver("\x00\x02\x05\x0c\x18\x3c\x3d\x7f\x81\xff", 5) {
		checkScriptFormat(t, s)
		checkScriptFormat(t, "\x02\x03"+s)
	}
}

// eachChange calls check with each start of s, and with each string that has one
// byte less than s, one more, or another one.
func eachChange(s string, check func(changed string)) {
	for i := range len(s) + 1 {
		check(s[:i])
		for b := range 256 {
			one := string([]byte{byte(b)})
			check(s[:i] + one + s[i:])
			if i < len(s) {
				check(s[:i] + one + s[i+1:])
			}
		}
		if i < len(s) {
			check(s[:i] + s[i+1:])
		}
	}
}

func TestScriptFormatOneByteChanged(t *testing.T) {
	for _, ops := range fewScripts() {
		eachChange(scriptBytes(ops), func(changed string) { checkScriptFormat(t, changed) })
	}
}

func TestScriptFormatCutOff(t *testing.T) {
	checkScriptError(t, "", impl.ScShort)
	for _, ops := range someScripts() {
		s := scriptBytes(ops)
		for i := range len(s) {
			checkScriptError(t, s[:i], impl.ScShort)
		}
		// A last byte that announces another one.
		checkScriptError(t, s[:len(s)-1]+"\x80", impl.ScShort)
	}
}

func TestScriptFormatOneExtraByte(t *testing.T) {
	for _, ops := range someScripts() {
		s := scriptBytes(ops)
		for b := range 256 {
			checkScriptError(t, s+string([]byte{byte(b)}), impl.ScLeft)
		}
	}
}

func TestScriptFormatMoreAtTheEnd(t *testing.T) {
	rests := []string{"\x00\x00", "\x02\x00", "\x80\x80", "\x80\x00", "\xff\xff\xff", "\n", " ", strings.Repeat("\x00", 100)}
	for _, ops := range fewScripts() {
		s := scriptBytes(ops)
		for _, rest := range append(rests, s) {
			checkScriptError(t, s+rest, impl.ScLeft)
		}
		// The empty script, with all of the other one left.
		checkScriptError(t, "\x00"+s, impl.ScLeft)
	}
}

// What comes behind the first error does not matter, and behind a script nothing
// may come.
func TestScriptErrorStaysWhateverFollows(t *testing.T) {
	rests := []string{"\x00", "\x01", "\x02\x00", "\x03\x00\x00\x00\x00", "\x06", "\x0d", "\x19", "\x3d", "\x80", "\xff\xff", strings.Repeat("\x00", 200)}
	for _, s := range stringsOver("\x00\x01\x02\x03\x04\x0d\x19\x80", 5) {
		_, code := impl.GetScript(s)
		if code == impl.ScShort {
			continue
		}
		if code == impl.ScOk {
			code = impl.ScLeft
		}
		for _, rest := range rests {
			checkScriptError(t, s+rest, code)
		}
	}
}

// beyond returns numbers that are wrong at a place of a script, some of which
// become right if their high bits are cut off.
func beyond(p place) []int {
	out := []int{p.most + 1, p.most + 2, 127, 128, 129, 130, 255, 256, 257, 258, 1 << 14, 1<<16 + 1, 1 << 32, 1<<32 + 1, impl.MaxVar - 1, impl.MaxVar}
	for n := range p.least {
		out = append(out, n)
	}
	return out
}

func TestScriptFormatNumberBeyondItsLimit(t *testing.T) {
	met := map[string]int{}
	for _, ops := range append(fewScripts(), anyOps(60, 1)) {
		s := scriptBytes(ops)
		for i, name := range placesOf(ops) {
			met[name]++
			for _, n := range beyond(places[name]) {
				start := s[:i] + impl.Var(n)
				checkScriptError(t, start+s[i+1:], places[name].code)
				// What follows the error does not matter, nor whether anything does.
				for _, rest := range []string{"", "\x80", "\x00", "\x3d\x3d"} {
					checkScriptError(t, start+rest, places[name].code)
				}
			}
		}
	}
	for name := range places {
		if met[name] < 3 {
			t.Errorf("the place %s was met %d times", name, met[name])
		}
	}
}

// The least and the greatest number at each place of a script of which nothing
// else changes with it.
func TestScriptFormatNumberAtItsLimit(t *testing.T) {
	for _, ops := range append(fewScripts(), anyOps(9, 2)) {
		s := scriptBytes(ops)
		for i, name := range placesOf(ops) {
			if name == "size" || name == "kind" || name == "steps" {
				continue
			}
			for n := places[name].least; n <= places[name].most; n++ {
				want, code := scriptIn(withNumber(s, i, n))
				if code != 0 {
					t.Fatalf("%q with %d at %d has the code %d", s, n, i, code)
				}
				checkGetScript(t, withNumber(s, i, n), want)
				checkScriptOk(t, want, true)
			}
		}
	}
}

// unread lists bytes with which no number starts: too long, or not in the
// shortest form.
var unread = []string{
	"\x80\x00", "\x81\x00", "\x83\x00", "\x8c\x00", "\x80\x80\x00", "\x81\x80\x80\x00", "\xff\x00", "\x80\x80\x80\x80\x80\x80\x00",
	strings.Repeat("\x80", 7) + "\x01", strings.Repeat("\xff", 7) + "\x7f", strings.Repeat("\x80", 7) + "\x00", "\x81" + strings.Repeat("\x80", 100),
}

func TestScriptFormatNumberCannotBeRead(t *testing.T) {
	for _, ops := range append(fewScripts(), anyOps(60, 3)) {
		s := scriptBytes(ops)
		for i := range len(s) {
			for _, number := range unread {
				checkScriptError(t, s[:i]+number+s[i+1:], impl.ScShort)
				checkScriptError(t, s[:i]+number, impl.ScShort)
				checkScriptError(t, s[:i]+number+"\x3d\x19\x0d", impl.ScShort)
			}
			// The same number in two bytes.
			checkScriptError(t, s[:i]+string([]byte{s[i] | 128, 0})+s[i+1:], impl.ScShort)
			// Cut off within it.
			for _, number := range []string{"\x80", "\xff", "\x80\x80", "\xff\xff\xff\xff\xff\xff"} {
				checkScriptError(t, s[:i]+number, impl.ScShort)
			}
		}
	}
}

// badScriptNumbers returns some numbers that are wrong at a place of a script, each
// with its code.
func badScriptNumbers(name string) map[string]int {
	p := places[name]
	bad := map[string]int{"\x81\x00": impl.ScShort, impl.Var(p.most + 1): p.code, impl.Var(128 + p.most): p.code}
	if p.least > 0 {
		bad["\x00"] = p.code
	}
	return bad
}

func TestScriptFormatFirstOfAnyTwoErrors(t *testing.T) {
	for _, ops := range fewScripts()[:11] {
		s, names := scriptBytes(ops), placesOf(ops)
		for i, name := range names {
			for first, code := range badScriptNumbers(name) {
				start := s[:i] + first
				for k := i + 1; k < len(s); k++ {
					for second := range badScriptNumbers(names[k]) {
						checkScriptError(t, start+s[i+1:k]+second+s[k+1:], code)
					}
					checkScriptError(t, start+s[i+1:k], code)
				}
				checkScriptError(t, start+s[i+1:]+"\x00", code)
			}
		}
	}
}

// Each input has two errors; the one whose bytes come first decides.
func TestScriptFormatFirstOfTwoErrors(t *testing.T) {
	cases := []struct {
		s    string
		want int
	}{
		// The number of operations and then each other error.
		{"\x3d", impl.ScSize}, {"\x3d\x80", impl.ScSize}, {"\x3d\x04", impl.ScSize}, {"\x3d\x01\x0d", impl.ScSize}, {"\x3d\x01\x00\x06", impl.ScSize},
		{"\x3d\x03\x00\x00\x19", impl.ScSize}, {"\x3d" + strings.Repeat("\x02\x00", 62), impl.ScSize}, {"\x80\x00\x04", impl.ScShort}, {"\xbd\x00", impl.ScShort},
		// A kind and then each other error.
		{"\x01\x00", impl.ScKind}, {"\x01\x04", impl.ScKind}, {"\x01\x04\x80", impl.ScKind}, {"\x01\x04\x0d", impl.ScKind}, {"\x01\x00\x00\x06", impl.ScKind},
		{"\x01\x04\x00\x00\x00\x00\x00", impl.ScKind}, {"\x02\x02\x00\x00", impl.ScKind}, {"\x02\x00\x00\x02\x0d", impl.ScKind}, {"\x01\x81\x00\x0d", impl.ScShort},
		// A length of the path and then each other error.
		{"\x01\x01\x0d", impl.ScPath}, {"\x01\x02\x0d\x80", impl.ScPath}, {"\x01\x03\x0d\x19", impl.ScPath}, {"\x01\x01\x0d\x00\x06", impl.ScPath},
		{"\x02\x02\x0d\x04", impl.ScPath}, {"\x01\x01\x8d\x00\x06", impl.ScShort},
		// An element of the path and then each other error.
		{"\x01\x01\x01\x19", impl.ScPath}, {"\x01\x02\x02\x19", impl.ScPath}, {"\x01\x03\x02\x19\x80", impl.ScPath}, {"\x01\x01\x01\x19\x06", impl.ScPath},
		{"\x01\x03\x01\x19\x00\x19\x19", impl.ScPath}, {"\x01\x02\x01\x19\x00", impl.ScPath}, {"\x01\x01\x01\x99\x00\x06", impl.ScShort}, {"\x01\x01\x02\x00\x80", impl.ScShort},
		// A label and then each other error.
		{"\x01\x01\x00\x06", impl.ScLabel}, {"\x01\x03\x00\x06", impl.ScLabel}, {"\x01\x03\x00\x06\x19\x19", impl.ScLabel}, {"\x01\x03\x00\x06\x80", impl.ScLabel},
		{"\x01\x01\x00\x06\x00", impl.ScLabel}, {"\x02\x01\x00\x06\x04", impl.ScLabel}, {"\x01\x03\x00\x80\x00\x19", impl.ScShort},
		// From, Count, and then each other error.
		{"\x01\x03\x00\x00\x19", impl.ScRange}, {"\x01\x03\x00\x00\x19\x80", impl.ScRange}, {"\x01\x03\x00\x00\x00\x19\x00", impl.ScRange}, {"\x02\x03\x00\x00\x00\x19\x04", impl.ScRange},
		{"\x01\x03\x00\x00\x99\x00\x19", impl.ScShort}, {"\x01\x03\x00\x00\x00\x99\x00\x00", impl.ScShort}, {"\x01\x03\x00\x00\x00", impl.ScShort},
	}
	for _, c := range cases {
		checkScriptError(t, c.s, c.want)
		checkScriptFormat(t, c.s)
	}
}

// A path of 12 steps is the longest one.
func TestScriptPathTooLong(t *testing.T) {
	for length := range 40 {
		for _, rank := range []int{0, 3, 24} {
			path := slices.Repeat([]int{rank}, length)
			for _, o := range []impl.Op{relabeling(path, 0), relabeling(path, 5), deletion(path), insertion(path, 1, 0, 0), insertion(path, 5, 24, 24)} {
				checkOpOk(t, o, length <= 12)
				s := scriptBytes([]impl.Op{o})
				if length <= 12 {
					checkGetScript(t, s, []impl.Op{o})
					checkGetScript(t, scriptBytes([]impl.Op{deletion(nil), o, o}), []impl.Op{deletion(nil), o, o})
					continue
				}
				// With all elements of the path, with some, and with none.
				for end := 3; end <= len(s); end++ {
					checkScriptError(t, s[:end], impl.ScPath)
					checkScriptError(t, s[:end]+"\x80", impl.ScPath)
				}
				checkScriptError(t, scriptBytes([]impl.Op{deletion(nil), o, o}), impl.ScPath)
				checkScriptError(t, scriptBytes([]impl.Op{deletion(nil), o})[:5], impl.ScPath)
			}
		}
	}
	for _, length := range []int{127, 128, 140, 256, 256 + 12, 1 << 16, 1 << 32, impl.MaxVar} {
		for kind := 1; kind <= 3; kind++ {
			checkScriptError(t, "\x01"+impl.Var(kind)+impl.Var(length), impl.ScPath)
			checkScriptError(t, "\x01"+impl.Var(kind)+impl.Var(length)+strings.Repeat("\x00", 300), impl.ScPath)
		}
	}
	for _, length := range []int{100, 128, 256, 268, 100000} {
		checkOpOk(t, deletion(make([]int, length)), false)
		checkOpOk(t, relabeling(make([]int, length), 1), false)
		checkOpOk(t, insertion(make([]int, length), 1, 0, 0), false)
	}
}

// The one operation that is wrong may be anywhere in a script of the most
// operations.
func TestScriptPathTooLongAnywhere(t *testing.T) {
	long := deletion(make([]int, 13))
	for i := range 60 {
		ops := anyOps(60, uint32(i))
		ops[i] = deletion(make([]int, 12))
		checkScriptOk(t, ops, true)
		checkGetScript(t, scriptBytes(ops), ops)
		ops[i] = long
		checkScriptOk(t, ops, false)
		checkScriptError(t, scriptBytes(ops), impl.ScPath)
		end := len(scriptBytes(ops[:i])) + 2
		checkScriptError(t, scriptBytes(ops)[:end], impl.ScPath)
	}
}

func TestScriptElementOfThePath(t *testing.T) {
	for length := 1; length <= 12; length++ {
		for i := range length {
			for _, rank := range append([]int{0, 1, 23, 24}, far...) {
				path := make([]int, length)
				path[i] = rank
				for _, o := range []impl.Op{relabeling(path, 1), deletion(path), insertion(path, 1, 2, 3)} {
					checkOpOk(t, o, 0 <= rank && rank <= 24)
				}
			}
			path := make([]int, length)
			path[i] = 25
			for _, o := range []impl.Op{relabeling(path, 1), deletion(path), insertion(path, 1, 2, 3)} {
				s := scriptBytes([]impl.Op{o})
				checkScriptError(t, s, impl.ScPath)
				checkScriptError(t, s[:4+i], impl.ScPath)
				checkScriptError(t, s[:3+i], impl.ScShort)
			}
		}
	}
}

// Sixty operations are the most.
func TestScriptMostOperations(t *testing.T) {
	for _, o := range []impl.Op{deletion(nil), relabeling([]int{1}, 5), insertion(slices.Repeat([]int{24}, 12), 5, 24, 24)} {
		for n := range 130 {
			ops := slices.Repeat([]impl.Op{o}, n)
			checkScriptOk(t, ops, n <= 60)
			s := impl.Var(n) + scriptBytes(ops)[1:]
			if n <= 60 {
				checkGetScript(t, s, ops)
				continue
			}
			checkScriptError(t, s, impl.ScSize)
			checkScriptError(t, s[:len(impl.Var(n))], impl.ScSize)
			checkScriptError(t, "\x3c"+s[len(impl.Var(n)):], impl.ScLeft)
		}
		checkScriptOk(t, slices.Repeat([]impl.Op{o}, 256), false)
		checkScriptOk(t, slices.Repeat([]impl.Op{o}, 256+60), false)
		checkScriptOk(t, slices.Repeat([]impl.Op{o}, 100000), false)
	}
	for _, n := range []int{61, 62, 100, 127, 128, 256, 256 + 60, 1 << 16, 1 << 32, 1<<32 + 1, impl.MaxVar} {
		for _, rest := range []string{"", "\x02\x00", strings.Repeat("\x02\x00", n%1000), "\x04", "\x80"} {
			checkScriptError(t, impl.Var(n)+rest, impl.ScSize)
		}
	}
	// One operation of many is wrong, or there are too many and one is wrong.
	for _, n := range []int{60, 61} {
		for _, i := range []int{0, 1, n / 2, n - 1} {
			ops := slices.Repeat([]impl.Op{deletion(nil)}, n)
			ops[i].Kind = 4
			checkScriptOk(t, ops, false)
		}
	}
}

func TestOpOkOfSomeOperations(t *testing.T) {
	cases := []struct {
		o    impl.Op
		want bool
	}{
		{impl.Op{}, false}, {impl.Op{Kind: 1}, true}, {impl.Op{Kind: 2}, true}, {impl.Op{Kind: 3}, true}, {impl.Op{Kind: 4}, false}, {impl.Op{Kind: -1}, false},
		{impl.Op{Kind: -2}, false}, {impl.Op{Kind: 256 + 2}, false}, {impl.Op{Kind: 1<<32 + 1}, false}, {impl.Op{Kind: math.MinInt}, false}, {impl.Op{Kind: math.MaxInt}, false},
		{impl.Op{Kind: 1, Label: 5}, true}, {impl.Op{Kind: 1, Label: 6}, false}, {impl.Op{Kind: 1, Label: -1}, false},
		{impl.Op{Kind: 3, Label: 5}, true}, {impl.Op{Kind: 3, Label: 6}, false}, {impl.Op{Kind: 3, Label: -1}, false},
		// A deletion has no label, so that it is 0 even where another one is valid.
		{impl.Op{Kind: 2, Label: 1}, false}, {impl.Op{Kind: 2, Label: 5}, false}, {impl.Op{Kind: 2, Label: 6}, false}, {impl.Op{Kind: 2, Label: -1}, false},
		// Only an insertion has a range.
		{impl.Op{Kind: 1, From: 1}, false}, {impl.Op{Kind: 1, From: -1}, false}, {impl.Op{Kind: 1, From: 24}, false}, {impl.Op{Kind: 1, Count: 1}, false}, {impl.Op{Kind: 1, Count: -1}, false},
		{impl.Op{Kind: 2, From: 1}, false}, {impl.Op{Kind: 2, From: -1}, false}, {impl.Op{Kind: 2, From: 24}, false}, {impl.Op{Kind: 2, Count: 1}, false}, {impl.Op{Kind: 2, Count: -1}, false},
		{impl.Op{Kind: 3, From: 24}, true}, {impl.Op{Kind: 3, From: 25}, false}, {impl.Op{Kind: 3, From: -1}, false}, {impl.Op{Kind: 3, From: 12, Count: 24}, true},
		{impl.Op{Kind: 3, Count: 24}, true}, {impl.Op{Kind: 3, Count: 25}, false}, {impl.Op{Kind: 3, Count: -1}, false}, {impl.Op{Kind: 3, From: 24, Count: 24}, true},
	}
	for _, c := range cases {
		checkOpOk(t, c.o, c.want)
	}
}

// Each combination of numbers within the limits and beyond them.
func TestOpOkOfAllFields(t *testing.T) {
	paths := [][]int{nil, {}, {0}, {24}, {25}, {-1}, make([]int, 12), make([]int, 13), {1, 2, 24, 3}, {1, 2, 3, 25}, {math.MinInt, 0}}
	kinds := append([]int{0, 1, 2, 3, 4, 5, -3, 257, 1<<32 + 2}, far...)
	numbers := []int{-1, 0, 1, 5, 6, 24, 25, 256, 1 << 32, math.MinInt}
	for _, kind := range kinds {
		for n, path := range paths {
			for _, label := range numbers {
				for _, from := range numbers {
					for _, count := range numbers {
						o := impl.Op{Kind: kind, Path: path, Label: label, From: from, Count: count}
						want := opValid(o)
						if impl.OpOk(o) != want || impl.ScriptOk([]impl.Op{o}) != want || impl.ScriptOk([]impl.Op{deletion(nil), o}) != want {
							t.Fatalf("OpOk(%v) = %v, want %v", o, impl.OpOk(o), want)
						}
						if want && n < 4 || label == from {
							checkOpOk(t, o, want)
						}
					}
				}
			}
		}
	}
}

// A valid operation with another number in one field, which may be valid too.
func TestOpOkOneNumberChanged(t *testing.T) {
	for i, o := range limitOps() {
		checkOpOk(t, o, true)
		if i%7 != 0 {
			continue
		}
		for _, changed := range changedOps(o) {
			checkOpOk(t, changed, opValid(changed))
		}
	}
}

// An operation is valid even if there is no tree that it can be applied to.
func TestOpOkDoesNotNeedATree(t *testing.T) {
	for _, ops := range [][]impl.Op{{deletion(nil)}, {insertion(nil, 0, 24, 24)}, {relabeling(slices.Repeat([]int{24}, 12), 0)}} {
		checkScriptOk(t, ops, true)
		checkGetScript(t, scriptBytes(ops), ops)
	}
}

// No list of operations is written unless it is valid, so nothing reads it back.
func TestPutScriptInvalid(t *testing.T) {
	bad := []impl.Op{{}, {Kind: 4}, {Kind: -1}, deletion(make([]int, 13)), deletion([]int{25}), deletion([]int{-1}), {Kind: 2, Label: 1}, relabeling(nil, 6), relabeling(nil, -1), {Kind: 1, From: 1}, insertion(nil, 0, 25, 0), insertion(nil, 0, 0, -1)}
	for n := range 60 {
		ops := anyOps(n, uint32(n))
		for i := range n + 1 {
			o := bad[(n+i)%len(bad)]
			checkScriptOk(t, slices.Insert(slices.Clone(ops), i, o), false)
		}
	}
	for _, o := range bad {
		checkOpOk(t, o, false)
		checkScriptOk(t, slices.Repeat([]impl.Op{o}, 60), false)
	}
	checkScriptError(t, impl.PutScript([]impl.Op{{}}), impl.ScShort)
}

func TestScriptFormatForeign(t *testing.T) {
	for _, s := range []string{"", "\x80", "0", "script", "delete .0", "div(p(a) b)", strings.Repeat("\xff", 60), strings.Repeat("\x80", 1000), strings.Repeat("\x00", 1000), "\n", "\x01\x01"} {
		if _, code := impl.GetScript(s); code == impl.ScOk {
			t.Errorf("GetScript(%q) accepts it", s)
		}
		checkScriptFormat(t, s)
	}
	for _, d := range manyTrees() {
		checkScriptFormat(t, treeBytes(d.nodes))
	}
	for _, c := range manyCosts() {
		checkScriptFormat(t, costBytes(c))
	}
}

func TestScriptCodeNames(t *testing.T) {
	cases := []struct {
		code, number int
		want         string
	}{
		{impl.ScOk, 0, "ok"},
		{impl.ScShort, 1, "short"},
		{impl.ScSize, 2, "size"},
		{impl.ScKind, 3, "kind"},
		{impl.ScPath, 4, "path"},
		{impl.ScLabel, 5, "label"},
		{impl.ScRange, 6, "range"},
		{impl.ScLeft, 7, "left"},
	}
	for _, c := range cases {
		if c.code != c.number {
			t.Errorf("the code %s is %d, want %d", c.want, c.code, c.number)
		}
		if got := impl.ScriptCode(c.code); got != c.want {
			t.Errorf("ScriptCode(%d) = %q, want %q", c.code, got, c.want)
		}
	}
	if impl.MaxOps != 60 {
		t.Errorf("MaxOps is %d", impl.MaxOps)
	}
}

func TestScriptCodeOfNoCode(t *testing.T) {
	for _, n := range append([]int{8, 9, -7, -8, 128, -256, 1<<32 + 1, math.MaxInt32, math.MinInt32, 1 << 62}, far...) {
		if got := impl.ScriptCode(n); got != "" {
			t.Errorf("ScriptCode(%d) = %q, want none", n, got)
		}
	}
	for n := 8; n < 1000; n++ {
		if impl.ScriptCode(n) != "" || impl.ScriptCode(7-n) != "" {
			t.Errorf("ScriptCode(%d) = %q, ScriptCode(%d) = %q", n, impl.ScriptCode(n), 7-n, impl.ScriptCode(7-n))
		}
	}
}

func checkScriptCost(t *testing.T, l []impl.Node, ops []impl.Op, c impl.Cost, want int) {
	t.Helper()
	if got := impl.ScriptCost(l, ops, c); got != want {
		t.Fatalf("ScriptCost(%v, %v, %v) = %d, want %d", l, ops, c, got, want)
	}
}

func TestScriptCostOfSomeTrees(t *testing.T) {
	c := countedCost(0, 1) // Del from 1, Ins from 7, and Rel from 13 on
	cases := []struct {
		s    string
		ops  []impl.Op
		want int
	}{
		{"div", nil, 0},
		{"div(p(a) b)", []impl.Op{}, 0},
		{"div", []impl.Op{relabeling(nil, 1)}, 14},
		{"p", []impl.Op{relabeling(nil, 0)}, 19},
		{"b", []impl.Op{relabeling(nil, 4)}, 47},
		{"div(p)", []impl.Op{deletion([]int{0})}, 2},
		{"div(b)", []impl.Op{deletion([]int{0})}, 6},
		{"div", []impl.Op{insertion(nil, 0, 0, 0)}, 7},
		{"div", []impl.Op{insertion(nil, 5, 0, 0)}, 12},
		// To relabel a node to its own label costs nothing.
		{"div(p(a) b)", []impl.Op{relabeling(nil, 0), relabeling([]int{0, 0}, 2), relabeling([]int{1}, 5)}, 0},
		// The old label is that at the time of the operation.
		{"div", []impl.Op{relabeling(nil, 1), relabeling(nil, 2)}, 14 + 21},
		{"div", []impl.Op{relabeling(nil, 1), relabeling(nil, 0)}, 14 + 19},
		{"div(p)", []impl.Op{relabeling([]int{0}, 4), deletion([]int{0})}, 23 + 5},
		{"div(p(a))", []impl.Op{deletion([]int{0}), deletion([]int{0})}, 2 + 3},
		{"div(p a)", []impl.Op{deletion([]int{1}), deletion([]int{0})}, 3 + 2},
		{"div", []impl.Op{insertion(nil, 3, 0, 0), deletion([]int{0})}, 10 + 4},
		{"div", []impl.Op{insertion(nil, 3, 0, 0), relabeling([]int{0}, 5)}, 10 + 36},
		// A node costs the same with children as without.
		{"div(p(a b) ul)", []impl.Op{deletion([]int{0})}, 2},
		{"div(p(a b) ul)", []impl.Op{insertion(nil, 4, 0, 2)}, 11},
		{"div(p(a b) ul)", []impl.Op{insertion([]int{0}, 4, 1, 1), relabeling([]int{0, 1, 0}, 3), deletion([]int{0}), insertion(nil, 1, 3, 0)}, 11 + 46 + 2 + 8},
	}
	for _, x := range cases {
		checkScriptCost(t, treeIn(x.s), x.ops, c, x.want)
		checkSum(t, drawnIn(x.s), x.ops, c)
	}
}

// checkSum holds ScriptCost to the sum of what each operation changes.
func checkSum(t *testing.T, d *drawn, ops []impl.Op, c impl.Cost) {
	t.Helper()
	changes, _ := changesOf(t, d, ops)
	checkScriptCost(t, d.nodes, ops, c, costOf(changes, c))
}

func TestScriptCostIsASum(t *testing.T) {
	costs := append(distCosts(), manyCosts()...)
	for n, d := range append(scriptTrees(), greatTrees()...) {
		for length := range 16 {
			ops, trees := someScript(d, length, uint32(100*n+length))
			changes, _ := changesOf(t, d, ops)
			for _, c := range costs {
				checkScriptCost(t, d.nodes, ops, c, costOf(changes, c))
			}
			// In two parts, cut at each place.
			c := costs[(n+5*length)%len(costs)]
			whole := impl.ScriptCost(d.nodes, ops, c)
			for cut, e := range trees {
				first, second := impl.ScriptCost(d.nodes, ops[:cut], c), impl.ScriptCost(e.nodes, ops[cut:], c)
				if first+second != whole {
					t.Fatalf("ScriptCost(%v, %v, %v) = %d, but its parts cost %d and %d", d.nodes, ops, c, whole, first, second)
				}
			}
		}
	}
}

// Every operation that can be applied to one of many trees.
func TestScriptCostOfOneOperation(t *testing.T) {
	costs := append(fewCosts(), countedCost(0, 1))
	for _, d := range append(smallTrees(5), greatTrees()...) {
		for i := range d.nodes {
			for n, o := range opsAt(d, i) {
				if _, code := performed(d, o); code != 0 {
					checkScriptCost(t, d.nodes, []impl.Op{o}, costs[n%5], -1)
				} else {
					checkSum(t, d, []impl.Op{o}, costs[n%5])
				}
			}
		}
	}
}

// Each cost is the one of its label, and no other one matters.
func TestScriptCostTakesEachCostFromItsTable(t *testing.T) {
	for a := range 6 {
		leaf := []impl.Node{{}, {Label: a, Depth: 1}}
		for table, size := range tableSizes {
			for i := range size {
				if isSame(table, i) {
					continue
				}
				c := withElement(evenCost(1), table, i, 500)
				for b := range 6 {
					rel, del, ins := free(2, 6*a+b, 1), 1, 1
					if table == 2 && i == 6*a+b {
						rel = 500
					}
					if table == 0 && i == a {
						del = 500
					}
					if table == 1 && i == b {
						ins = 500
					}
					checkScriptCost(t, leaf, []impl.Op{relabeling([]int{0}, b)}, c, rel)
					checkScriptCost(t, leaf, []impl.Op{deletion([]int{0})}, c, del)
					checkScriptCost(t, leaf, []impl.Op{insertion([]int{0}, b, 0, 0)}, c, ins)
					checkScriptCost(t, leaf, []impl.Op{insertion(nil, b, 0, 1)}, c, ins)
				}
			}
		}
	}
}

// Whether a script has a format does not matter for what it costs: it may have
// more than 60 operations, and numbers that have no use.
func TestScriptCostOfAScriptWithoutFormat(t *testing.T) {
	d := drawnIn("p(a(ul) b li)")
	round := []impl.Op{insertion(nil, 0, 1, 2), relabeling([]int{1}, 3), deletion([]int{1}), relabeling(nil, 5), relabeling(nil, 1)}
	for _, c := range distCosts() {
		once := c.Ins[0] + c.Rel[3] + c.Del[3] + c.Rel[11] + c.Rel[31]
		for _, times := range []int{1, 12, 13, 52, 400} {
			checkScriptCost(t, d.nodes, slices.Repeat(round, times), c, times*once)
			checkScriptCost(t, d.nodes, append(slices.Repeat(round, times), impl.Op{}), c, -1)
		}
		for _, n := range append([]int{1, 6}, far...) {
			checkScriptCost(t, d.nodes, []impl.Op{{Kind: 2, Path: []int{0}, Label: n, From: n, Count: n}}, c, c.Del[2])
			checkScriptCost(t, d.nodes, []impl.Op{{Kind: 1, Path: []int{0}, Label: 4, From: n, Count: n}}, c, c.Rel[16])
		}
	}
}

// The greatest costs that a script with a format can have.
func TestScriptCostLargestCosts(t *testing.T) {
	c := evenCost(impl.MaxCost)
	for _, d := range scriptTrees() {
		label := (d.nodes[0].Label + 1) % 6
		var ops []impl.Op
		for i := range 60 {
			ops = append(ops, relabeling(nil, (label+i)%6))
		}
		checkScriptCost(t, d.nodes, ops, c, 60000)
	}
	wide := draw(star(impl.MaxNodes))
	checkScriptCost(t, wide.nodes, slices.Repeat([]impl.Op{deletion([]int{0})}, 23), c, 23000)
	checkScriptCost(t, wide.nodes[:1], slices.Repeat([]impl.Op{insertion(nil, 2, 0, 0)}, 23), c, 23000)
}

// An operation that fails leaves no cost, wherever it is.
func TestScriptCostOfAFailure(t *testing.T) {
	codes := map[int]int{}
	for n, d := range scriptTrees() {
		ops, trees := someScript(d, 8, uint32(n))
		c := distCosts()[n%17]
		checkSum(t, d, ops, c)
		for k, e := range trees {
			for _, o := range failing(e) {
				_, code := performed(e, o)
				codes[code]++
				script := slices.Insert(slices.Clone(ops), k, o)
				checkScriptCost(t, d.nodes, script, c, -1)
				checkScriptCost(t, d.nodes, script[:k+1], c, -1)
				checkScriptCost(t, d.nodes, slices.Insert(slices.Clone(script), k, o), c, -1)
				checkScriptCost(t, d.nodes, append(script, impl.Op{}), c, -1)
				// Where nothing costs anything, too.
				checkScriptCost(t, d.nodes, script, evenCost(0), -1)
				checkScriptCost(t, d.nodes, script, withElement(c, 0, 0, -1), -1)
			}
		}
	}
	for code := 1; code <= 7; code++ {
		if codes[code] < 5 {
			t.Errorf("the code %d was met %d times", code, codes[code])
		}
	}
}

func TestScriptCostOfInvalidTrees(t *testing.T) {
	scripts := [][]impl.Op{nil, {}, {relabeling(nil, 1)}, {deletion([]int{0})}, {insertion(nil, 1, 0, 0)}, {deletion(nil)}, {{}}}
	for _, l := range append(invalidTrees(), treeIn("div(p)")[:0]) {
		for _, ops := range scripts {
			for _, c := range []impl.Cost{evenCost(1), evenCost(0), {}, withElement(evenCost(1), 1, 1, -1)} {
				checkScriptCost(t, l, ops, c, -1)
			}
		}
	}
}

// The costs count as a whole, whether or not the script needs those that are
// wrong.
func TestScriptCostOfInvalidCosts(t *testing.T) {
	d := drawnIn("div(p(a) b)")
	scripts := [][]impl.Op{nil, {}, {relabeling(nil, 0)}, {relabeling(nil, 1)}, {deletion([]int{0})}, {insertion(nil, 5, 0, 0)}, {deletion(nil)}, {relabeling(nil, 1), {}}}
	for _, c := range invalidCosts() {
		for _, ops := range scripts {
			checkScriptCost(t, d.nodes, ops, c, -1)
			checkScriptCost(t, treeIn("b"), ops, c, -1)
			checkScriptCost(t, nil, ops, c, -1)
		}
	}
	for _, c := range someCosts() {
		for table, size := range tableSizes {
			for i := range size {
				checkScriptCost(t, d.nodes, nil, withElement(c, table, i, impl.MaxCost+1), -1)
				checkScriptCost(t, d.nodes, nil, withElement(c, table, i, -1), -1)
			}
		}
	}
}

// checkMapScriptCost holds the cost of the script of a mapping to that of the
// mapping.
func checkMapScriptCost(t *testing.T, a *drawn, b *drawn, m []impl.Pair, c impl.Cost) {
	t.Helper()
	want := summed(a, b, c, m)
	checkScriptCost(t, a.nodes, impl.Lower(a.nodes, b.nodes, m), c, want)
	checkMapCost(t, a.nodes, b.nodes, c, m, want)
}

func TestScriptCostIsMapCostOfAllMappings(t *testing.T) {
	trees := smallTrees(4)
	for n, a := range trees {
		for k, b := range trees {
			for i, m := range rootedMappings(a, b, ascendingLists(a, b)) {
				for _, c := range distCosts() {
					checkMapScriptCost(t, a, b, m, c)
				}
				for seed := range uint32(6) {
					from, to := mixed(a, seed+uint32(100*n), 2+int(seed)/2), mixed(b, seed+uint32(100*k+i), 2+int(seed)/2)
					checkMapScriptCost(t, from, to, m, distCosts()[(i+int(seed))%17])
				}
			}
		}
	}
}

func TestScriptCostIsMapCostOfGreatMappings(t *testing.T) {
	trees := greatTrees()
	for n, a := range trees {
		for k, b := range trees {
			for seed := range uint32(4) {
				m := rooted(someMapping(a, b, uint32(100*n+k)+10000*seed))
				for _, c := range []impl.Cost{evenCost(1), distCosts()[(n+3*k)%17], variedCost(uint32(n+k), impl.MaxCost+1)} {
					checkMapScriptCost(t, a, b, m, c)
					checkMapScriptCost(t, a, b, pairsOf(0, 0), c)
				}
			}
		}
	}
}

func TestScriptCostOfTheBestMappingIsRootDist(t *testing.T) {
	for n, trees := range [][]*drawn{greatTrees(), relabeledTrees(3, 1, 4)} {
		for i, a := range trees {
			for k, b := range trees {
				for _, c := range []impl.Cost{evenCost(1), distCosts()[(n+i+3*k)%17]} {
					m := impl.BestMap(a.nodes, b.nodes, c)
					checkScriptCost(t, a.nodes, impl.Lower(a.nodes, b.nodes, m), c, impl.RootDist(a.nodes, b.nodes, c))
					checkMapScriptCost(t, a, b, m, c)
				}
			}
		}
	}
}

// closed returns costs that keep the triangle inequality: no change costs more
// than a way over other labels.
func closed(c impl.Cost) impl.Cost {
	var least [7][7]int // 6 stands for no node
	for a := range 6 {
		least[a][6], least[6][a] = c.Del[a], c.Ins[a]
		for b := range 6 {
			least[a][b] = c.Rel[6*a+b]
		}
	}
	for over := range 6 {
		for a := range 7 {
			for b := range 7 {
				least[a][b] = min(least[a][b], least[a][over]+least[over][b])
			}
		}
	}
	return costFrom(func(table int, i int) int {
		return []int{least[i%7][6], least[6][i%7], least[i/6][i%6]}[table]
	})
}

// closedCosts returns costs that keep the triangle inequality, of which the first
// ones are unit costs.
func closedCosts() []impl.Cost {
	out := []impl.Cost{impl.UnitCost()}
	for _, c := range append(distCosts(), manyCosts()...) {
		out = append(out, closed(c))
	}
	return out
}

func TestNoDrawnScriptIsCheaperThanRootDist(t *testing.T) {
	costs := closedCosts()
	for n, d := range append(scriptTrees(), greatTrees()...) {
		for seed := range uint32(6) {
			ops, trees := someScript(d, 10, 100*seed+uint32(n))
			for length, e := range trees {
				for _, c := range []impl.Cost{costs[0], costs[(n+11*length+int(seed))%len(costs)]} {
					least := impl.RootDist(d.nodes, e.nodes, c)
					if got := impl.ScriptCost(d.nodes, ops[:length], c); got < least {
						t.Fatalf("ScriptCost(%v, %v, %v) = %d, but the distance is %d", d.nodes, ops[:length], c, got, least)
					}
				}
			}
		}
	}
}

// stepsAmong lists, for each of some trees, the operations that lead to another of
// them, by the index of that one.
func stepsAmong(trees []*drawn, labels []int) []map[int][]impl.Op {
	index := map[string]int{}
	for i, d := range trees {
		index[treeBytes(d.nodes)] = i
	}
	var out []map[int][]impl.Op
	for _, d := range trees {
		steps := map[int][]impl.Op{}
		for i := range d.nodes {
			ops := []impl.Op{deletion(d.path(i))}
			for _, label := range labels {
				ops = append(ops, relabeling(d.path(i), label))
				for _, o := range insertionsAt(d, i) {
					o.Label = label
					ops = append(ops, o)
				}
			}
			for _, o := range ops {
				e, code := performed(d, o)
				if to, ok := index[treeBytes(e.nodes)]; ok && code == 0 {
					steps[to] = append(steps[to], o)
				}
			}
		}
		out = append(out, steps)
	}
	return out
}

// Over all scripts among small trees, the cheapest one costs the distance where
// the costs keep the triangle inequality, and no more than that where they do not.
func TestCheapestScriptCostsRootDist(t *testing.T) {
	trees := relabeledTrees(4, 1, 4)
	steps := stepsAmong(trees, []int{1, 4})
	check := func(c impl.Cost, exact bool) {
		least := cheapest(trees, steps, c)
		for i, a := range trees {
			for k, b := range trees {
				dist := impl.RootDist(a.nodes, b.nodes, c)
				if least[i][k] > dist || exact && least[i][k] < dist {
					t.Fatalf("the cheapest script from %v to %v costs %d with %v, but the distance is %d", a.nodes, b.nodes, least[i][k], c, dist)
				}
			}
		}
	}
	for i, c := range closedCosts() {
		if i%3 == 0 {
			check(c, true)
		}
	}
	for _, c := range distCosts() {
		check(c, false)
	}
}

// cheapest returns the least cost of a script from each of some trees to each
// other one, with only these steps.
func cheapest(trees []*drawn, steps []map[int][]impl.Op, c impl.Cost) [][]int {
	const none = 1 << 30
	out := make([][]int, len(trees))
	for i, d := range trees {
		out[i] = slices.Repeat([]int{none}, len(trees))
		out[i][i] = 0
		for to, ops := range steps[i] {
			for _, o := range ops {
				out[i][to] = min(out[i][to], impl.ScriptCost(d.nodes, []impl.Op{o}, c))
			}
		}
	}
	for over := range trees {
		for i := range trees {
			for k := range trees {
				out[i][k] = min(out[i][k], out[i][over]+out[over][k])
			}
		}
	}
	return out
}

func checkSameOps(t *testing.T, a []impl.Op, b []impl.Op, want bool) {
	t.Helper()
	if impl.SameOps(a, b) != want || impl.SameOps(b, a) != want {
		t.Fatalf("SameOps(%v, %v) = %v, want %v", a, b, !want, want)
	}
}

// changedOps returns operations that differ from one in a single field each.
func changedOps(o impl.Op) []impl.Op {
	var out []impl.Op
	change := func(edit func(o *impl.Op)) {
		p := o
		p.Path = slices.Clone(o.Path)
		edit(&p)
		out = append(out, p)
	}
	for _, n := range []int{1, -1, 256, 1 << 32, math.MinInt} {
		change(func(p *impl.Op) { p.Kind += n })
		change(func(p *impl.Op) { p.Label += n })
		change(func(p *impl.Op) { p.From += n })
		change(func(p *impl.Op) { p.Count += n })
		change(func(p *impl.Op) { p.Path = append(p.Path, n) })
		for i := range o.Path {
			change(func(p *impl.Op) { p.Path[i] += n })
			change(func(p *impl.Op) { p.Path = slices.Insert(p.Path, i, o.Path[i]+n) })
		}
	}
	change(func(p *impl.Op) { p.Path = append(p.Path, 0) })
	for i := range o.Path {
		change(func(p *impl.Op) { p.Path = p.Path[:i] })
		if i > 0 {
			change(func(p *impl.Op) { p.Path = p.Path[i:] })
		}
	}
	return out
}

func TestSameOpsOneDifference(t *testing.T) {
	lists := [][]impl.Op{
		{{}},
		{relabeling(nil, 3)},
		{{Kind: 7, Path: []int{-1, 9, math.MaxInt}, Label: -5, From: math.MinInt, Count: 1 << 40}},
		{relabeling([]int{1, 2}, 3), deletion([]int{4}), insertion([]int{0, 5, 0}, 1, 2, 3), {}, insertion(nil, 0, 0, 0)},
		slices.Repeat([]impl.Op{deletion([]int{0, 1})}, 70),
	}
	for _, ops := range lists {
		checkSameOps(t, ops, clonedOps(ops), true)
		for i, o := range ops {
			for _, changed := range changedOps(o) {
				other := clonedOps(ops)
				other[i] = changed
				checkSameOps(t, ops, other, false)
			}
			checkSameOps(t, ops, ops[:i], false)
			checkSameOps(t, ops, ops[i+1:], false)
			checkSameOps(t, ops, slices.Insert(clonedOps(ops), i, o), false)
		}
		checkSameOps(t, ops, append(clonedOps(ops), impl.Op{}), false)
	}
	a, b := insertion([]int{1}, 2, 3, 4), insertion([]int{1}, 2, 4, 3)
	checkSameOps(t, []impl.Op{a}, []impl.Op{b}, false)
	checkSameOps(t, []impl.Op{a, b}, []impl.Op{b, a}, false)
	checkSameOps(t, []impl.Op{deletion([]int{1, 2})}, []impl.Op{deletion([]int{2, 1})}, false)
	checkSameOps(t, []impl.Op{deletion([]int{1}), deletion([]int{2})}, []impl.Op{deletion([]int{1, 2}), deletion(nil)}, false)
}

func TestSameOpsNilAndEmpty(t *testing.T) {
	empty := [][]impl.Op{nil, {}, make([]impl.Op, 0, 1)}
	for _, a := range empty {
		for _, b := range empty {
			checkSameOps(t, a, b, true)
		}
		checkSameOps(t, a, []impl.Op{{}}, false)
		checkSameOps(t, a, []impl.Op{deletion([]int{1})}, false)
	}
	for kind := range 5 {
		for _, path := range [][]int{nil, {}, make([]int, 0, 1)} {
			a := impl.Op{Kind: kind, Path: path, Label: 1}
			for _, other := range [][]int{nil, {}, make([]int, 0, 2)} {
				checkSameOps(t, []impl.Op{a, a}, []impl.Op{a, {Kind: kind, Path: other, Label: 1}}, true)
			}
			checkSameOps(t, []impl.Op{a}, []impl.Op{{Kind: kind, Path: []int{0}, Label: 1}}, false)
		}
	}
}

// Each of many operations, alone and in pairs, is the same as itself and no other.
func TestSameOpsOfAllLists(t *testing.T) {
	var some []impl.Op
	for _, path := range [][]int{nil, {0}, {1}, {0, 0}, {0, 1}, {1, 0}} {
		for n := range 16 {
			some = append(some, impl.Op{Kind: 1 + n&1, Path: path, Label: n >> 1 & 1, From: n >> 2 & 1, Count: n >> 3})
		}
	}
	for i, o := range some {
		for k, p := range some {
			checkSameOps(t, []impl.Op{o}, clonedOps([]impl.Op{p}), i == k)
			checkSameOps(t, []impl.Op{o, p}, clonedOps([]impl.Op{p, o}), i == k)
			checkSameOps(t, []impl.Op{o, p}, clonedOps([]impl.Op{o, p}), true)
			checkSameOps(t, []impl.Op{o, p, o}, clonedOps([]impl.Op{o, o, o}), i == k)
		}
	}
}

// callScriptFunctions calls the functions of chapter 15 that have operations.
func callScriptFunctions(l []impl.Node, ops []impl.Op, c impl.Cost) {
	for _, o := range ops {
		impl.OpOk(o)
	}
	impl.ScriptOk(ops)
	impl.PutScript(ops)
	impl.ScriptCost(l, ops, c)
	impl.SameOps(ops, ops[len(ops)/2:])
	impl.SameOps(ops, clonedOps(ops))
}

func TestScriptArgumentsStayAsTheyAre(t *testing.T) {
	for _, ops := range append(fewScripts(), []impl.Op{relabeling([]int{0}, 6), deletion([]int{0})}, slices.Repeat([]impl.Op{relabeling(nil, 1)}, 61)) {
		checkArgumentStays(t, func(l []impl.Node) { callScriptFunctions(l, ops, evenCost(1)) })
	}
	for n, d := range scriptTrees() {
		script, trees := someScript(d, 8, uint32(n))
		for k, e := range trees {
			for _, o := range append(failing(e), relabeling(nil, 1)) {
				checkOpsStay(t, slices.Insert(slices.Clone(script), k, o), func(ops []impl.Op) {
					callScriptFunctions(d.nodes, ops, evenCost(1))
					callScriptFunctions(d.nodes[:0], ops, evenCost(1))
				})
			}
		}
	}
	for _, ops := range append(fewScripts(), manyScripts()...) {
		checkOpsStay(t, ops, func(ops []impl.Op) { callScriptFunctions(treeIn("div(p a)"), ops, impl.Cost{}) })
	}
	for _, list := range append(manyCosts(), invalidCosts()...) {
		c, full := heldCost(list)
		_, want := heldCost(list)
		callScriptFunctions(treeIn("div(p a)"), []impl.Op{relabeling(nil, 1), deletion([]int{0}), insertion(nil, 2, 0, 1)}, c)
		if !slices.EqualFunc(full, want, slices.Equal[[]int]) {
			t.Fatalf("%v became %v", want, full)
		}
	}
}

func TestGetScriptResultsAreNewMemory(t *testing.T) {
	for _, ops := range append(fewScripts(), manyScripts()...) {
		s := scriptBytes(ops)
		checkOpsApart(t, func() []impl.Op {
			got, _ := impl.GetScript(s)
			return got
		})
		checkGetScript(t, s, ops)
	}
}

// Nodes, operations, steps and costs in the unused capacity of a list do not count.
func TestScriptUnusedCapacityDoesNotCount(t *testing.T) {
	for _, ops := range append(fewScripts(), manyScripts()...) {
		held, _ := heldOps(ops)
		checkScriptOk(t, held, true)
		checkScriptOk(t, held[:len(held)/2], true)
		checkSameOps(t, held, ops, true)
		checkSameOps(t, held[:0], nil, true)
		for _, o := range held {
			if !impl.OpOk(o) {
				t.Fatalf("OpOk(%v) = false", o)
			}
		}
	}
	for n, d := range scriptTrees() {
		l := append(slices.Clone(d.nodes), impl.Node{Depth: 1}, impl.Node{Label: 77})[:len(d.nodes)]
		script, _ := someScript(d, 6, uint32(n))
		held, _ := heldOps(script)
		for _, list := range fewCosts() {
			c, _ := heldCost(list)
			for k := range len(held) + 1 {
				checkScriptCost(t, l, held[:k], c, impl.ScriptCost(d.nodes, clonedOps(script[:k]), list))
				checkSum(t, d, held[:k], c)
			}
		}
	}
}
