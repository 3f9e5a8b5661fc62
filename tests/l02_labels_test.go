package tests

import (
	"math"
	"slices"
	"strings"
	"testing"

	"loop.example/g01618/impl"
)

// Promise 2: trees, costs, scripts and operations can be read from their
// binary and text formats; nothing else is accepted. These tests hold it for
// the labels of chapter 2, from whose names the text formats are built.

// names lists the name of each label, as the document does.
var names = []string{"div", "p", "a", "ul", "li", "b"}

func checkNotLabel(t *testing.T, n int) {
	t.Helper()
	if impl.LabelOk(n) {
		t.Errorf("LabelOk(%d) = true", n)
	}
	if got := impl.LabelName(n); got != "" {
		t.Errorf("LabelName(%d) = %q, want none", n, got)
	}
}

func checkLabelOf(t *testing.T, s string, want int) {
	t.Helper()
	if got := impl.LabelOf(s); got != want {
		t.Errorf("LabelOf(%q) = %d, want %d", s, got, want)
	}
}

func TestLabelEachName(t *testing.T) {
	if impl.MaxLabels != 6 || len(names) != impl.MaxLabels {
		t.Fatalf("MaxLabels = %d, for %d names", impl.MaxLabels, len(names))
	}
	for n, name := range names {
		if !impl.LabelOk(n) {
			t.Errorf("LabelOk(%d) = false", n)
		}
		if got := impl.LabelName(n); got != name {
			t.Errorf("LabelName(%d) = %q, want %q", n, got, name)
		}
		checkLabelOf(t, name, n)
	}
}

func TestLabelOneBeyondEitherLimit(t *testing.T) {
	checkNotLabel(t, -1)
	checkNotLabel(t, impl.MaxLabels)
}

func TestLabelFarBeyondTheLimits(t *testing.T) {
	far := []int{
		-2, -6, 7, 12, 'a', 'b', 'p', 100, -100, -256, -255,
		// These become labels if their high bits are cut off.
		256, 257, 261, 1 << 16, 1<<16 + 1, 1 << 32, 1<<32 + 5, math.MinInt + 1,
		math.MinInt, math.MaxInt, math.MinInt32, math.MaxInt32,
	}
	for _, n := range far {
		checkNotLabel(t, n)
	}
	for n := impl.MaxLabels; n < 2000; n++ {
		checkNotLabel(t, n)
		checkNotLabel(t, impl.MaxLabels-1-n)
	}
}

func TestLabelNameInUpperCase(t *testing.T) {
	for _, name := range names {
		checkLabelOf(t, strings.ToUpper(name), -1)
		for i := range name {
			checkLabelOf(t, name[:i]+strings.ToUpper(name[i:i+1])+name[i+1:], -1)
		}
	}
	checkLabelOf(t, "Div", -1)
	checkLabelOf(t, "dIV", -1)
}

func TestLabelOfNoName(t *testing.T) {
	foreign := []string{
		"",
		// Shorter and longer than a name.
		"d", "di", "iv", "v", "u", "l", "i",
		"divv", "divs", "ddiv", "pp", "pre", "aa", "ab", "abbr", "ull", "uli", "lii", "lib", "bb", "br", "body",
		// The letters of a name in another order, and names of other things.
		"vid", "lu", "il", "ol", "span", "*", ".", "/", "-1", "0", "1", "5", "6",
		// Two names at once.
		"div p", "div,p", "divp", "pa", "ulli", "div(p)", "(p)", "p)",
		// Letters that look like those of a name.
		"ａ", "а", "р", "lı", "lİ", "dív", "p\u0301", "\ufeffp",
		"\xff", "p\xff", "\xffp", "\x00", "\x01", "\x05",
		strings.Repeat("div", 1000), strings.Repeat(" ", 1000),
	}
	for _, s := range foreign {
		checkLabelOf(t, s, -1)
	}
}

func TestLabelNameWithBlank(t *testing.T) {
	for _, blank := range []string{" ", "  ", "\t", "\n", "\r", "\r\n", "\v", "\f", "\x00", "\u00a0", "\u2003"} {
		checkLabelOf(t, blank, -1)
		for _, name := range names {
			for i := range len(name) + 1 {
				checkLabelOf(t, name[:i]+blank+name[i:], -1)
			}
			checkLabelOf(t, blank+name+blank, -1)
		}
	}
}

func TestLabelNameCutOrGrown(t *testing.T) {
	check := func(s string) {
		t.Helper()
		checkLabelOf(t, s, slices.Index(names, s))
	}
	for _, name := range names {
		for i := range len(name) {
			check(name[:i])
			check(name[i+1:])
			check(name[:i] + name[i+1:])
		}
		for b := range 256 {
			s := string([]byte{byte(b)})
			check(name + s)
			check(s + name)
		}
	}
}

func TestLabelOfAcceptsNothingElse(t *testing.T) {
	accepted := 0
	for _, s := range stringsOver("divpaulbDP \x00", 5) {
		checkLabelOf(t, s, slices.Index(names, s))
		if impl.LabelOf(s) >= 0 {
			accepted++
		}
	}
	if accepted != len(names) {
		t.Errorf("LabelOf accepts %d strings, want %d", accepted, len(names))
	}
}

func TestLabelOfEveryPairOfBytes(t *testing.T) {
	for first := range 256 {
		for second := range 256 {
			pair := string([]byte{byte(first), byte(second)})
			for _, s := range []string{pair, pair[:1]} {
				checkLabelOf(t, s, slices.Index(names, s))
			}
		}
	}
}
