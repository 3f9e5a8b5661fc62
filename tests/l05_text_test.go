package tests

import (
	"regexp"
	"slices"
	"strings"
	"testing"

	"loop.example/g01618/impl"
)

// Promise 2: trees, costs, scripts and operations can be read from their
// binary and text formats; nothing else is accepted. These tests hold it for
// the text format of a tree of chapter 5.

// text returns the text format of the branch.
func (b *branch) text() string {
	if len(b.kids) == 0 {
		return names[b.label]
	}
	var kids []string
	for _, kid := range b.kids {
		kids = append(kids, kid.text())
	}
	return names[b.label] + "(" + strings.Join(kids, " ") + ")"
}

// branchIn returns the branch whose text format starts s, and what follows it.
// It returns no branch if there is none of at most this height.
func branchIn(s string, height int) (*branch, string) {
	end := strings.IndexAny(s+" ", "( )")
	label := slices.Index(names, s[:end])
	if label < 0 || height < 1 {
		return nil, ""
	}
	b, rest := &branch{label: label}, s[end:]
	if !strings.HasPrefix(rest, "(") {
		return b, rest
	}
	for separator := "("; strings.HasPrefix(rest, separator); separator = " " {
		var kid *branch
		if kid, rest = branchIn(rest[1:], height-1); kid == nil {
			return nil, ""
		}
		b.kids = append(b.kids, kid)
	}
	if !strings.HasPrefix(rest, ")") {
		return nil, ""
	}
	return b, rest[1:]
}

// treeIn returns the nodes of the valid tree of which s is the text format, or
// no nodes.
func treeIn(s string) []impl.Node {
	b, rest := branchIn(s, impl.MaxDepth+1)
	if b == nil || rest != "" {
		return nil
	}
	if d := draw(b); len(d.nodes) <= impl.MaxNodes {
		return d.nodes
	}
	return nil
}

// checkReadTree holds ReadTree to reading these nodes from s, or to not
// accepting s if there are none.
func checkReadTree(t *testing.T, s string, want []impl.Node) {
	t.Helper()
	l, ok := impl.ReadTree(s)
	if ok != (len(want) > 0) || !slices.Equal(l, want) {
		t.Fatalf("ReadTree(%q) = %v, %v, want %v", s, l, ok, want)
	}
	if ok && impl.TreeText(l) != s {
		t.Fatalf("ReadTree(%q) = %v, of which TreeText returns %q", s, l, impl.TreeText(l))
	}
}

func checkNoText(t *testing.T, s string) {
	t.Helper()
	checkReadTree(t, s, nil)
}

// fewTrees returns every small shape, some varied trees, and the trees at the
// limits.
func fewTrees() []*drawn {
	out := append(smallTrees(5), limitTrees()...)
	for seed := range uint32(10) {
		out = append(out, variedTree(10, seed))
	}
	return out
}

// fewTexts returns the text formats of fewTrees.
func fewTexts() []string {
	var out []string
	for _, d := range fewTrees() {
		out = append(out, d.branches[0].text())
	}
	return out
}

func TestTreeTextWords(t *testing.T) {
	cases := []struct {
		l []impl.Node
		s string
	}{
		{[]impl.Node{{}}, "div"},
		{[]impl.Node{{Label: 5}}, "b"},
		{[]impl.Node{{Label: 0}, {Label: 1, Depth: 1}}, "div(p)"},
		{[]impl.Node{{Label: 0}, {Label: 1, Depth: 1}, {Label: 5, Depth: 1}}, "div(p b)"},
		{[]impl.Node{{Label: 0}, {Label: 1, Depth: 1}, {Label: 2, Depth: 2}, {Label: 5, Depth: 1}}, "div(p(a) b)"},
		{[]impl.Node{{Label: 0}, {Label: 5, Depth: 1}, {Label: 1, Depth: 1}, {Label: 2, Depth: 2}}, "div(b p(a))"},
		{[]impl.Node{{Label: 3}, {Label: 4, Depth: 1}, {Label: 2, Depth: 2}, {Label: 5, Depth: 3}, {Label: 4, Depth: 1}}, "ul(li(a(b)) li)"},
		{[]impl.Node{{Label: 3}, {Label: 4, Depth: 1}, {Label: 3, Depth: 2}, {Label: 4, Depth: 3}, {Label: 4, Depth: 2}, {Label: 4, Depth: 1}}, "ul(li(ul(li) li) li)"},
		{[]impl.Node{{Label: 0}, {Label: 1, Depth: 1}, {Label: 2, Depth: 2}, {Label: 5, Depth: 2}, {Label: 3, Depth: 1}}, "div(p(a b) ul)"},
	}
	for _, c := range cases {
		if got := impl.TreeText(c.l); got != c.s {
			t.Errorf("TreeText(%v) = %q, want %q", c.l, got, c.s)
		}
		checkReadTree(t, c.s, c.l)
	}
}

func TestTreeTextOfManyTrees(t *testing.T) {
	for _, d := range manyTrees() {
		s := impl.TreeText(d.nodes)
		if want := d.branches[0].text(); s != want {
			t.Fatalf("TreeText(%v) = %q, want %q", d.nodes, s, want)
		}
		checkReadTree(t, s, d.nodes)
	}
}

func TestTreeTextEachLabelAtEachNode(t *testing.T) {
	for _, d := range fewTrees() {
		for i, b := range d.branches {
			was := b.label
			for label := range impl.MaxLabels {
				b.label = label
				l, s := slices.Clone(d.nodes), d.branches[0].text()
				l[i].Label = label
				if got := impl.TreeText(l); got != s {
					t.Fatalf("TreeText(%v) = %q, want %q", l, got, s)
				}
				checkReadTree(t, s, l)
			}
			b.label = was
		}
	}
}

func TestReadTreeEmptyParentheses(t *testing.T) {
	for _, s := range []string{
		"()", "( )", "(())", "()()", "() ()", "div()", "div( )", "div(())", "div()()", "div() p", "div()(p)", "div(p)()",
		"()div", "() div", "(div())", "div(p())", "div(p ())", "div(() p)", "div(()p)", "div(p()())", "div(p() b)", "div(p b())",
		"div(p(()))", "div(p(a)())", "div((p))", "((div))",
	} {
		checkNoText(t, s)
	}
	for _, s := range fewTexts() {
		for i := range len(s) + 1 {
			for _, empty := range []string{"()", "( )", "(  )", "(())", " ()", "() ", "()()"} {
				checkNoText(t, s[:i]+empty+s[i:])
			}
		}
	}
}

// A node that loses its children loses its parentheses too.
func TestReadTreeParenthesesEmptied(t *testing.T) {
	for _, d := range fewTrees() {
		for _, b := range d.branches {
			if len(b.kids) == 0 {
				continue
			}
			head := "(" + b.text()[len(names[b.label])+1:]
			s := d.branches[0].text()
			checkNoText(t, strings.Replace(s, head, "()", 1))
			checkNoText(t, strings.Replace(s, head, "( )", 1))
			kids := b.kids
			b.kids = nil
			checkReadTree(t, d.branches[0].text(), draw(d.branches[0]).nodes)
			b.kids = kids
		}
	}
}

func TestReadTreeAcceptsNothingElse(t *testing.T) {
	trees := map[string][]impl.Node{}
	for _, d := range smallTrees(4) {
		for _, l := range labeled(d.nodes) {
			s := impl.TreeText(l)
			if trees[s] != nil {
				t.Fatalf("%q is the format of %v and of %v", s, l, trees[s])
			}
			trees[s] = l
		}
	}
	if want := 6 + 36 + 2*216 + 5*1296; len(trees) != want {
		t.Fatalf("%d formats of %d trees", len(trees), want)
	}
	// No tree of more than four nodes has a format of at most nine bytes, and
	// that of a chain of four nodes has ten.
	accepted := 0
	for _, s := range stringsOver("ab( )", 9) {
		checkReadTree(t, s, trees[s])
		if trees[s] != nil {
			accepted++
		}
	}
	if want := 2 + 4 + 2*8 + 4*16; accepted != want {
		t.Errorf("%d strings are formats, want %d", accepted, want)
	}
}

func TestReadTreeAnyShortStringOfBytes(t *testing.T) {
	for _, s := range stringsOver("divpaulb( )x\x00\xff", 4) {
		checkReadTree(t, s, treeIn(s))
	}
	for b := range 256 {
		first := string([]byte{byte(b)})
		checkReadTree(t, first, treeIn(first))
		for c := range 256 {
			s := first + string([]byte{byte(c)})
			checkReadTree(t, s, treeIn(s))
			checkReadTree(t, "p("+s, treeIn("p("+s))
			checkReadTree(t, "p("+s+")", treeIn("p("+s+")"))
		}
	}
}

func TestReadTreeAnyFewWords(t *testing.T) {
	words := strings.NewReplacer("d", "div", "u", "ul", "l", "li", "o", "ol")
	accepted := 0
	for _, short := range stringsOver("dulo( )", 7) {
		s := words.Replace(short)
		checkReadTree(t, s, treeIn(s))
		if treeIn(s) != nil {
			accepted++
		}
	}
	// One node, two nodes, and two shapes of three nodes, of three names each.
	if want := 3 + 9 + 2*27; accepted != want {
		t.Errorf("%d strings are formats, want %d", accepted, want)
	}
}

func TestReadTreeCutOff(t *testing.T) {
	checkNoText(t, "")
	for _, d := range manyTrees() {
		s, root := d.branches[0].text(), names[d.nodes[0].Label]
		for i := range len(s) {
			// The root alone is a tree; whatever else is cut off lacks a parenthesis.
			if s[:i] == root {
				checkReadTree(t, root, d.nodes[:1])
			} else {
				checkNoText(t, s[:i])
			}
			checkReadTree(t, s[i:], treeIn(s[i:]))
		}
	}
}

func TestReadTreeOneByteChanged(t *testing.T) {
	for _, s := range fewTexts() {
		for i := range len(s) {
			for b := range 256 {
				changed := s[:i] + string([]byte{byte(b)}) + s[i+1:]
				checkReadTree(t, changed, treeIn(changed))
			}
		}
	}
}

func TestReadTreeOneByteLeftOut(t *testing.T) {
	for _, d := range manyTrees() {
		s := d.branches[0].text()
		for i := range len(s) {
			out := s[:i] + s[i+1:]
			checkReadTree(t, out, treeIn(out))
		}
	}
}

func TestReadTreeOneBytePutIn(t *testing.T) {
	for _, s := range fewTexts() {
		for i := range len(s) + 1 {
			for b := range 256 {
				in := s[:i] + string([]byte{byte(b)}) + s[i:]
				checkReadTree(t, in, treeIn(in))
			}
		}
	}
}

func TestReadTreeTwoBytesExchanged(t *testing.T) {
	for _, s := range fewTexts() {
		for i := range len(s) {
			for k := range i {
				x := []byte(s)
				x[i], x[k] = x[k], x[i]
				checkReadTree(t, string(x), treeIn(string(x)))
			}
		}
	}
}

func TestReadTreeMostNodes(t *testing.T) {
	for n := 1; n <= impl.MaxNodes; n++ {
		d := draw(star(n))
		checkReadTree(t, d.branches[0].text(), d.nodes)
	}
	for n := impl.MaxNodes + 1; n < 300; n++ {
		checkNoText(t, star(n).text())
	}
	full := limitTrees()
	for seed := range uint32(30) {
		full = append(full, variedTree(impl.MaxNodes, seed))
	}
	for _, d := range full {
		checkReadTree(t, d.branches[0].text(), d.nodes)
		for _, b := range d.branches {
			kids := b.kids
			for i := range len(kids) + 1 {
				b.kids = slices.Insert(slices.Clone(kids), i, &branch{label: i % impl.MaxLabels})
				grown := draw(d.branches[0])
				s := grown.branches[0].text()
				if len(grown.nodes) > impl.MaxNodes || grown.branches[0].height() > impl.MaxDepth+1 {
					checkNoText(t, s)
				} else {
					checkReadTree(t, s, grown.nodes)
				}
			}
			b.kids = kids
		}
	}
}

func TestReadTreeGreatestDepth(t *testing.T) {
	for depth := range impl.MaxDepth + 1 {
		d := draw(chain(depth))
		checkReadTree(t, d.branches[0].text(), d.nodes)
	}
	for depth := impl.MaxDepth + 1; depth < 100; depth++ {
		checkNoText(t, chain(depth).text())
	}
	// The greatest depth and one more in the first, the last and an inner branch.
	for place := range 3 {
		for extra := range 2 {
			b := star(4)
			b.kids[place] = chain(impl.MaxDepth - 1 + extra)
			if extra == 0 {
				checkReadTree(t, b.text(), draw(b).nodes)
			} else {
				checkNoText(t, b.text())
			}
		}
	}
}

func TestReadTreeVeryLong(t *testing.T) {
	const many = 200000
	for _, s := range []string{
		strings.Repeat("(", many), strings.Repeat(")", many), strings.Repeat(" ", many), strings.Repeat("()", many),
		strings.Repeat("(", many) + "p" + strings.Repeat(")", many),
		"p" + strings.Repeat("(", many), "p" + strings.Repeat(")", many), "p" + strings.Repeat(" ", many),
		strings.Repeat("p(", many), strings.Repeat("p(", many) + "p" + strings.Repeat(")", many),
		strings.Repeat("p ", many) + "p", "p(" + strings.Repeat("p ", many) + "p)", "p(" + strings.Repeat("p(p) ", many) + "p)",
		strings.Repeat("p", many), strings.Repeat("x ", many), "p(" + strings.Repeat("x ", many) + "p)",
		strings.Repeat("\xff", many), strings.Repeat("\xff ", many), "p(" + strings.Repeat("a", many) + ")",
	} {
		if l, ok := impl.ReadTree(s); ok || len(l) != 0 {
			t.Errorf("ReadTree(%q of %d bytes) = %v, %v", s[:10], len(s), l, ok)
		}
	}
}

func TestReadTreeSpaces(t *testing.T) {
	for _, s := range []string{
		" ", "  ", " div", "div ", " div ", "  div", "div  ", "div (p)", "div( p)", "div(p )", "div(p) ", " div(p)",
		"div(p  a)", "div( p a)", "div(p a )", "div(p (a))", "div(p( a))", "div(p(a )b)", "div(p(a) )", "div(p(a)  b)", "div(p(a)b)",
		"d iv", "u l", "l i", "div(u l)",
	} {
		checkNoText(t, s)
	}
	for _, s := range fewTexts() {
		for i := range len(s) + 1 {
			for _, blank := range []string{" ", "  ", "\t", "\n", "\r", "\r\n", "\v", "\f", "\x00", "\u00a0", "\u2003", "\ufeff"} {
				checkNoText(t, s[:i]+blank+s[i:])
				// The same in place of a space, which one of them is.
				if i < len(s) && s[i] == ' ' && blank != " " {
					checkNoText(t, s[:i]+blank+s[i+1:])
				}
			}
			if i < len(s) && s[i] == ' ' {
				checkNoText(t, s[:i]+s[i+1:])
			}
		}
	}
}

func TestReadTreeOtherNames(t *testing.T) {
	other := []string{
		"", "DIV", "Div", "dIv", "P", "A", "UL", "Ul", "uL", "LI", "lI", "B",
		"di", "iv", "u", "l", "i", "d", "divs", "pre", "abbr", "ull", "lib", "body", "ol", "span", "vid", "lu",
		"divdiv", "pa", "ab", "ulli", "div,p", "div/p", "*", "//", ".", "-", "-1", "0", "1", "5", "6", "[]", "{}", "<p>", "p;", "\"p\"",
		"\x00", "p\x00", "\x00p", "\x01", "\x05", "\x7f",
		// Bytes that are not ASCII, and letters that look like those of a name.
		"é", "p\u0301", "dív", "ａ", "а", "р", "lı", "\ufffd", "p\ufffd", "\u0161", "\u0170", "\U0001f600",
		// Bytes that are no valid UTF-8.
		"\xff", "p\xff", "\xffp", "\x80", "a\x80", "\xc3", "p\xc3", "\xe1", "a\xe1\x80", "\xed\xa0\x80", "\xf5", "\xc1\xa1", "\xc1\xb0",
	}
	name := regexp.MustCompile("[a-z]+")
	for _, s := range fewTexts() {
		for _, at := range name.FindAllStringIndex(s, -1) {
			before, after := s[:at[0]], s[at[1]:]
			checkNoText(t, before+strings.ToUpper(s[at[0]:at[1]])+after)
			for _, x := range other {
				checkNoText(t, before+x+after)
			}
		}
	}
}

// A separator is one byte; nothing that looks like it, or has its number once
// high bits are cut off or long forms are accepted, stands for it.
func TestReadTreeOtherSeparators(t *testing.T) {
	instead := map[byte][]string{
		'(': {"[", "{", "<", "\u0128", "\u0228", "\U00010028", "（", "\xa8", "\xc0\xa8", "\xe0\x80\xa8", "\xff(", "(\xff", "\xc3(", "(\x80"},
		')': {"]", "}", ">", "\u0129", "\u0229", "\U00010029", "）", "\xa9", "\xc0\xa9", "\xe0\x80\xa9", "\xff)", ")\xff", "\xc3)", ")\x80"},
		' ': {",", ", ", "+", "\u0120", "\u0220", "\U00010020", "\u3000", "\xa0", "\xc0\xa0", "\xe0\x80\xa0", "\xff ", " \xff", "\xc3 ", " \x80", "\x1f", "!"},
	}
	for _, s := range fewTexts() {
		for i := range len(s) {
			for _, other := range instead[s[i]] {
				checkNoText(t, s[:i]+other+s[i+1:])
			}
		}
	}
}

func TestReadTreeSecondRoot(t *testing.T) {
	for _, s := range []string{"div p", "div(p) a", "div(p)a", "div(p)(a)", "div(p)div(p)", "div(p) div(p)", "div div", "divdiv", "div,p", "div\np", "div(p)) (a(b)", "div) (p"} {
		checkNoText(t, s)
	}
	texts := fewTexts()
	for _, first := range texts {
		for _, second := range texts {
			for _, between := range []string{"", " ", "  ", "\n", ",", "(", ")", ")(", ") (", "()"} {
				checkNoText(t, first+between+second)
			}
		}
	}
}

func TestReadTreeParenthesesNotInPairs(t *testing.T) {
	for _, s := range []string{"(", ")", ")(", "div(", "div)", "(div", "div(p", "div p)", "div(p))", "div((p)", "div((p))", "(div(p))", "div(p(a)", "div(p(a b)", "div(p(a)) b)", "div(p)) b", "div)p(", ")div("} {
		checkNoText(t, s)
	}
	for _, s := range fewTexts() {
		for k := 1; k < 15; k++ {
			checkNoText(t, s+strings.Repeat(")", k))
			checkNoText(t, s+strings.Repeat("(", k))
			checkNoText(t, strings.Repeat("(", k)+s)
			checkNoText(t, strings.Repeat(")", k)+s)
			checkNoText(t, strings.Repeat("(", k)+s+strings.Repeat(")", k))
		}
		for i := range len(s) {
			if s[i] == '(' || s[i] == ')' {
				checkNoText(t, s[:i]+s[i+1:])
				checkNoText(t, s[:i]+s[i:i+1]+s[i:])
			}
		}
	}
}

func TestTreeTextInvalid(t *testing.T) {
	for _, l := range invalidTrees() {
		if got := impl.TreeText(l); got != "" {
			t.Errorf("TreeText(%v) = %q, want none", l, got)
		}
	}
	// An invalid tree has no format, so the empty string is read as none.
	checkNoText(t, "")
}

func TestTreeTextArgumentStaysAsItIs(t *testing.T) {
	checkArgumentStays(t, func(l []impl.Node) { impl.TreeText(l) })
}

func TestReadTreeResultIsNewMemory(t *testing.T) {
	for _, d := range manyTrees() {
		s := d.branches[0].text()
		l, _ := impl.ReadTree(s)
		spoil(l)
		checkReadTree(t, s, d.nodes)
	}
}
