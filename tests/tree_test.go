package tests

import (
	"reflect"
	"slices"
	"strconv"
	"strings"
	"testing"

	"loop.example/construer/impl"
)

func leaf(sign string) impl.Tree {
	return impl.Tree{Sign: sign, Rule: -1}
}

func node(sign string, rule int, kids ...impl.Tree) impl.Tree {
	return impl.Tree{Sign: sign, Rule: rule, Kids: kids}
}

func isZeroTree(t impl.Tree) bool {
	return t.Sign == "" && t.Rule == 0 && len(t.Kids) == 0
}

func oneOf(sign, set string) bool {
	return len(sign) == 1 && strings.Contains(set, sign)
}

// The functions from here to wantSame are the document's definitions, written out with calls of themselves.

func isTreeOf(g impl.Gram, t impl.Tree) bool {
	if oneOf(t.Sign, smalls) {
		return t.Rule == -1 && len(t.Kids) == 0
	}
	if !slices.Contains(impl.GramFor(g, t.Sign), t.Rule) {
		return false
	}
	var signs []string
	for _, kid := range t.Kids {
		signs = append(signs, kid.Sign)
		if !isTreeOf(g, kid) {
			return false
		}
	}
	return slices.Equal(signs, strings.Split(g.Rules[t.Rule].Right, ""))
}

func depthOf(t impl.Tree) int {
	deepest := 0
	for _, kid := range t.Kids {
		deepest = max(deepest, depthOf(kid))
	}
	return deepest + 1
}

func sizeOf(t impl.Tree) int {
	size := 1
	for _, kid := range t.Kids {
		size += sizeOf(kid)
	}
	return size
}

func yieldOf(t impl.Tree) string {
	if oneOf(t.Sign, smalls) {
		return t.Sign
	}
	text := ""
	for _, kid := range t.Kids {
		text += yieldOf(kid)
	}
	return text
}

func wantOk(g impl.Gram, t impl.Tree) bool {
	return impl.GramOk(g) && isTreeOf(g, t) && depthOf(t) <= 20 && sizeOf(t) <= 60
}

// wantText expects a tree of a grammar.
func wantText(t impl.Tree) string {
	if t.Rule == -1 {
		return t.Sign
	}
	text := "[" + strconv.Itoa(t.Rule)
	for _, kid := range t.Kids {
		text += wantText(kid)
	}
	return text + "]"
}

// wantRules expects a tree of a grammar.
func wantRules(t impl.Tree) []int {
	if t.Rule == -1 {
		return nil
	}
	rules := []int{t.Rule}
	for _, kid := range t.Kids {
		rules = append(rules, wantRules(kid)...)
	}
	return rules
}

func wantSame(a, b impl.Tree) bool {
	return a.Sign == b.Sign && a.Rule == b.Rule && slices.EqualFunc(a.Kids, b.Kids, wantSame)
}

// parse returns the tree of sign that text begins with, and the rest of the text.
func parse(g impl.Gram, sign, text string) (impl.Tree, string, bool) {
	if oneOf(sign, smalls) {
		rest, ok := strings.CutPrefix(text, sign)
		return leaf(sign), rest, ok
	}
	for i, r := range g.Rules {
		rest, ok := strings.CutPrefix(text, "["+strconv.Itoa(i))
		if !ok || r.Left != sign {
			continue
		}
		t := node(sign, i)
		for _, s := range strings.Split(r.Right, "") {
			var kid impl.Tree
			if kid, rest, ok = parse(g, s, rest); !ok {
				return t, rest, false
			}
			t.Kids = append(t.Kids, kid)
		}
		rest, ok = strings.CutPrefix(rest, "]")
		return t, rest, ok
	}
	return impl.Tree{}, text, false
}

func wantRead(g impl.Gram, text string) (impl.Tree, bool) {
	for _, sign := range strings.Split(bigs+smalls, "") {
		if t, rest, ok := parse(g, sign, text); ok && rest == "" && wantOk(g, t) {
			return t, true
		}
	}
	return impl.Tree{}, false
}

// build returns the tree of sign whose productions rules begins with, and the other ones.
func build(g impl.Gram, sign string, rules []int) (impl.Tree, []int, bool) {
	if oneOf(sign, smalls) {
		return leaf(sign), rules, true
	}
	if len(rules) == 0 || !slices.Contains(impl.GramFor(g, sign), rules[0]) {
		return impl.Tree{}, rules, false
	}
	t, rest, ok := node(sign, rules[0]), rules[1:], true
	for _, s := range strings.Split(g.Rules[rules[0]].Right, "") {
		var kid impl.Tree
		if kid, rest, ok = build(g, s, rest); !ok {
			return t, rest, false
		}
		t.Kids = append(t.Kids, kid)
	}
	return t, rest, true
}

func wantFrom(g impl.Gram, rules []int) (impl.Tree, bool) {
	for _, sign := range strings.Split(bigs, "") {
		if t, rest, ok := build(g, sign, rules); ok && len(rest) == 0 && wantOk(g, t) {
			return t, true
		}
	}
	return impl.Tree{}, false
}

// treesOf returns trees of sign of at most a depth, and at most limit of them.
func treesOf(g impl.Gram, sign string, depth, limit int) []impl.Tree {
	if depth == 0 {
		return nil
	}
	if oneOf(sign, smalls) {
		return []impl.Tree{leaf(sign)}
	}
	var trees []impl.Tree
	for _, at := range impl.GramFor(g, sign) {
		partial := []impl.Tree{node(sign, at)}
		for _, s := range strings.Split(g.Rules[at].Right, "") {
			var longer []impl.Tree
			for _, kid := range treesOf(g, s, depth-1, limit) {
				for _, p := range partial {
					longer = append(longer, node(sign, at, append(slices.Clone(p.Kids), kid)...))
				}
			}
			partial = longer[:min(len(longer), limit)]
		}
		trees = append(trees, partial...)
	}
	return trees[:min(len(trees), limit)]
}

// treeGrams are grammars with trees of many forms.
var treeGrams = []string{
	"A\nA>aAb\nA>\n",
	"A\nA>AA\nA>a\nA>\n",
	"A\nA>B\nA>a\nB>A\nB>\n",
	"C\nA>BaB\nB>C\nC>cB\nC>d\nB>\n",
	"E\nA>aBcD\nB>b\nD>\nD>d\nE>AAAA\nC>E\nE>\nB>E\n",
	"A\nA>a\nA>b\nA>c\nA>d\nA>\nA>BA\nB>A\nB>abcd\n",
	"A\nA>A\nB>a\n",
	"A\n",
}

// someTrees calls visit with trees of many grammars, of each symbol.
func someTrees(t *testing.T, visit func(g impl.Gram, tree impl.Tree)) {
	t.Helper()
	var grams []impl.Gram
	for _, text := range treeGrams {
		grams = append(grams, read(t, text))
	}
	grams = append(grams, someGrams()[:150]...)
	grams = append(grams, manyGrams()[:150]...)
	count := 0
	for _, g := range grams {
		for _, sign := range strings.Split(bigs+smalls, "") {
			for _, tree := range treesOf(g, sign, 5, 12) {
				visit(g, tree)
				count++
			}
		}
	}
	if count < 2000 {
		t.Errorf("only %d trees", count)
	}
}

// checkTree compares the results for a tree, valid or not, with the definitions.
func checkTree(t *testing.T, g impl.Gram, tree impl.Tree) {
	t.Helper()
	ok, text, rules := wantOk(g, tree), "", []int(nil)
	if ok {
		text, rules = wantText(tree), wantRules(tree)
	}
	if got := impl.TreeOk(g, tree); got != ok {
		t.Errorf("TreeOk(%q, %v) = %v", g, tree, got)
	}
	if got := impl.TreeText(g, tree); got != text {
		t.Errorf("TreeText(%q, %v) = %q, want %q", g, tree, got, text)
	}
	if got := impl.TreeRules(g, tree); !slices.Equal(got, rules) {
		t.Errorf("TreeRules(%q, %v) = %v, want %v", g, tree, got, rules)
	}
	if got, want := impl.TreeYield(tree), yieldOf(tree); got != want {
		t.Errorf("TreeYield(%v) = %q, want %q", tree, got, want)
	}
	if got, want := impl.TreeSize(tree), sizeOf(tree); got != want {
		t.Errorf("TreeSize(%v) = %d, want %d", tree, got, want)
	}
	if !impl.TreeSame(tree, tree) {
		t.Errorf("%v is not the same as itself", tree)
	}
}

// checkTreeRead compares TreeRead with the reading of the text from left to right.
func checkTreeRead(t *testing.T, g impl.Gram, text string) {
	t.Helper()
	want, ok := wantRead(g, text)
	got, found := impl.TreeRead(g, text)
	if found != ok || !wantSame(got, want) {
		t.Errorf("TreeRead(%q, %q) = %v, %v, want %v, %v", g, text, got, found, want, ok)
	}
	if found && impl.TreeText(g, got) != text {
		t.Errorf("TreeText(%q, %v) is not %q", g, got, text)
	}
}

// checkTreeFrom compares TreeFrom with the expansion of the leftmost nonterminal.
func checkTreeFrom(t *testing.T, g impl.Gram, rules []int) {
	t.Helper()
	want, ok := wantFrom(g, rules)
	got, found := impl.TreeFrom(g, rules)
	if found != ok || !wantSame(got, want) {
		t.Errorf("TreeFrom(%q, %v) = %v, %v, want %v, %v", g, rules, got, found, want, ok)
	}
	if found && !slices.Equal(impl.TreeRules(g, got), rules) {
		t.Errorf("TreeRules(%q, %v) are not %v", g, got, rules)
	}
}

func TestBoundsOfTrees(t *testing.T) {
	if impl.TreeMost != 60 || impl.TreeDeep != 20 {
		t.Error(impl.TreeMost, impl.TreeDeep)
	}
}

// fixedTrees are valid trees with their results, written out by hand.
var fixedTrees = []struct {
	gram  string
	tree  impl.Tree
	text  string
	yield string
	size  int
	rules []int
}{
	{"A\nA>aAb\nA>\n", node("A", 0, leaf("a"), node("A", 1), leaf("b")), "[0a[1]b]", "ab", 4, []int{0, 1}},
	{"A\nA>aAb\nA>\n", node("A", 1), "[1]", "", 1, []int{1}},
	{"A\nA>aAb\nA>\n", leaf("a"), "a", "a", 1, nil},
	{"A\n", leaf("d"), "d", "d", 1, nil},
	{"B\nA>BB\nB>\nB>c\n", node("A", 0, node("B", 2, leaf("c")), node("B", 1)), "[0[2c][1]]", "c", 4, []int{0, 2, 1}},
	{"B\nA>BB\nB>\nB>c\n", node("A", 0, node("B", 1), node("B", 1)), "[0[1][1]]", "", 3, []int{0, 1, 1}},
	{"A\nA>CaD\nC>D\nD>bC\nD>\n",
		node("A", 0, node("C", 1, node("D", 2, leaf("b"), node("C", 1, node("D", 3)))), leaf("a"), node("D", 3)),
		"[0[1[2b[1[3]]]]a[3]]", "ba", 8, []int{0, 1, 2, 1, 3, 3}},
	{"A\nA>a\nA>b\nA>c\nA>d\nB>a\nB>b\nB>c\nB>d\n", node("B", 7, leaf("d")), "[7d]", "d", 2, []int{7}},
	{"A\nA>abcd\n", node("A", 0, leaf("a"), leaf("b"), leaf("c"), leaf("d")), "[0abcd]", "abcd", 5, []int{0}},
}

func TestTreesWrittenOutByHand(t *testing.T) {
	for _, f := range fixedTrees {
		g := read(t, f.gram)
		if !impl.TreeOk(g, f.tree) {
			t.Errorf("%v is valid", f.tree)
		}
		if got := impl.TreeText(g, f.tree); got != f.text {
			t.Errorf("TreeText of %v = %q", f.tree, got)
		}
		if got := impl.TreeYield(f.tree); got != f.yield {
			t.Errorf("TreeYield of %v = %q", f.tree, got)
		}
		if got := impl.TreeSize(f.tree); got != f.size {
			t.Errorf("TreeSize of %v = %d", f.tree, got)
		}
		if got := impl.TreeRules(g, f.tree); !slices.Equal(got, f.rules) {
			t.Errorf("TreeRules of %v = %v", f.tree, got)
		}
		if got, ok := impl.TreeRead(g, f.text); !ok || !wantSame(got, f.tree) {
			t.Errorf("TreeRead of %q = %v, %v", f.text, got, ok)
		}
		got, ok := impl.TreeFrom(g, f.rules)
		if len(f.rules) == 0 {
			if ok || !isZeroTree(got) {
				t.Errorf("TreeFrom of no productions = %v, %v", got, ok)
			}
		} else if !ok || !wantSame(got, f.tree) {
			t.Errorf("TreeFrom of %v = %v, %v", f.rules, got, ok)
		}
	}
}

func TestTreesAreDeterminedByTheirProductions(t *testing.T) {
	someTrees(t, func(g impl.Gram, tree impl.Tree) {
		checkTree(t, g, tree)
		if !wantOk(g, tree) {
			return
		}
		if got, ok := impl.TreeRead(g, impl.TreeText(g, tree)); !ok || !wantSame(got, tree) {
			t.Errorf("%q: %v is read back as %v, %v", g, tree, got, ok)
		}
		rules := impl.TreeRules(g, tree)
		if got, ok := impl.TreeFrom(g, rules); ok != (len(rules) > 0) || ok && !wantSame(got, tree) {
			t.Errorf("%q: TreeFrom(%v) = %v, %v, want %v", g, rules, got, ok, tree)
		}
	})
}

func TestTreeFromOfAllShortProductions(t *testing.T) {
	for _, text := range treeGrams[:4] {
		g := read(t, text)
		level := [][]int{nil}
		for range 6 {
			var longer [][]int
			for _, rules := range level {
				checkTreeFrom(t, g, rules)
				for at := -1; at <= len(g.Rules); at++ {
					longer = append(longer, append(slices.Clone(rules), at))
				}
			}
			level = longer
		}
	}
}

func TestTreeFromOfNearProductions(t *testing.T) {
	someTrees(t, func(g impl.Gram, tree impl.Tree) {
		rules := wantRules(tree)
		for i := range len(rules) + 1 {
			checkTreeFrom(t, g, rules[:i])
			checkTreeFrom(t, g, rules[i:])
			for _, at := range []int{-1, 0, 1, len(g.Rules), 1 << 40, -1 << 63} {
				checkTreeFrom(t, g, slices.Insert(slices.Clone(rules), i, at))
			}
		}
	})
}

func TestTreeReadOfAllShortTexts(t *testing.T) {
	for _, text := range []string{"A\nA>aAb\nA>\n", "B\nA>BB\nB>a\nB>\n"} {
		g := read(t, text)
		level := []string{""}
		for range 7 {
			var longer []string
			for _, text := range level {
				checkTreeRead(t, g, text)
				for _, b := range []byte("[]012a") {
					longer = append(longer, text+string(b))
				}
			}
			level = longer
		}
	}
}

func TestTreeReadOfNearTexts(t *testing.T) {
	others := []byte("[]019abe$A-+ \x00\n\x80\xff")
	for _, text := range treeGrams {
		g := read(t, text)
		for _, sign := range strings.Split(bigs+smalls, "") {
			for _, tree := range treesOf(g, sign, 4, 10) {
				text := wantText(tree)
				for i := range len(text) + 1 {
					checkTreeRead(t, g, text[:i])
					checkTreeRead(t, g, text[i:])
					for _, b := range others {
						checkTreeRead(t, g, text[:i]+string([]byte{b})+text[i:])
						if i < len(text) {
							checkTreeRead(t, g, text[:i]+string([]byte{b})+text[i+1:])
						}
					}
				}
			}
		}
	}
}

func TestTreeReadOfTextsThatAreNone(t *testing.T) {
	g := read(t, "A\nA>aAb\nA>\nB>b\nA>B\n")
	texts := []string{
		"", " ", "[", "]", "[]", "[1", "1]", "1", "[1]]", "[[1]", "[1][1]", "[1]a", "a[1]", "[1] ", " [1]", "[ 1]", "[1 ]", "[1]\n",
		"[01]", "[+1]", "[-0]", "[-1]", "[1.]", "[0x1]", "[1_0]", "[1e0]", "[4]", "[10]", "[9999999999999999999999]", "[\u0661]",
		"[0a[1]b", "[0a[1]]", "[0[1]b]", "[0b[1]a]", "[0a[1]bb]", "[0a[1][1]b]", "[0a1b]", "[0aAb]", "[0ab]", "[00a[1]b]", "[0a[01]b]",
		"[0a[2b]b]", "[1[1]]", "[2[1]]", "[3[1]]", "[3[2]]", "[3[2a]]", "[3b]", "[0a[1]b][1]", "(1)", "{1}",
		"A", "B", "e", "aa", "ab", "-1", "$", "\x00", "\xff", "a\x00", "[1\x00]", "[1]\xff",
		strings.Repeat("[", 100000), strings.Repeat("[0a", 100000), strings.Repeat("]", 100000), strings.Repeat("9", 100000),
		strings.Repeat("[0a", 30000) + "[1]" + strings.Repeat("b]", 30000), strings.Repeat("[1]", 100000),
	}
	for _, text := range texts {
		if got, ok := impl.TreeRead(g, text); ok || !isZeroTree(got) {
			t.Errorf("TreeRead of %.40q = %v, %v", text, got, ok)
		}
	}
}

// chain returns a tree of `A>A`, `A>a`, `A>` whose depth is depth.
func chain(depth int, atEnd impl.Tree) impl.Tree {
	tree := atEnd
	for depthLeft := depth - depthOf(atEnd); depthLeft > 0; depthLeft-- {
		tree = node("A", 0, tree)
	}
	return tree
}

// checkAtLimit says of a tree that is valid but perhaps for its depth or size what each function must return.
func checkAtLimit(t *testing.T, g impl.Gram, tree impl.Tree, ok bool) {
	t.Helper()
	if !isTreeOf(g, tree) {
		t.Fatalf("%v is no tree of %q", tree, g)
	}
	text, rules := wantText(tree), wantRules(tree)
	read, found := impl.TreeRead(g, text)
	made, kept := impl.TreeFrom(g, rules)
	if impl.TreeOk(g, tree) != ok || found != ok || kept != ok {
		t.Errorf("depth %d, size %d: %v, %v, %v", depthOf(tree), sizeOf(tree), impl.TreeOk(g, tree), found, kept)
	}
	want := tree
	if !ok {
		text, rules, want = "", nil, impl.Tree{}
	}
	if !wantSame(read, want) || !wantSame(made, want) {
		t.Errorf("depth %d, size %d: %v, %v", depthOf(tree), sizeOf(tree), read, made)
	}
	if impl.TreeText(g, tree) != text || !slices.Equal(impl.TreeRules(g, tree), rules) {
		t.Errorf("depth %d, size %d: %q, %v", depthOf(tree), sizeOf(tree), impl.TreeText(g, tree), impl.TreeRules(g, tree))
	}
	if impl.TreeSize(tree) != sizeOf(tree) || impl.TreeYield(tree) != yieldOf(tree) {
		t.Errorf("depth %d, size %d: %d, %q", depthOf(tree), sizeOf(tree), impl.TreeSize(tree), impl.TreeYield(tree))
	}
}

func TestDepthIsLimited(t *testing.T) {
	g := read(t, "A\nA>A\nA>a\nA>\nA>aAA\n")
	for _, atEnd := range []impl.Tree{node("A", 1, leaf("a")), node("A", 2)} {
		checkAtLimit(t, g, chain(19, atEnd), true)
		checkAtLimit(t, g, chain(20, atEnd), true)
		checkAtLimit(t, g, chain(21, atEnd), false)
		checkAtLimit(t, g, chain(22, atEnd), false)
		checkAtLimit(t, g, chain(60, atEnd), false)
		checkAtLimit(t, g, chain(61, atEnd), false)
		checkAtLimit(t, g, chain(500, atEnd), false)
		short := node("A", 2)
		checkAtLimit(t, g, node("A", 3, leaf("a"), short, chain(19, atEnd)), true)
		checkAtLimit(t, g, node("A", 3, leaf("a"), short, chain(20, atEnd)), false)
		checkAtLimit(t, g, node("A", 3, leaf("a"), chain(19, atEnd), short), true)
		checkAtLimit(t, g, node("A", 3, leaf("a"), chain(20, atEnd), short), false)
		checkAtLimit(t, g, node("A", 3, leaf("a"), chain(19, atEnd), chain(19, atEnd)), true)
		checkAtLimit(t, g, node("A", 3, leaf("a"), chain(19, atEnd), chain(20, atEnd)), false)
	}
}

// bush returns a tree of `A>BBBB`, `B>CCCC`, `C>aaa`, `C>`, `C>a` of 21 nodes and some leaves more, at most 48.
func bush(leaves int) impl.Tree {
	top := node("A", 0)
	for range 4 {
		branch := node("B", 1)
		for range 4 {
			twig := node("C", 3)
			switch {
			case leaves >= 3:
				twig = node("C", 2, leaf("a"), leaf("a"), leaf("a"))
			case leaves >= 1:
				twig = node("C", 4, leaf("a"))
			}
			leaves -= len(twig.Kids)
			branch.Kids = append(branch.Kids, twig)
		}
		top.Kids = append(top.Kids, branch)
	}
	return top
}

func TestSizeIsLimited(t *testing.T) {
	g := read(t, "A\nA>BBBB\nB>CCCC\nC>aaa\nC>\nC>a\nD>AA\n")
	for _, size := range []int{21, 22, 58, 59, 60} {
		tree := bush(size - 21)
		if sizeOf(tree) != size {
			t.Fatal(sizeOf(tree), size)
		}
		checkAtLimit(t, g, tree, true)
	}
	for _, size := range []int{61, 62, 69} {
		checkAtLimit(t, g, bush(size-21), false)
	}
	checkAtLimit(t, g, node("D", 5, bush(38), bush(38)), false)
	checkAtLimit(t, g, node("D", 5, bush(17), bush(0)), true)
	checkAtLimit(t, g, node("D", 5, bush(0), bush(17)), true)
	checkAtLimit(t, g, node("D", 5, bush(18), bush(0)), false)
	checkAtLimit(t, g, node("D", 5, bush(0), bush(18)), false)
}

func TestSizeOfProductionsAloneIsLimited(t *testing.T) {
	g := read(t, "A\nA>AA\nA>\nA>A\n")
	// full returns a tree of 2*twos+1 nodes, all of them productions.
	var full func(twos int) impl.Tree
	full = func(twos int) impl.Tree {
		if twos == 0 {
			return node("A", 1)
		}
		return node("A", 0, full((twos-1)/2), full(twos-1-(twos-1)/2))
	}
	checkAtLimit(t, g, full(29), true)
	checkAtLimit(t, g, node("A", 2, full(29)), true)
	checkAtLimit(t, g, full(30), false)
	checkAtLimit(t, g, node("A", 2, full(30)), false)
}

func TestFirstProductionNeedNotBeOfStart(t *testing.T) {
	g := read(t, "A\nA>aB\nB>b\nC>BB\n")
	want := node("C", 2, node("B", 1, leaf("b")), node("B", 1, leaf("b")))
	if got, ok := impl.TreeFrom(g, []int{2, 1, 1}); !ok || !wantSame(got, want) {
		t.Error(got, ok)
	}
	if got, ok := impl.TreeRead(g, "[2[1b][1b]]"); !ok || !wantSame(got, want) {
		t.Error(got, ok)
	}
	if !impl.TreeOk(g, want) || impl.TreeText(g, want) != "[2[1b][1b]]" {
		t.Error(impl.TreeText(g, want))
	}
}

// badTrees are not valid for the grammar `A>aAb`, `A>`, `B>b`, `A>B`, `A>aa`, each for one reason.
var badTrees = map[string]impl.Tree{
	"zero value":                    {},
	"leaf of a nonterminal":         leaf("A"),
	"leaf without a production":     leaf("C"),
	"leaf with production 0":        {Sign: "a"},
	"leaf with production 1":        node("a", 1),
	"leaf with production -2":       node("a", -2),
	"leaf with Kids":                node("a", -1, leaf("a")),
	"leaf with an empty kid":        node("a", -1, node("A", 1)),
	"leaf past the terminals":       leaf("e"),
	"leaf of two":                   leaf("ab"),
	"leaf of nothing":               leaf(""),
	"leaf of a high byte":           leaf("\xff"),
	"leaf of the end":               leaf("$"),
	"production negative":           node("A", -1, leaf("a"), node("A", 1), leaf("b")),
	"production very negative":      node("A", -1<<63),
	"production past the end":       node("A", 5),
	"production far past the end":   node("A", 1<<62),
	"production of another":         node("B", 1),
	"production of another, filled": node("A", 2, leaf("b")),
	"sign of two":                   node("AB", 1),
	"sign of nothing":               node("", 1),
	"sign past the nonterminals":    node("F", 1),
	"sign of a terminal":            node("a", 1),
	"no Kids":                       node("A", 0),
	"Kids too few":                  node("A", 0, leaf("a"), node("A", 1)),
	"Kids too few at the front":     node("A", 0, node("A", 1), leaf("b")),
	"Kids too many":                 node("A", 0, leaf("a"), node("A", 1), leaf("b"), leaf("b")),
	"Kids where there are none":     node("A", 1, leaf("a")),
	"Kids of nothing":               node("A", 1, leaf("")),
	"Kids in another order":         node("A", 0, leaf("b"), node("A", 1), leaf("a")),
	"Kids turned":                   node("A", 0, leaf("a"), leaf("b"), node("A", 1)),
	"Kids of other symbols":         node("A", 0, leaf("a"), node("B", 2, leaf("b")), leaf("b")),
	"Kids of the same text":         node("A", 4, leaf("aa")),
	"Kids of the same text, two":    node("A", 4, leaf("aa"), leaf("")),
	"Kids of the same text, turned": node("A", 4, leaf(""), leaf("aa")),
	"kid with a wrong production":   node("A", 0, leaf("a"), node("A", 2, leaf("b")), leaf("b")),
	"kid a leaf that is none":       node("A", 0, leaf("a"), leaf("A"), leaf("b")),
	"kid a terminal with Kids":      node("A", 0, leaf("a"), node("A", 1), node("b", -1, leaf("b"))),
	"kid a terminal with Rule 0":    node("A", 0, node("a", 0), node("A", 1), leaf("b")),
	"bad deep inside": node("A", 0, leaf("a"), node("A", 0, leaf("a"), node("A", 3, node("B", 2, node("b", 0))),
		leaf("b")), leaf("b")),
	"bad at the end": node("A", 0, leaf("a"), node("A", 0, leaf("a"), node("A", 1), leaf("b")), node("b", -3)),
}

func TestInvalidTrees(t *testing.T) {
	g := read(t, "A\nA>aAb\nA>\nB>b\nA>B\nA>aa\n")
	for why, tree := range badTrees {
		if impl.TreeOk(g, tree) {
			t.Errorf("%s: %v is not valid", why, tree)
		}
		if got := impl.TreeText(g, tree); got != "" {
			t.Errorf("%s: TreeText = %q", why, got)
		}
		if got := impl.TreeRules(g, tree); len(got) != 0 {
			t.Errorf("%s: TreeRules = %v", why, got)
		}
		checkTree(t, g, tree)
	}
}

func TestTreesOfInvalidGrams(t *testing.T) {
	trees := []impl.Tree{{}, leaf("a"), leaf("A"), node("A", 0, leaf("a")), node("A", 0), node("A", 1, leaf("a"))}
	for why, g := range badGrams {
		for _, tree := range trees {
			if impl.TreeOk(g, tree) || impl.TreeText(g, tree) != "" || len(impl.TreeRules(g, tree)) != 0 {
				t.Errorf("%s: %v: %v, %q, %v", why, tree, impl.TreeOk(g, tree), impl.TreeText(g, tree), impl.TreeRules(g, tree))
			}
		}
		for _, text := range []string{"", "a", "[0a]", "[0]", "[1a]"} {
			if got, ok := impl.TreeRead(g, text); ok || !isZeroTree(got) {
				t.Errorf("%s: TreeRead of %q = %v, %v", why, text, got, ok)
			}
		}
		for _, rules := range [][]int{nil, {0}, {1}, {8}, {-1}, {0, 0}} {
			if got, ok := impl.TreeFrom(g, rules); ok || !isZeroTree(got) {
				t.Errorf("%s: TreeFrom of %v = %v, %v", why, rules, got, ok)
			}
		}
	}
}

// copyOf returns a tree that shares no memory with t.
func copyOf(t impl.Tree) impl.Tree {
	kids := slices.Clone(t.Kids)
	for i := range kids {
		kids[i] = copyOf(kids[i])
	}
	return impl.Tree{Sign: t.Sign, Rule: t.Rule, Kids: kids}
}

// nodesOf returns pointers to all nodes of t.
func nodesOf(t *impl.Tree) []*impl.Tree {
	nodes := []*impl.Tree{t}
	for i := range t.Kids {
		nodes = append(nodes, nodesOf(&t.Kids[i])...)
	}
	return nodes
}

// changes each change one node.
var changes = []func(*impl.Tree){
	func(n *impl.Tree) { n.Rule++ },
	func(n *impl.Tree) { n.Rule-- },
	func(n *impl.Tree) { n.Rule = -1 },
	func(n *impl.Tree) { n.Rule += 256 },
	func(n *impl.Tree) { n.Sign = "" },
	func(n *impl.Tree) { n.Sign += n.Sign },
	func(n *impl.Tree) { n.Sign = "a" },
	func(n *impl.Tree) { n.Sign = "b" },
	func(n *impl.Tree) { n.Sign = "A" },
	func(n *impl.Tree) { n.Sign = "e" },
	func(n *impl.Tree) { n.Sign = "\xff" },
	func(n *impl.Tree) { n.Kids = nil },
	func(n *impl.Tree) { n.Kids = n.Kids[min(1, len(n.Kids)):] },
	func(n *impl.Tree) { n.Kids = n.Kids[:max(1, len(n.Kids))-1] },
	func(n *impl.Tree) { n.Kids = append(n.Kids, leaf("a")) },
	func(n *impl.Tree) { n.Kids = append([]impl.Tree{leaf("b")}, n.Kids...) },
	func(n *impl.Tree) { slices.Reverse(n.Kids) },
	func(n *impl.Tree) { *n = node(n.Sign, n.Rule, copyOf(*n)) },
}

func TestTreesWithOneNodeChanged(t *testing.T) {
	someTrees(t, func(g impl.Gram, tree impl.Tree) {
		if sizeOf(tree) > 20 {
			return
		}
		for at := range nodesOf(&tree) {
			for _, change := range changes {
				changed := copyOf(tree)
				change(nodesOf(&changed)[at])
				checkTree(t, g, changed)
				if want := wantSame(tree, changed); impl.TreeSame(tree, changed) != want || impl.TreeSame(changed, tree) != want {
					t.Errorf("TreeSame(%v, %v) is not %v", tree, changed, want)
				}
			}
		}
	})
}

func TestTreeSame(t *testing.T) {
	trees := []impl.Tree{
		{}, leaf("a"), leaf("b"), node("a", 0), node("A", 0), node("A", 1), node("A", -1<<63), node("A", 1<<63-1),
		node("A", 0, leaf("a")), node("A", 0, leaf("a"), leaf("a")), node("A", 0, leaf("aa")), node("A", 0, leaf("a"), leaf("b")),
		node("A", 0, leaf("b"), leaf("a")), node("A", 0, node("A", 0)), node("A", 0, node("A", 0), node("A", 0)),
		node("A", 0, node("A", 0, node("A", 0))), node("A", 0, leaf("")), node("A", 0, leaf(""), leaf("")),
		leaf("\xff"), leaf("\xfe"), leaf("\ufffd"), leaf("a\x00"), leaf("0,"), leaf("A,0,1,"), node("x", 7, leaf("y"), node("z", 3)),
		node("x", 7, leaf("y"), node("z", 3, leaf("w"))), node("x", 7, node("y", -1, node("z", 3))),
	}
	// Trees of more nodes than one digit counts, which differ in the order of two of them.
	wide, turned := node("A", 0), node("A", 0)
	for i := range 30 {
		wide.Kids = append(wide.Kids, node("B", i))
		turned.Kids = append(turned.Kids, node("B", i))
	}
	turned.Kids[1], turned.Kids[11] = turned.Kids[11], turned.Kids[1]
	trees = append(trees, wide, turned)
	for at := range 30 {
		one, two := copyOf(wide), copyOf(wide)
		one.Kids = append(one.Kids, node("C", 0, node("B", at)))
		two.Kids = append(two.Kids, node("C", 0, node("B", at/10), node("B", at%10)))
		trees = append(trees, one, two)
	}
	many := node("A", 0)
	for i := range 300 {
		many.Kids = append(many.Kids, node("B", i))
	}
	for _, at := range []int{0, 10, 30, 256} {
		tree := copyOf(many)
		tree.Kids = append(tree.Kids, node("B", at))
		trees = append(trees, tree)
	}
	for i, a := range trees {
		for j, b := range trees {
			if got := impl.TreeSame(a, copyOf(b)); got != (i == j) {
				t.Errorf("TreeSame(%v, %v) = %v", a, b, got)
			}
		}
	}
	if !impl.TreeSame(impl.Tree{Sign: "A"}, impl.Tree{Sign: "A", Kids: []impl.Tree{}}) {
		t.Error("nil and empty slices are equivalent")
	}
}

func TestYieldAndSizeOfTreesOfAnyForm(t *testing.T) {
	cases := []struct {
		tree  impl.Tree
		yield string
		size  int
	}{
		{impl.Tree{}, "", 1},
		{leaf("A"), "", 1},
		{leaf("e"), "", 1},
		{leaf("ab"), "", 1},
		{leaf("\xff"), "", 1},
		{node("a", 99), "a", 1},
		{node("a", -1, leaf("b")), "a", 2},
		{node("a", -1, leaf("b"), node("c", 5, leaf("d"), leaf("a"))), "a", 5},
		{node("ab", 3, leaf("c"), leaf("d")), "cd", 3},
		{node("", 3, leaf("c"), node("xyz", 0, leaf("d"), leaf("aa")), leaf("b")), "cdb", 6},
		{node("A", 0, node("a", 0, leaf("b")), leaf("c"), node("a", 0, node("A", 0, leaf("d"))), leaf("b")), "acab", 8},
		{node("\u00e4", 0, leaf("a"), leaf("\x00"), leaf("a")), "aa", 4},
	}
	for _, c := range cases {
		if got := impl.TreeYield(c.tree); got != c.yield {
			t.Errorf("TreeYield(%v) = %q, want %q", c.tree, got, c.yield)
		}
		if got := impl.TreeSize(c.tree); got != c.size {
			t.Errorf("TreeSize(%v) = %d, want %d", c.tree, got, c.size)
		}
	}
}

// tower returns a tree of levels nodes above a top, each with a leaf beside the next one.
func tower(levels int, top impl.Tree) impl.Tree {
	tree := top
	for range levels {
		tree = node("A", 0, leaf("a"), tree)
	}
	return tree
}

func TestVeryDeepTrees(t *testing.T) {
	const levels = 300000
	g := read(t, "A\nA>aA\nA>\n")
	deep := tower(levels, node("A", 1))
	if impl.TreeYield(deep) != strings.Repeat("a", levels) || impl.TreeSize(deep) != 2*levels+1 {
		t.Error(len(impl.TreeYield(deep)), impl.TreeSize(deep))
	}
	if !impl.TreeSame(deep, tower(levels, node("A", 1))) || impl.TreeSame(deep, tower(levels, node("A", 2))) ||
		impl.TreeSame(deep, tower(levels-1, node("A", 1))) {
		t.Error("deep trees are compared to the end")
	}
	if impl.TreeOk(g, deep) || impl.TreeText(g, deep) != "" || len(impl.TreeRules(g, deep)) != 0 {
		t.Error("the tree is too deep")
	}
	rules := make([]int, levels+1)
	rules[levels] = 1
	if got, ok := impl.TreeFrom(g, rules); ok || !isZeroTree(got) {
		t.Error("the tree is too deep")
	}
}

func TestVeryWideTrees(t *testing.T) {
	const width = 300000
	g := read(t, "A\nA>aaaa\n")
	wide := node("A", 0, slices.Repeat([]impl.Tree{leaf("a")}, width)...)
	if impl.TreeYield(wide) != strings.Repeat("a", width) || impl.TreeSize(wide) != width+1 || !impl.TreeSame(wide, copyOf(wide)) {
		t.Error(len(impl.TreeYield(wide)), impl.TreeSize(wide))
	}
	if impl.TreeOk(g, wide) || impl.TreeText(g, wide) != "" || len(impl.TreeRules(g, wide)) != 0 {
		t.Error("the tree is too wide")
	}
}

func TestTreesThatShareMemory(t *testing.T) {
	g := read(t, "A\nA>AA\nA>a\n")
	tree := node("A", 1, leaf("a"))
	for range 4 {
		kids := []impl.Tree{tree, tree}
		tree = impl.Tree{Sign: "A", Rule: 0, Kids: kids}
	}
	checkTree(t, g, tree)
	if !impl.TreeOk(g, tree) || impl.TreeYield(tree) != strings.Repeat("a", 16) || impl.TreeSize(tree) != 47 {
		t.Error(impl.TreeOk(g, tree), impl.TreeYield(tree), impl.TreeSize(tree))
	}
}

func TestValuesThatContainThemselves(t *testing.T) {
	g := read(t, "A\nA>aA\nA>\n")
	kids := []impl.Tree{leaf("a"), node("A", 1)}
	kids[1] = impl.Tree{Sign: "A", Rule: 0, Kids: kids}
	value := kids[1]
	if impl.TreeOk(g, value) || impl.TreeText(g, value) != "" || len(impl.TreeRules(g, value)) != 0 {
		t.Error("no tree contains itself")
	}
	if impl.TreeYield(value) != "" || impl.TreeSize(value) != 0 {
		t.Error(impl.TreeYield(value), impl.TreeSize(value))
	}
	if impl.TreeSame(value, leaf("a")) || impl.TreeSame(leaf("a"), value) || impl.TreeSame(value, value) {
		t.Error("only trees are the same")
	}
}

func TestTreeFunctionsLeaveTheirArgumentsAlone(t *testing.T) {
	g := read(t, "A\nA>aAb\nA>\n")
	g.Rules = append(g.Rules, rule("X", "kept"))[:2]
	tree := node("A", 0, leaf("a"), node("A", 1), leaf("b"), leaf("kept"))
	tree.Kids = tree.Kids[:3]
	other := copyOf(tree)
	rules := []int{0, 0, 1, 77}[:3]
	impl.TreeOk(g, tree)
	impl.TreeYield(tree)
	impl.TreeSize(tree)
	impl.TreeText(g, tree)
	impl.TreeRead(g, "[0a[1]b]")
	impl.TreeSame(tree, other)
	impl.TreeRules(g, tree)
	impl.TreeFrom(g, rules)
	if !reflect.DeepEqual(g.Rules[:3], []impl.Rule{rule("A", "aAb"), rule("A", ""), rule("X", "kept")}) || g.Start != "A" {
		t.Errorf("%q", g.Rules[:3])
	}
	if !wantSame(tree, other) || !wantSame(tree.Kids[:4][3], leaf("kept")) {
		t.Error(tree, tree.Kids[:4])
	}
	if !slices.Equal(rules[:4], []int{0, 0, 1, 77}) {
		t.Error(rules[:4])
	}
}

// overwrite changes all of a tree, also what its slices have room for.
func overwrite(t *impl.Tree) {
	kids := t.Kids[:cap(t.Kids)]
	for i := range kids {
		overwrite(&kids[i])
	}
	*t = impl.Tree{Sign: "x", Rule: 99}
}

func TestTreesAreNewMemory(t *testing.T) {
	g := read(t, "A\nA>aAb\nA>\nA>AA\n")
	const text = "[2[0a[1]b][0a[2[1][1]]b]]"
	made := func() []impl.Tree {
		one, _ := impl.TreeRead(g, text)
		two, _ := impl.TreeRead(g, text)
		three, _ := impl.TreeFrom(g, []int{2, 0, 1, 0, 2, 1, 1})
		four, _ := impl.TreeFrom(g, []int{2, 0, 1, 0, 2, 1, 1})
		return []impl.Tree{one, two, three, four}
	}
	for i := range 4 {
		trees := made()
		overwrite(&trees[i])
		for j, tree := range trees {
			if want := i != j; impl.TreeOk(g, tree) != want {
				t.Error(i, j, tree)
			}
		}
	}
	// Two subtrees of one result share no memory either.
	tree := made()[0]
	overwrite(&tree.Kids[0])
	if impl.TreeText(g, tree.Kids[1]) != "[0a[2[1][1]]b]" {
		t.Error(tree)
	}
	if impl.GramText(g) != "A\nA>aAb\nA>\nA>AA\n" {
		t.Errorf("%q", g)
	}
}

func TestTreeRulesAreNewMemory(t *testing.T) {
	g := read(t, "A\nA>aAb\nA>\n")
	tree := node("A", 0, leaf("a"), node("A", 1), leaf("b"))
	one, two := impl.TreeRules(g, tree), impl.TreeRules(g, tree)
	for i := range one[:cap(one)] {
		one[:cap(one)][i] = 99
	}
	if !slices.Equal(two, []int{0, 1}) || impl.TreeText(g, tree) != "[0a[1]b]" {
		t.Error(two, tree)
	}
	rules := []int{0, 1}
	made, _ := impl.TreeFrom(g, rules)
	rules[0], rules[1] = 1, 0
	if !wantSame(made, tree) {
		t.Error(made)
	}
}
