package tests

import (
	"math"
	"slices"
	"strings"
	"testing"

	"loop.example/construer/impl"
)

// stand is a node that chapter 9 considers, with its Part.
type stand struct {
	part impl.Part
	tree impl.Tree
}

// The functions from here to wantKeep are the document's definitions, written out with calls of themselves.

// standsIn returns the nodes in preorder, where what is to the left of the tree ends at from.
func standsIn(tree impl.Tree, from int) []stand {
	if !oneOf(tree.Sign, bigs) {
		return nil
	}
	list := []stand{{part(tree.Sign, from, from+len(yieldOf(tree))), tree}}
	for _, kid := range tree.Kids {
		list = append(list, standsIn(kid, from)...)
		from += len(yieldOf(kid))
	}
	return list
}

func wantParts(tree impl.Tree) []impl.Part {
	var parts []impl.Part
	for _, s := range standsIn(tree, 0) {
		parts = append(parts, s.part)
	}
	return parts
}

func wantFind(tree impl.Tree, p impl.Part) (impl.Tree, bool) {
	for _, s := range standsIn(tree, 0) {
		if s.part == p {
			return s.tree, true
		}
	}
	return impl.Tree{}, false
}

// partBefore returns the Part that a reused node with the Part p has in the earlier tree, and false if the node cannot be reused.
func partBefore(p impl.Part, e impl.Edit) (impl.Part, bool) {
	if p.To <= e.At {
		return p, true
	}
	switch {
	case e.Kind == 1 && p.From >= e.At+1:
		return part(p.Sign, p.From-1, p.To-1), true
	case e.Kind == 2 && p.From >= e.At:
		return part(p.Sign, p.From+1, p.To+1), true
	case e.Kind == 3 && p.From >= e.At+1:
		return p, true
	}
	return impl.Part{}, false
}

// wantReused returns the nodes of tree that are reused.
func wantReused(old, tree impl.Tree, e impl.Edit) []stand {
	if e.Kind < 1 || e.Kind > 3 || e.At < 0 || e.At > 20 {
		return nil
	}
	var list []stand
	before := standsIn(old, 0)
	for _, s := range standsIn(tree, 0) {
		p, can := partBefore(s.part, e)
		if can && slices.ContainsFunc(before, func(b stand) bool { return b.part == p && wantSame(b.tree, s.tree) }) {
			list = append(list, s)
		}
	}
	return list
}

func wantKeep(m machine, old impl.Tree, e impl.Edit) (impl.Tree, int, int) {
	if !wantOk(m.g, old) || old.Sign != m.g.Start {
		return impl.Tree{}, 0, 3
	}
	text, ok := wantDo(yieldOf(old), e)
	if !ok {
		return impl.Tree{}, 0, 3
	}
	steps, _, code := m.steps(text)
	if code != 0 {
		return impl.Tree{}, 0, code
	}
	tree, _ := wantStepsTree(m.g, text, steps)
	return tree, len(wantReused(old, tree, e)), 0
}

// fives is a valid grammar with trees in which several nodes have one span.
const fives = "A\nA>B\nA>AB\nA>\nB>bA\nB>\n"

// partCases are trees of any form with the Parts of their nodes, written out by hand.
var partCases = []struct {
	why   string
	tree  impl.Tree
	parts string
}{
	{"the chapter's example", node("A", 0, node("B", 1, leaf("a"), node("B", 2, leaf("b"))), node("B", 2, leaf("b"))), "A03 B02 B12 B23"},
	{"one after the other", node("A", 0, leaf("a"), node("A", 0, leaf("a"), node("A", 1), leaf("b")), leaf("b")), "A04 A13 A22"},
	{"nothing at all", node("A", 1), "A00"},
	{"nothing several times", node("A", 0, node("B", 1), node("C", 2), node("B", 1)), "A00 B00 C00 B00"},
	{"nothing before, between and behind", node("A", 0, node("B", 1), leaf("a"), node("B", 1), leaf("b"), node("B", 1)), "A02 B00 B11 B22"},
	{"a nonterminal above itself", node("A", 0, node("A", 0, node("A", 1, leaf("a")))), "A01 A01 A01"},
	{"brothers below the first come first", node("A", 0, node("B", 1, node("C", 2, leaf("c")), node("D", 3)), node("E", 4, leaf("a"))), "A02 B01 C01 D11 E12"},
	{"a terminal", leaf("a"), ""},
	{"a terminal with nonterminals below", node("a", -1, node("A", 0, leaf("a"))), ""},
	{"the zero value", impl.Tree{}, ""},
	{"the empty string with nonterminals below", node("", 0, node("A", 0, leaf("a"))), ""},
	{"another letter", node("F", 0, node("A", 0, leaf("a"))), ""},
	{"another byte", node("@", 0, node("A", 0, leaf("a"))), ""},
	{"a high byte", node("\xc1", 0, node("A", 0, leaf("a"))), ""},
	{"a wide rune", node("\u0141", 0, node("A", 0, leaf("a"))), ""},
	{"two nonterminals as one", node("AB", 0, node("A", 0, leaf("a"))), ""},
	{"a symbol and more", node("A\x00", 0, node("A", 0, leaf("a"))), ""},
	{"the end", node("$", 0, node("A", 0, leaf("a"))), ""},
	{"each nonterminal", node("A", 0, node("B", 0, node("C", 0, node("D", 0, node("E", 0))))), "A00 B00 C00 D00 E00"},
	{"a leaf that is a nonterminal", leaf("E"), "E00"},
	{"leaves that are nonterminals", node("A", 0, leaf("B"), leaf("a"), leaf("B"), leaf("C")), "A01 B00 B11 C11"},
	{"no productions", node("A", -7, node("B", 1<<62, leaf("d"), leaf("d")), node("C", math.MinInt)), "A02 B02 C22"},
	{"Kids of no production", node("A", 0, leaf("a"), leaf("b"), leaf("c"), leaf("d"), leaf("a"), node("B", 0, leaf("b"))), "A06 B56"},
	{"nonterminals below another string", node("A", 0, node("x", 0, node("B", 1, leaf("a")), leaf("b")), node("C", 2, leaf("c"))), "A03 C23"},
	{"nonterminals below the empty string", node("A", 0, node("", 0, node("B", 1, leaf("a")), leaf("b")), node("C", 2)), "A02 C22"},
	{"nonterminals below a terminal", node("A", 0, node("a", -1, node("B", 1, leaf("b"), leaf("b"))), node("C", 1, leaf("b"))), "A02 C12"},
	{"nonterminals far below another string", node("A", 0, node("F", 0, node("A", 0, node("B", 0, leaf("a")))), node("B", 0, leaf("a"))), "A02 B12"},
	{"a terminal below another string below a terminal", node("A", 0, node("a", 0, node("x", 0, leaf("b"))), node("B", 0)), "A01 B11"},
	{"strings that are no terminals", node("A", 0, leaf("ab"), leaf("e"), leaf("\xff"), leaf(""), node("B", 1, leaf("b"))), "A01 B01"},
	{"terminals with any Rule", node("A", 0, node("a", 99), node("b", 0), node("B", 1, node("c", math.MinInt))), "A03 B23"},
}

func TestPartsWrittenOutByHand(t *testing.T) {
	for _, c := range partCases {
		if got := textOfParts(impl.TreeParts(c.tree)); got != c.parts {
			t.Errorf("%s: %s, want %s", c.why, got, c.parts)
		}
		checkTreeParts(t, c.tree)
	}
	// More than nine terminals, so that a number has two digits.
	wide := node("A", 0, slices.Repeat([]impl.Tree{node("B", 0, leaf("a"), leaf("b"))}, 300)...)
	parts := impl.TreeParts(wide)
	if len(parts) != 301 || parts[0] != part("A", 0, 600) || parts[6] != part("B", 10, 12) || parts[300] != part("B", 598, 600) {
		t.Error(parts)
	}
}

// partsAround returns Parts near those of a tree, and many that no tree has.
func partsAround(tree impl.Tree) []impl.Part {
	long := len(yieldOf(tree))
	var parts []impl.Part
	for _, sign := range []string{"A", "B", "a"} {
		for from := -1; from <= min(long, 3)+1; from++ {
			for to := -1; to <= min(long, 3)+1; to++ {
				parts = append(parts, part(sign, from, to))
			}
		}
	}
	for _, sign := range []string{tree.Sign, "C", "E", "F", "", "AA", "x", "$", "\xff"} {
		parts = append(parts, part(sign, 0, 0), part(sign, 0, long), part(sign, long, 0), part(sign, long, long))
	}
	for _, far := range []int{math.MinInt, math.MaxInt, long + 1, -long, 1 << 32} {
		parts = append(parts, part(tree.Sign, far, long), part(tree.Sign, 0, far), part(tree.Sign, far, far))
	}
	for _, p := range wantParts(tree) {
		parts = append(parts, p, part(p.Sign, p.To, p.From), part(p.Sign, p.From+1<<32, p.To+1<<32), part(p.Sign+p.Sign, p.From, p.To))
	}
	return parts
}

// tiled returns where the span of tree ends, and the Parts that are not below it, if the spans of its Kids follow each other
// from its beginning to its end, and those of their Kids do likewise.
func tiled(tree impl.Tree, from int, parts []impl.Part) (int, []impl.Part, bool) {
	if !oneOf(tree.Sign, bigs) {
		return from + len(yieldOf(tree)), parts, true
	}
	if len(parts) == 0 || parts[0].Sign != tree.Sign || parts[0].From != from {
		return 0, nil, false
	}
	end, rest, ok := parts[0].To, parts[1:], true
	for _, kid := range tree.Kids {
		if from, rest, ok = tiled(kid, from, rest); !ok {
			return 0, nil, false
		}
	}
	return end, rest, from == end
}

// checkTreeParts compares TreeParts and TreeFind with the definitions, and with what the document says of spans.
func checkTreeParts(t *testing.T, tree impl.Tree) {
	t.Helper()
	parts, text := impl.TreeParts(tree), yieldOf(tree)
	if want := wantParts(tree); !slices.Equal(parts, want) {
		t.Errorf("TreeParts(%v) = %v, want %v", tree, parts, want)
		return
	}
	if len(parts) > 0 && parts[0] != part(tree.Sign, 0, len(text)) {
		t.Errorf("the first part of %v is %v", tree, parts[0])
	}
	if _, rest, ok := tiled(tree, 0, parts); !ok || len(rest) != 0 {
		t.Errorf("the spans of %v are %v", tree, parts)
	}
	for _, p := range parts {
		found, ok := impl.TreeFind(tree, p)
		if !ok || found.Sign != p.Sign || yieldOf(found) != text[p.From:p.To] {
			t.Errorf("TreeFind(%v, %v) = %v, %v", tree, p, found, ok)
		}
	}
	for _, p := range partsAround(tree) {
		want, can := wantFind(tree, p)
		got, ok := impl.TreeFind(tree, p)
		if ok != can || !wantSame(got, want) || ok != slices.Contains(parts, p) {
			t.Errorf("TreeFind(%v, %v) = %v, %v, want %v, %v", tree, p, got, ok, want, can)
		}
	}
}

func TestFoundWrittenOutByHand(t *testing.T) {
	// In preorder: A01, A01 (another one), B00, B01, C01, and B00 is below it again.
	tree := node("A", 0, node("A", 1, node("B", 2), node("B", 3, node("C", 4, node("B", 5), node("x", 7, node("D", 6)), leaf("a")))))
	for _, c := range []struct {
		part impl.Part
		rule int
	}{
		{part("A", 0, 1), 0}, {part("B", 0, 0), 2}, {part("B", 0, 1), 3}, {part("C", 0, 1), 4},
		{part("D", 0, 0), -1}, {part("x", 0, 0), -1}, {part("a", 0, 1), -1}, {part("A", 0, 0), -1}, {part("A", 1, 1), -1},
		{part("B", 1, 1), -1}, {part("A", 1, 0), -1}, {part("A", -1, 1), -1}, {part("A", 0, -1), -1}, {part("A", -1, -1), -1},
		{part("", 0, 1), -1}, {part("E", 0, 1), -1}, {part("A", 0, 2), -1}, {part("A", math.MinInt, math.MaxInt), -1}, {impl.Part{}, -1},
	} {
		found, ok := impl.TreeFind(tree, c.part)
		if ok != (c.rule >= 0) || ok && (found.Rule != c.rule || found.Sign != c.part.Sign) || !ok && !isZeroTree(found) {
			t.Errorf("TreeFind of %v = %v, %v", c.part, found, ok)
		}
	}
	for _, empty := range []impl.Tree{{}, leaf("a"), leaf("x"), node("", 0, node("A", 0)), node("a", -1, node("A", 0))} {
		for _, p := range []impl.Part{{}, part("a", 0, 1), part("A", 0, 0), part("A", 0, 1), part("x", 0, 0), part("", 0, 1)} {
			if found, ok := impl.TreeFind(empty, p); ok || !isZeroTree(found) {
				t.Errorf("TreeFind(%v, %v) = %v, %v", empty, p, found, ok)
			}
		}
	}
}

func TestPartsOfManyTrees(t *testing.T) {
	someTrees(t, func(g impl.Gram, tree impl.Tree) {
		checkTreeParts(t, tree)
	})
}

// keepTrees are valid trees for which one node at a time is changed.
func keepTrees(t *testing.T) []impl.Tree {
	t.Helper()
	var trees []impl.Tree
	for _, gram := range []string{fives, "A\nA>BB\nB>aB\nB>b\n", "A\nA>BaB\nB>\nB>A\n", "A\nA>AB\nA>\nB>a\nB>b\n"} {
		trees = append(trees, treesOf(read(t, gram), "A", 4, 12)...)
	}
	for _, c := range partCases {
		trees = append(trees, c.tree)
	}
	return trees
}

func TestPartsOfTreesWithOneNodeChanged(t *testing.T) {
	for _, tree := range keepTrees(t) {
		for at := range nodesOf(&tree) {
			for _, change := range changes {
				changed := copyOf(tree)
				change(nodesOf(&changed)[at])
				checkTreeParts(t, changed)
			}
		}
	}
}

// kindsOfEdits are the three kinds at a position, each with a Sign of its own, and one with a Sign that is none.
func kindsOfEdits(at int) []impl.Edit {
	return []impl.Edit{editIn(at, "a"), editOut(at), editTurn(at, "b"), {Kind: 3, At: at, Sign: "what"}}
}

// checkMany compares KeepMany with the definition.
func checkMany(t *testing.T, old, tree impl.Tree, e impl.Edit) int {
	t.Helper()
	n := impl.KeepMany(old, tree, e)
	if want := len(wantReused(old, tree, e)); n != want {
		t.Errorf("KeepMany(%v, %v, %v) = %d, want %d", old, tree, e, n, want)
	}
	return n
}

// nothing and b are nodes of no terminal and of one.
func nothing(sign string) impl.Tree {
	return node(sign, 1)
}

func b() impl.Tree {
	return node("B", 2, leaf("b"))
}

// manyCases are numbers of reused nodes of trees of any form, counted by hand.
var manyCases = []struct {
	why       string
	old, tree impl.Tree
	edit      impl.Edit
	many      int
}{
	// A symbol that derives itself: several nodes with one Part, which are not equal.
	{"the outer one is gone", node("A", 0, node("A", 0, node("A", 1, leaf("a")))), node("A", 0, node("A", 1, leaf("a"))), editIn(1, "a"), 2},
	{"one more is outside", node("A", 0, node("A", 1, leaf("a"))), node("A", 0, node("A", 0, node("A", 1, leaf("a")))), editIn(1, "a"), 2},
	{"the inner one is another", node("A", 0, node("A", 1, leaf("a"))), node("A", 0, node("A", 3, leaf("a"))), editIn(1, "a"), 0},
	{"only the inner one stays", node("A", 0, node("A", 1, leaf("a"))), node("A", 3, node("A", 1, leaf("a"))), editIn(1, "a"), 1},
	// The same Part, but another node.
	{"another Rule", node("A", 0, leaf("a")), node("A", 1, leaf("a")), editIn(1, "a"), 0},
	{"another Rule of a terminal", node("A", 0, leaf("a")), node("A", 0, node("a", 0)), editIn(1, "a"), 0},
	{"another terminal", node("A", 0, leaf("a")), node("A", 0, leaf("b")), editIn(1, "a"), 0},
	{"another nonterminal", node("A", 0, leaf("a")), node("B", 0, leaf("a")), editIn(1, "a"), 0},
	{"one of the Kids more", node("A", 0, leaf("a")), node("A", 0, leaf("a"), leaf("")), editIn(1, "a"), 0},
	{"one of the Kids less", node("A", 0, leaf("a"), nothing("B")), node("A", 0, leaf("a")), editIn(1, "a"), 0},
	{"one of a terminal's Kids more", node("A", 0, leaf("a")), node("A", 0, node("a", -1, leaf("b"))), editIn(1, "a"), 0},
	{"Kids in another order", node("A", 0, leaf("a"), nothing("B")), node("A", 0, nothing("B"), leaf("a")), editIn(1, "a"), 0},
	{"one more between it and the same", node("A", 0, b()), node("A", 0, node("C", 5, b())), editIn(1, "a"), 1},
	// The same node, but another Part.
	{"to the right without an edit there", node("A", 0, b()), node("A", 0, leaf("a"), b()), editIn(2, "a"), 0},
	{"to the right without an edit in between", node("A", 0, b(), leaf("a")), node("A", 0, leaf("a"), b()), editTurn(0, "a"), 0},
	{"to the right by an edit", node("A", 0, b()), node("A", 0, leaf("a"), b()), editIn(0, "a"), 1},
	{"to the right by two", node("A", 0, b()), node("A", 0, leaf("a"), leaf("a"), b()), editIn(0, "a"), 0},
	{"to the left by an edit", node("A", 0, leaf("a"), b()), node("A", 0, b()), editOut(0), 1},
	{"to the left by two", node("A", 0, leaf("a"), leaf("a"), b()), node("A", 0, b()), editOut(0), 0},
	{"longer by a terminal", node("A", 0, leaf("a"), nothing("B")), node("A", 0, leaf("a"), b()), editIn(3, "a"), 0},
	// What stands at the edit, ends there, starts there, and reaches over it.
	{"in where it starts", node("A", 0, b()), node("A", 0, b()), editIn(0, "b"), 0},
	{"in where it ends", node("A", 0, b()), node("A", 0, b()), editIn(1, "b"), 2},
	{"in behind its end", node("A", 0, b()), node("A", 0, b()), editIn(2, "b"), 2},
	{"out where it starts", node("A", 0, b()), node("A", 0, b()), editOut(0), 0},
	{"out where it starts, shifted", node("A", 0, leaf("b"), b()), node("A", 0, b(), leaf("b")), editOut(0), 1},
	{"out where it ends", node("A", 0, b()), node("A", 0, b()), editOut(1), 2},
	{"turn where it starts", node("A", 0, b()), node("A", 0, b()), editTurn(0, "b"), 0},
	{"turn where it ends", node("A", 0, b()), node("A", 0, b()), editTurn(1, "b"), 2},
	{"turn before it", node("A", 0, leaf("a"), b()), node("A", 0, leaf("a"), b()), editTurn(0, "b"), 1},
	{"in within it", node("B", 0, leaf("a"), leaf("b")), node("B", 0, leaf("a"), leaf("b")), editIn(1, "b"), 0},
	{"out within it", node("B", 0, leaf("a"), leaf("b")), node("B", 0, leaf("a"), leaf("b")), editOut(1), 0},
	{"turn within it", node("B", 0, leaf("a"), leaf("b")), node("B", 0, leaf("a"), leaf("b")), editTurn(1, "b"), 0},
	// Nothing at the edit. Before the edit, and in out also just at it, only the same Part counts.
	{"nothing where something is put", node("A", 0, nothing("B")), node("A", 9, nothing("B"), leaf("a")), editIn(0, "a"), 1},
	{"nothing behind what is put", node("A", 0, nothing("B")), node("A", 9, leaf("a"), nothing("B")), editIn(0, "a"), 1},
	{"nothing around what is put", node("A", 0, nothing("B")), node("A", 9, nothing("B"), leaf("a"), nothing("B")), editIn(0, "a"), 2},
	{"another nothing around what is put", node("A", 0, nothing("B")), node("A", 9, nothing("C"), leaf("a"), nothing("C")), editIn(0, "a"), 0},
	{"nothing between two that were there", node("A", 0, leaf("a"), nothing("B"), leaf("b")), node("A", 9, leaf("a"), leaf("c"), nothing("B"), leaf("b")), editIn(1, "c"), 1},
	{"nothing behind the next one", node("A", 0, leaf("a"), nothing("B")), node("A", 9, leaf("c"), leaf("a"), nothing("B")), editIn(0, "c"), 1},
	{"nothing that did not move", node("A", 0, leaf("a"), nothing("B")), node("A", 9, leaf("c"), nothing("B"), leaf("a")), editIn(0, "c"), 0},
	{"nothing just before what is deleted", node("A", 0, nothing("B"), leaf("a")), node("A", 9, nothing("B")), editOut(0), 1},
	{"nothing just behind what is deleted", node("A", 0, leaf("a"), nothing("B")), node("A", 9, nothing("B")), editOut(0), 0},
	{"nothing just behind what is deleted, later", node("A", 0, leaf("c"), leaf("a"), nothing("B")), node("A", 9, leaf("c"), nothing("B")), editOut(1), 0},
	{"nothing behind the next one that is deleted", node("A", 0, leaf("a"), leaf("b"), nothing("B")), node("A", 9, leaf("b"), nothing("B")), editOut(0), 1},
	{"nothing just before what is replaced", node("A", 0, nothing("B"), leaf("a")), node("A", 9, nothing("B"), leaf("b")), editTurn(0, "b"), 1},
	{"nothing just behind what is replaced", node("A", 0, leaf("a"), nothing("B")), node("A", 9, leaf("b"), nothing("B")), editTurn(0, "b"), 1},
	{"nothing around what is replaced", node("A", 0, nothing("B"), leaf("a"), nothing("B")), node("A", 9, nothing("B"), leaf("b"), nothing("B")), editTurn(0, "b"), 2},
	{"nothing from behind what is replaced", node("A", 0, leaf("a"), nothing("B")), node("A", 9, nothing("B"), leaf("b")), editTurn(0, "b"), 0},
	{"nothing in nothing", nothing("A"), nothing("A"), editIn(0, "a"), 1},
	// The same node several times.
	{"twice in the earlier tree", node("A", 0, nothing("B"), nothing("B")), node("A", 9, nothing("B")), editIn(0, "a"), 1},
	{"once in the earlier tree", node("A", 0, nothing("B")), node("A", 9, nothing("B"), nothing("B"), nothing("B")), editIn(0, "a"), 3},
	{"the second of two Parts", node("A", 0, node("B", 7), nothing("B")), node("A", 9, nothing("B")), editIn(0, "a"), 1},
	{"the first of two Parts", node("A", 0, nothing("B"), node("B", 7)), node("A", 9, nothing("B")), editIn(0, "a"), 1},
	{"below itself and beside itself", node("A", 0, node("A", 0, nothing("A")), nothing("A")), node("A", 9, node("A", 0, nothing("A")), nothing("A")), editIn(0, "a"), 3},
	// Roots and nodes that are not considered.
	{"a terminal before", leaf("a"), node("A", 0, leaf("a")), editIn(1, "a"), 0},
	{"a terminal now", node("A", 0, leaf("a")), leaf("a"), editIn(1, "a"), 0},
	{"terminals", leaf("a"), leaf("a"), editIn(1, "a"), 0},
	{"another string before", node("x", 0, b()), node("A", 0, b()), editIn(1, "a"), 0},
	{"another string now", node("A", 0, b()), node("x", 0, b()), editIn(1, "a"), 0},
	{"the empty string before", node("", 0, b()), b(), editIn(1, "a"), 0},
	{"the empty string now", b(), node("", 0, b()), editIn(1, "a"), 0},
	{"zero values", impl.Tree{}, impl.Tree{}, editIn(0, "a"), 0},
	{"below another string before", node("A", 0, node("x", 0, b())), node("A", 9, b()), editIn(1, "a"), 0},
	{"below another string now", node("A", 0, b()), node("A", 9, node("x", 0, b())), editIn(1, "a"), 0},
	{"below another string, within the same", node("A", 0, node("x", 0, b())), node("A", 0, node("x", 0, b())), editIn(1, "a"), 1},
	{"below a terminal before", node("A", 0, node("b", 0, b())), node("A", 9, b()), editIn(1, "a"), 0},
	{"below a terminal, within the same", node("A", 0, node("b", 0, b())), node("A", 0, node("b", 0, b())), editIn(1, "a"), 1},
	{"a leaf that is a nonterminal", node("A", 0, leaf("B"), leaf("a")), node("A", 9, leaf("B"), leaf("c"), leaf("a")), editIn(0, "c"), 1},
	{"no productions", node("A", -7, node("B", -8, leaf("e"), leaf("a"))), node("A", -9, node("B", -8, leaf("e"), leaf("a"))), editIn(1, "c"), 1},
}

func TestNumbersOfReusedNodesWrittenOutByHand(t *testing.T) {
	for _, c := range manyCases {
		if n := impl.KeepMany(c.old, c.tree, c.edit); n != c.many {
			t.Errorf("%s: %d, want %d", c.why, n, c.many)
		}
		// The Sign of an edit does not matter, nor whether the edit makes one yield of the other.
		for _, sign := range []string{"", "d", "A", "aa", "\xff"} {
			if n := impl.KeepMany(c.old, c.tree, impl.Edit{Kind: c.edit.Kind, At: c.edit.At, Sign: sign}); n != c.many {
				t.Errorf("%s: with the Sign %q %d, want %d", c.why, sign, n, c.many)
			}
		}
		for at := range 4 {
			for _, e := range kindsOfEdits(at) {
				checkMany(t, c.old, c.tree, e)
				checkMany(t, c.tree, c.old, e)
			}
		}
	}
}

func TestKindsAndPositionsThatCount(t *testing.T) {
	// Each of the letters is a node, so that the number tells the position: from 0 to 20 terminals before it are reused.
	letters := node("A", 0)
	for i := range 24 {
		letters.Kids = append(letters.Kids, node("B", i, leaf("a")))
	}
	for _, kind := range append(numbersAround(4), 255, 256, 257, 258, 259, 1<<32+1, 1<<32+2, 1<<32+3) {
		for _, at := range append(numbersAround(24), 255, 256, 257, 276) {
			e, want := impl.Edit{Kind: kind, At: at, Sign: "b"}, 0
			if at >= 0 && at <= 20 {
				// Those that are not before the edit are where they were only if it replaced one.
				want = map[int]int{1: at, 2: at, 3: 23}[kind]
			}
			if n := impl.KeepMany(letters, letters, e); n != want {
				t.Errorf("KeepMany across %v = %d, want %d", e, n, want)
			}
			checkMany(t, letters, letters, e)
		}
	}
	// Behind the edit.
	for at := range 22 {
		for _, c := range []struct {
			edit      impl.Edit
			old, tree []impl.Tree
			want      int
		}{
			{editIn(at, "b"), letters.Kids[1:], letters.Kids, 23 - at},
			{editOut(at), letters.Kids, letters.Kids[1:], 23 - at},
			{editTurn(at, "b"), letters.Kids, letters.Kids, 23},
		} {
			want := c.want
			if at > 20 {
				want = 0
			}
			if n := checkMany(t, node("A", 0, c.old...), node("A", 0, c.tree...), c.edit); n != want {
				t.Errorf("KeepMany across %v = %d, want %d", c.edit, n, want)
			}
		}
	}
}

// keepCases are trees after an edit, written out by hand, with the number of their nodes that are reused.
var keepCases = []struct {
	gram string
	old  string
	edit string
	tree string
	many int
}{
	// The chapter's example.
	{"A\nA>BB\nB>aB\nB>b\n", "[0[1a[2b]][2b]]", "in 0 a", "[0[1a[1a[2b]]][2b]]", 3},
	{"A\nA>BB\nB>aB\nB>b\n", "[0[1a[2b]][2b]]", "in 1 a", "[0[1a[1a[2b]]][2b]]", 2},
	{"A\nA>BB\nB>aB\nB>b\n", "[0[1a[2b]][2b]]", "in 2 a", "[0[1a[2b]][1a[2b]]]", 3},
	{"A\nA>BB\nB>aB\nB>b\n", "[0[1a[2b]][2b]]", "out 0", "[0[2b][2b]]", 2},
	{"A\nA>BB\nB>aB\nB>b\n", "[0[2b][2b]]", "in 0 a", "[0[1a[2b]][2b]]", 2},
	{"A\nA>BB\nB>aB\nB>b\n", "[0[2b][2b]]", "in 1 a", "[0[2b][1a[2b]]]", 2},
	// A list that grows to the right: everything on the left stays.
	{"A\nA>AB\nA>\nB>a\nB>b\n", "[0[0[1][2a]][3b]]", "in 0 b", "[0[0[0[1][3b]][2a]][3b]]", 3},
	{"A\nA>AB\nA>\nB>a\nB>b\n", "[0[0[1][2a]][3b]]", "in 1 b", "[0[0[0[1][2a]][3b]][3b]]", 4},
	{"A\nA>AB\nA>\nB>a\nB>b\n", "[0[0[1][2a]][3b]]", "in 2 b", "[0[0[0[1][2a]][3b]][3b]]", 5},
	{"A\nA>AB\nA>\nB>a\nB>b\n", "[0[0[1][2a]][3b]]", "in 2 a", "[0[0[0[1][2a]][3b]][2a]]", 5},
	{"A\nA>AB\nA>\nB>a\nB>b\n", "[0[0[1][2a]][3b]]", "out 0", "[0[1][3b]]", 2},
	{"A\nA>AB\nA>\nB>a\nB>b\n", "[0[0[1][2a]][3b]]", "out 1", "[0[1][2a]]", 3},
	{"A\nA>AB\nA>\nB>a\nB>b\n", "[0[0[1][2a]][3b]]", "turn 0 b", "[0[0[1][3b]][3b]]", 2},
	{"A\nA>AB\nA>\nB>a\nB>b\n", "[0[0[1][2a]][3b]]", "turn 1 a", "[0[0[1][2a]][2a]]", 3},
	{"A\nA>AB\nA>\nB>a\nB>b\n", "[1]", "in 0 a", "[0[1][2a]]", 1},
	{"A\nA>AB\nA>\nB>a\nB>b\n", "[0[1][2a]]", "out 0", "[1]", 1},
	// A list that grows to the left: everything on the right stays, but for nothing just behind what is deleted.
	{"A\nA>BA\nA>\nB>a\nB>b\n", "[0[2a][0[3b][1]]]", "in 0 b", "[0[3b][0[2a][0[3b][1]]]]", 5},
	{"A\nA>BA\nA>\nB>a\nB>b\n", "[0[2a][0[3b][1]]]", "in 1 b", "[0[2a][0[3b][0[3b][1]]]]", 4},
	{"A\nA>BA\nA>\nB>a\nB>b\n", "[0[2a][0[3b][1]]]", "in 2 b", "[0[2a][0[3b][0[3b][1]]]]", 3},
	{"A\nA>BA\nA>\nB>a\nB>b\n", "[0[2a][0[3b][1]]]", "out 0", "[0[3b][1]]", 3},
	{"A\nA>BA\nA>\nB>a\nB>b\n", "[0[2a][0[3b][1]]]", "out 1", "[0[2a][1]]", 1},
	{"A\nA>BA\nA>\nB>a\nB>b\n", "[0[2a][0[3b][1]]]", "turn 0 b", "[0[3b][0[3b][1]]]", 3},
	{"A\nA>BA\nA>\nB>a\nB>b\n", "[0[2a][0[3b][1]]]", "turn 1 a", "[0[2a][0[2a][1]]]", 2},
	{"A\nA>BA\nA>\nB>a\nB>b\n", "[1]", "in 0 a", "[0[2a][1]]", 1},
	{"A\nA>BA\nA>\nB>a\nB>b\n", "[0[2a][1]]", "out 0", "[1]", 0},
	// Nothing on both sides of the edit.
	{"A\nA>BCB\nB>\nC>c\nC>\n", "[0[1][3][1]]", "in 0 c", "[0[1][2c][1]]", 2},
	{"A\nA>BCB\nB>\nC>c\nC>\n", "[0[1][2c][1]]", "out 0", "[0[1][3][1]]", 2},
	{"A\nA>BCB\nB>\nC>c\nC>d\n", "[0[1][2c][1]]", "turn 0 d", "[0[1][3d][1]]", 2},
	{"A\nA>B\nB>C\nC>c\nC>d\n", "[0[1[2c]]]", "turn 0 d", "[0[1[3d]]]", 0},
	// Brackets around a list.
	{"A\nA>AB\nA>\nB>a\nB>bAc\n", "[0[1][3b[0[1][2a]]c]]", "in 0 a", "[0[0[1][2a]][3b[0[1][2a]]c]]", 5},
	{"A\nA>AB\nA>\nB>a\nB>bAc\n", "[0[1][3b[0[1][2a]]c]]", "in 1 a", "[0[1][3b[0[0[1][2a]][2a]]c]]", 3},
	{"A\nA>AB\nA>\nB>a\nB>bAc\n", "[0[1][3b[0[1][2a]]c]]", "in 2 a", "[0[1][3b[0[0[1][2a]][2a]]c]]", 4},
	{"A\nA>AB\nA>\nB>a\nB>bAc\n", "[0[1][3b[0[1][2a]]c]]", "in 3 a", "[0[0[1][3b[0[1][2a]]c]][2a]]", 6},
	{"A\nA>AB\nA>\nB>a\nB>bAc\n", "[0[1][3b[0[1][2a]]c]]", "out 1", "[0[1][3b[1]c]]", 2},
	// From nine terminals to eight. In a right-recursive list each node reaches to the end.
	{"A\nA>aA\nA>\n", "[0a[0a[0a[0a[0a[0a[0a[0a[0a[1]]]]]]]]]]", "out 0", "[0a[0a[0a[0a[0a[0a[0a[0a[1]]]]]]]]]", 9},
	{"A\nA>aA\nA>\n", "[0a[0a[0a[0a[0a[0a[0a[0a[0a[1]]]]]]]]]]", "out 4", "[0a[0a[0a[0a[0a[0a[0a[0a[1]]]]]]]]]", 5},
	{"A\nA>aA\nA>\n", "[0a[0a[0a[0a[0a[0a[0a[0a[0a[1]]]]]]]]]]", "out 8", "[0a[0a[0a[0a[0a[0a[0a[0a[1]]]]]]]]]", 0},
	{"A\nA>aA\nA>\n", "[0a[0a[0a[0a[0a[0a[0a[1]]]]]]]]", "in 7 a", "[0a[0a[0a[0a[0a[0a[0a[0a[1]]]]]]]]]", 1},
}

func TestTreesAfterEditsWrittenOutByHand(t *testing.T) {
	for _, c := range keepCases {
		g, e := read(t, c.gram), editsFrom(t, c.edit)[0]
		old, fine := impl.TreeRead(g, c.old)
		if !fine {
			t.Fatal(c.old)
		}
		tree, n, code := impl.KeepRun(g, old, e)
		if s := wantText(tree); s != c.tree || n != c.many || code != 0 {
			t.Errorf("%q: %s of %s is %s, %d, %d, want %s, %d", c.gram, c.edit, c.old, s, n, code, c.tree, c.many)
		}
		checkKeep(t, machineOf(g), old, e)
	}
}

// checkKeep compares KeepRun with the definition and with the other functions that the definition names. It returns the code.
func checkKeep(t *testing.T, m machine, old impl.Tree, e impl.Edit) int {
	t.Helper()
	g := m.g
	want, many, code := wantKeep(m, old, e)
	tree, n, got := impl.KeepRun(g, old, e)
	if !wantSame(tree, want) || n != many || got != code {
		t.Errorf("KeepRun(%q, %v, %v) = %v, %d, %d, want %v, %d, %d", g, old, e, tree, n, got, want, many, code)
	}
	text, ok := impl.EditDo(impl.TreeYield(old), e)
	if !ok || !impl.TreeOk(g, old) || old.Sign != g.Start {
		if got != 3 || n != 0 || !isZeroTree(tree) {
			t.Errorf("KeepRun(%q, %v, %v) = %v, %d, %d", g, old, e, tree, n, got)
		}
		return got
	}
	run, _, end := impl.RunOf(g, text)
	if end != got || !impl.TreeSame(run, tree) || got != 0 && (n != 0 || !isZeroTree(tree)) {
		t.Errorf("KeepRun(%q, %v, %v) = %v, %d, %d, but RunOf is %v, %d", g, old, e, tree, n, got, run, end)
	}
	if got == 0 {
		checkKept(t, g, old, e, tree, n)
	}
	return got
}

// checkKept is for an edited string that is parsed: yield and number are right, and the edit is undone.
func checkKept(t *testing.T, g impl.Gram, old impl.Tree, e impl.Edit, tree impl.Tree, n int) {
	t.Helper()
	text, after := yieldOf(old), yieldOf(tree)
	if want, _ := wantDo(text, e); after != want || n != impl.KeepMany(old, tree, e) {
		t.Errorf("%q: after %v, %q is %q, and %d nodes are reused", g, e, text, after, n)
	}
	// A grammar without a conflict is unambiguous, so that the Parts alone tell which nodes are equal.
	parts, same := impl.TreeParts(old), 0
	for _, p := range impl.TreeParts(tree) {
		if before, can := partBefore(p, e); can && slices.Contains(parts, before) {
			same++
		}
	}
	if same != n {
		t.Errorf("%q: %d nodes of %v are reused from %v across %v, but %d Parts", g, n, tree, old, e, same)
	}
	if len(text) > 8 || !wantOk(g, tree) {
		return
	}
	back, _ := impl.EditBack(text, e)
	first, m, code := impl.KeepRun(g, tree, back)
	if code != 0 || !wantSame(first, old) {
		t.Errorf("%q: %v after %v is %v, %d, and not %v", g, tree, back, first, code, old)
	}
	if !slices.ContainsFunc(g.Rules, func(r impl.Rule) bool { return r.Right == "" }) && m != n {
		t.Errorf("%q: %d nodes of %v are reused from %v, but %d the other way", g, n, tree, old, m)
	}
}

// editsAround returns edits of a string of all kinds at all positions, and many that cannot be applied.
func editsAround(text string) []impl.Edit {
	edits := editsInOrder(text, smalls)
	for _, at := range []int{-1, 0, len(text), len(text) + 1, 20, 21, math.MinInt, math.MaxInt} {
		for _, kind := range []int{-1, 0, 1, 2, 3, 4, math.MinInt, math.MaxInt} {
			for _, sign := range []string{"", "a", "A", "e", "ab"} {
				edits = append(edits, impl.Edit{Kind: kind, At: at, Sign: sign})
			}
		}
	}
	return edits
}

func TestTreesAfterEditsAreThoseOfTheEditedStrings(t *testing.T) {
	codes := map[int]int{}
	for _, gram := range runGrams {
		m := machineOf(read(t, gram))
		trees := treesOf(m.g, m.g.Start, 6, 12)
		for _, tree := range trees {
			edits := editsInOrder(yieldOf(tree), smalls)
			if len(yieldOf(tree)) < 4 {
				edits = editsAround(yieldOf(tree))
			}
			for _, e := range edits {
				codes[checkKeep(t, m, tree, e)]++
			}
		}
	}
	if codes[0] < 300 || codes[1] < 2000 || codes[3] < 2000 {
		t.Error(codes)
	}
}

func TestTreesAfterEditsOfListsAndBrackets(t *testing.T) {
	fine := 0
	for _, gram := range []string{
		"A\nA>AB\nA>\nB>a\nB>b\n",
		"A\nA>BA\nA>\nB>a\nB>b\n",
		"A\nA>AB\nA>\nB>a\nB>bAc\n",
		"A\nA>BA\nA>\nB>a\nB>bAc\n",
		"A\nA>CBA\nA>\nB>a\nB>bAc\nC>\n",
		"A\nA>ABC\nA>B\nB>a\nB>bAc\nC>\n",
		"A\nA>BCA\nA>B\nB>a\nB>b\nC>\n",
		"A\nA>aA\nA>b\n",
		"A\nA>Ab\nA>a\nA>c\n",
		"A\nA>BC\nB>aB\nB>\nC>Cb\nC>D\nD>\n",
	} {
		m := machineOf(read(t, gram))
		if m.code != 0 {
			t.Fatalf("%q does not belong here", gram)
		}
		for _, text := range append(textsOver("ab", 4), "bac", "bcbc", "bbcc", "babcac", "abaabac", "bbbaaaca", "cbbbbbbb") {
			if !impl.AllIs(m.g, text) {
				continue
			}
			tree, _, _ := impl.RunOf(m.g, text)
			for _, e := range editsInOrder(text, "abcd"[:3]) {
				if checkKeep(t, m, tree, e) == 0 {
					fine++
				}
			}
		}
	}
	if fine < 1500 {
		t.Errorf("only %d edited strings are parsed", fine)
	}
}

func TestTreesAfterEditsInManyGrams(t *testing.T) {
	codes := map[int]int{}
	machines := changedGrams(t)
	for _, g := range slices.Concat(liveGrams(), itemGrams()[:500]) {
		machines = append(machines, machineOf(g))
	}
	for _, m := range machines {
		g := m.g
		for i, tree := range treesOf(g, g.Start, 5, 4) {
			text := yieldOf(tree)
			if len(text) > 9 {
				continue
			}
			edits := editsInOrder(text, symbolsOf(g, smalls))
			for at := i % 4; at < len(edits); at += 4 {
				codes[checkKeep(t, m, tree, edits[at])]++
			}
		}
	}
	if codes[0] < 1500 || codes[1] < 5000 || codes[2] < 500 || codes[3] < 3000 || codes[4] < 30 {
		t.Error(codes)
	}
}

func TestNumbersOfReusedNodesInTreesWithOneNodeChanged(t *testing.T) {
	pick, many, none := picker(23), 0, 0
	trees := keepTrees(t)
	for _, tree := range trees {
		text := yieldOf(tree)
		for at := range nodesOf(&tree) {
			for _, change := range changes {
				changed := copyOf(tree)
				change(nodesOf(&changed)[at])
				e := kindsOfEdits(pick(len(text) + 2))[pick(3)]
				if checkMany(t, tree, changed, e) > 0 {
					many++
				} else {
					none++
				}
				checkMany(t, changed, tree, e)
				checkMany(t, changed, trees[pick(len(trees))], e)
			}
		}
		// A tree and the tree itself: those that the edit is not within are reused, if it is a replacement.
		for at := range len(text) + 2 {
			want := 0
			for _, p := range wantParts(tree) {
				if p.To <= at || p.From > at {
					want++
				}
			}
			if n := impl.KeepMany(tree, tree, editTurn(at, "a")); n != want {
				t.Errorf("KeepMany(%v, itself, at %d) = %d, want %d", tree, at, n, want)
			}
		}
	}
	if many < 1000 || none < 1000 {
		t.Errorf("nodes are reused in %d of the trees, and none in %d", many, none)
	}
}

func TestNumbersOfReusedNodesInPairsOfTrees(t *testing.T) {
	most := 0
	for _, gram := range []string{fives, "A\nA>AA\nA>a\nA>\n", "A\nA>A\nA>AA\nA>a\nA>b\n", "A\nA>BaB\nB>\nB>A\nB>C\nC>\n"} {
		trees := treesOf(read(t, gram), "A", 5, 24)
		for _, old := range trees {
			for _, tree := range trees {
				for at := range 4 {
					for _, e := range kindsOfEdits(at)[:3] {
						most = max(most, checkMany(t, old, tree, e))
					}
				}
			}
		}
	}
	if most < 8 {
		t.Errorf("at most %d nodes are reused", most)
	}
}

func TestCodesOfKeepRun(t *testing.T) {
	const (
		endless = "A\nA>da\nA>bE\nE>BE\nE>CD\nB>\nC>a\n"
		tall    = "A\nA>BBBB\nB>CCCC\nC>DDDD\nD>EEEE\nE>\nA>a\n"
		list    = "A\nA>aA\nA>\n"
		seven   = "[0a[0a[0a[0a[0a[0a[0a[1]]]]]]]]"
		eight   = "[0a" + seven + "]"
		nine    = "[0a" + eight + "]"
		ten     = "[0a" + nine + "]"
		twenty  = "[0[1aaaa][1aaaa][1aaaa][2[1aaaa][1aaaa]]]"
	)
	for _, c := range []struct {
		why, gram, old, edit string
		code                 int
	}{
		{"the first given test", exampleGram, "[0[1[2a]]b[3c[1[2a]]d]]", "turn 3 a", 3},
		{"the second given test", exampleGram, "[0[1[2a]]b[3c[1[2a]]d]]", "turn 0 c", 1},
		{"not derived", "A\nA>BB\nB>aB\nB>b\n", "[0[1a[2b]][2b]]", "in 3 a", 1},
		{"not derived, by another terminal", "A\nA>BB\nB>aB\nB>b\n", "[0[1a[2b]][2b]]", "in 0 c", 1},
		{"past the end", "A\nA>BB\nB>aB\nB>b\n", "[0[1a[2b]][2b]]", "in 4 a", 3},
		{"out past the end", "A\nA>BB\nB>aB\nB>b\n", "[0[1a[2b]][2b]]", "out 3", 3},
		{"turn past the end", "A\nA>BB\nB>aB\nB>b\n", "[0[1a[2b]][2b]]", "turn 3 a", 3},
		{"before the beginning", "A\nA>BB\nB>aB\nB>b\n", "[0[1a[2b]][2b]]", "in -1 a", 3},
		{"of no terminal", "A\nA>BB\nB>aB\nB>b\n", "[0[1a[2b]][2b]]", "in 0 B", 3},
		{"of another byte", "A\nA>BB\nB>aB\nB>b\n", "[0[1a[2b]][2b]]", "in 0 e", 3},
		{"a conflict", clashing[0], "[0[1a]b[1a]]", "in 0 a", 2},
		{"a conflict, though it is derived", clashing[0], "[1a]", "turn 0 b", 2},
		{"a conflict, but no edit", clashing[0], "[0[1a]b[1a]]", "in 4 a", 3},
		{"a symbol that derives itself", clashing[1], "[0[0[1a]]]", "in 1 a", 2},
		{"too many states", crowded[0], "[0aba]", "out 0", 4},
		{"too many states, and a conflict", crowded[2], "[0a[5dc]aa]", "out 0", 4},
		{"too many states, but no edit", crowded[0], "[0aba]", "out 3", 3},
		{"no end of steps", endless, "[0da]", "turn 0 b", 4},
		{"an error, but no end of steps", endless, "[0da]", "turn 0 c", 1},
		{"too many steps", tall, "[5a]", "out 0", 4},
		{"not too many steps", tall, "[5a]", "in 1 a", 1},
		{"eight from seven", list, seven, "in 0 a", 0},
		{"nine from eight", list, eight, "in 0 a", 3},
		{"eight from eight", list, eight, "turn 0 b", 1},
		{"eight from nine", list, nine, "out 3", 0},
		{"nine from nine", list, nine, "turn 3 b", 3},
		{"nine from ten", list, ten, "out 3", 3},
		{"nine from eight, and a conflict", list + "A>A\n", eight, "in 0 a", 3},
		{"eight from nine, and a conflict", list + "A>A\n", nine, "out 0", 2},
		{"nineteen from twenty", "A\nA>BBBC\nB>aaaa\nC>BB\n", twenty, "out 0", 3},
		{"one more than twenty", "A\nA>BBBC\nB>aaaa\nC>BB\n", twenty, "in 0 a", 3},
		{"one of twenty-four", "A\nA>BBB\nB>CC\nC>aaaa\n", "[0[1[2aaaa][2aaaa]][1[2aaaa][2aaaa]][1[2aaaa][2aaaa]]]", "out 0", 3},
		{"another symbol than Start", "B\nA>a\nB>A\nA>aA\n", "[0a]", "in 0 a", 3},
		{"Start above it", "B\nA>a\nB>A\nA>aA\n", "[1[0a]]", "in 0 a", 0},
		{"a terminal", "A\nA>a\nA>aa\n", "a", "in 0 a", 3},
	} {
		g, e := read(t, c.gram), editsFrom(t, c.edit)[0]
		old, ok := wantRead(g, c.old)
		if !ok {
			t.Fatalf("%s: %s", c.why, c.old)
		}
		tree, n, code := impl.KeepRun(g, old, e)
		if code != c.code || code != 0 && (n != 0 || !isZeroTree(tree)) {
			t.Errorf("%s: %v, %d, %d, want %d", c.why, tree, n, code, c.code)
		}
		if got := checkKeep(t, machineOf(g), old, e); got != c.code {
			t.Errorf("%s: %d, want %d", c.why, got, c.code)
		}
	}
}

func TestKindsOfEditsOfKeepRun(t *testing.T) {
	m := machineOf(read(t, "A\nA>AB\nA>\nB>a\nB>b\n"))
	old, fine := wantRead(m.g, "[0[0[1][2a]][3b]]")
	if !fine {
		t.Fatal("no tree")
	}
	codes := map[int]int{}
	for _, kind := range append(numbersAround(4), 257, 258, 259) {
		for _, at := range append(numbersAround(3), 19, 20, 21) {
			for _, sign := range []string{"", "a", "b", "c", "A", "e", "ab", "$", "\xff"} {
				codes[checkKeep(t, m, old, impl.Edit{Kind: kind, At: at, Sign: sign})]++
			}
		}
	}
	// Three positions for a and b, two without a Sign, and one terminal each to turn to; with c there is an error.
	if codes[0] != 10 || codes[1] != 5 || codes[2] != 0 || codes[4] != 0 {
		t.Error(codes)
	}
}

// checkNoKeep expects the result for a tree that is not valid, or a grammar that is not.
func checkNoKeep(t *testing.T, why string, g impl.Gram, old impl.Tree) {
	t.Helper()
	for _, e := range []impl.Edit{editIn(0, "a"), editIn(1, "b"), editOut(0), editOut(1), editTurn(0, "b"), editTurn(0, "a"), editTurn(1, "a"), {}} {
		if tree, n, code := impl.KeepRun(g, old, e); code != 3 || n != 0 || !isZeroTree(tree) {
			t.Errorf("%s: KeepRun with %v = %v, %d, %d", why, e, tree, n, code)
		}
	}
}

func TestKeepRunOfWhatIsNoTreeOfStart(t *testing.T) {
	g := read(t, "A\nA>aAb\nA>\nB>b\nA>B\nA>aa\n")
	for why, tree := range badTrees {
		checkNoKeep(t, why, g, tree)
	}
	// The same productions without the conflict of A>aAb and A>aa.
	g = read(t, "A\nA>aAb\nA>\nB>c\nA>B\n")
	for why, tree := range badTrees {
		checkNoKeep(t, why, g, tree)
	}
	for why, g := range badGrams {
		for _, tree := range []impl.Tree{{}, leaf("a"), leaf("A"), node("A", 0, leaf("a")), node("A", 0), node("A", 1, leaf("a")), node(g.Start, 0)} {
			checkNoKeep(t, why, g, tree)
		}
	}
	list := read(t, "A\nA>aA\nA>\nB>b\n")
	checkNoKeep(t, "another nonterminal", list, node("B", 2, leaf("b")))
	checkNoKeep(t, "a terminal", list, leaf("a"))
	checkNoKeep(t, "a very deep tree", list, tower(300000, node("A", 1)))
	// Each of these would be valid with one node less.
	deep := read(t, "A\nA>B\nB>C\nC>D\nD>E\nE>aA\nA>\n")
	made := node("A", 5)
	for depthOf(made) < 20 {
		for i, sign := range []string{"E", "D", "C", "B", "A"} {
			kids := []impl.Tree{made}
			if sign == "E" {
				kids = []impl.Tree{leaf("a"), made}
			}
			made = node(sign, 4-i, kids...)
		}
	}
	if wantOk(deep, made) || depthOf(made) != 21 || yieldOf(made) != "aaaa" {
		t.Fatal(depthOf(made))
	}
	checkNoKeep(t, "a tree that is too deep", deep, made)
	shorter := made.Kids[0].Kids[0].Kids[0].Kids[0].Kids[1]
	if _, n, code := impl.KeepRun(deep, shorter, editIn(0, "a")); code != 0 || n != 16 {
		t.Error(n, code)
	}
	checkNoKeep(t, "a tree that is too large", read(t, "A\nA>BBBB\nB>CCCC\nC>aaa\nC>\nC>a\n"), bush(40))
}

// A tree after an edit may be larger than a valid one.
func TestLargeTreesAfterEdits(t *testing.T) {
	wide := read(t, "A\nA>BBBB\nB>CCCC\nC>DDDD\nD>\nA>a\n")
	tree, n, code := impl.KeepRun(wide, node("A", 4, leaf("a")), editOut(0))
	if code != 0 || n != 0 || sizeOf(tree) != 85 {
		t.Error(sizeOf(tree), n, code)
	}
	checkNoKeep(t, "a tree that is too large", wide, tree)
	// Each b is a tree of 17 nodes, 12 of which are nothing below nothing.
	m := machineOf(read(t, "A\nA>AB\nA>\nB>bCCC\nC>DDDD\nD>\n"))
	old, _, _ := impl.RunOf(m.g, "bbb")
	for _, c := range []struct {
		edit impl.Edit
		size int
		many int
	}{
		// At the end all is reused but the new A and the new B: nothing stood behind the last b, too.
		{editIn(3, "b"), 73, 67},
		// At the beginning the A of nothing and the three B that were there.
		{editIn(0, "b"), 73, 1 + 3*16},
		{editOut(2), 37, 37 - 2},
		{editOut(0), 37, 1 + 2*16},
	} {
		tree, n, code := impl.KeepRun(m.g, old, c.edit)
		if code != 0 || n != c.many || sizeOf(tree) != c.size {
			t.Errorf("%v: %d nodes, %d, %d", c.edit, sizeOf(tree), n, code)
		}
		if checkKeep(t, m, old, c.edit) != 0 {
			t.Errorf("%v is fine", c.edit)
		}
	}
}

func TestVeryDeepAndWideTreesAreKept(t *testing.T) {
	const levels = 100000
	deep := tower(levels, node("A", 1))
	parts := impl.TreeParts(deep)
	if len(parts) != levels+1 || parts[0] != part("A", 0, levels) || parts[levels] != part("A", levels, levels) || parts[7] != part("A", 7, levels) {
		t.Error(len(parts))
	}
	if found, ok := impl.TreeFind(deep, part("A", 5, levels)); !ok || !impl.TreeSame(found, tower(levels-5, node("A", 1))) {
		t.Error(ok)
	}
	if found, ok := impl.TreeFind(deep, part("B", 0, levels)); ok || !isZeroTree(found) {
		t.Error(ok)
	}
	for at, want := range map[int]int{0: levels, 20: levels - 20, 21: 0} {
		if n := impl.KeepMany(deep, tower(levels, node("A", 1)), editTurn(at, "a")); n != want {
			t.Errorf("at %d: %d", at, n)
		}
	}
	if n := impl.KeepMany(deep, tower(levels+1, node("A", 1)), editIn(2, "a")); n != levels-1 {
		t.Error(n)
	}
	if n := impl.KeepMany(deep, tower(levels, node("A", 2)), editTurn(0, "a")); n != 0 {
		t.Error(n)
	}
	wide := node("A", 0, slices.Repeat([]impl.Tree{b()}, levels)...)
	parts = impl.TreeParts(wide)
	if len(parts) != levels+1 || parts[levels] != part("B", levels-1, levels) {
		t.Error(len(parts))
	}
	if found, ok := impl.TreeFind(wide, part("B", levels-1, levels)); !ok || !wantSame(found, b()) {
		t.Error(found, ok)
	}
	if n := impl.KeepMany(wide, node("A", 0, wide.Kids[1:]...), editOut(3)); n != levels-1 {
		t.Error(n)
	}
}

func TestTreesThatShareMemoryAreKept(t *testing.T) {
	tree := node("A", 1, leaf("a"))
	for range 4 {
		kids := []impl.Tree{tree, tree}
		tree = impl.Tree{Sign: "A", Rule: 0, Kids: kids}
	}
	checkTreeParts(t, tree)
	for at := range 18 {
		for _, e := range kindsOfEdits(at) {
			checkMany(t, tree, tree, e)
			checkMany(t, tree, tree.Kids[0], e)
			checkMany(t, tree.Kids[1], tree, e)
		}
	}
	if n := impl.KeepMany(tree, tree, editTurn(0, "b")); n != 31-5 {
		t.Error(n)
	}
}

func TestValuesThatContainThemselvesAreNotKept(t *testing.T) {
	g := read(t, "A\nA>aA\nA>\n")
	kids := []impl.Tree{leaf("a"), node("A", 1)}
	kids[1] = impl.Tree{Sign: "A", Rule: 0, Kids: kids}
	inside := []impl.Tree{node("x", 0)}
	inside[0].Kids = inside
	for _, value := range []impl.Tree{kids[1], node("A", 1, kids...), node("A", 0, leaf("a"), inside[0]), node("a", -1, inside...)} {
		if parts := impl.TreeParts(value); len(parts) != 0 {
			t.Error(parts)
		}
		if found, ok := impl.TreeFind(value, part("A", 0, 1)); ok || !isZeroTree(found) {
			t.Error(ok)
		}
		for _, tree := range []impl.Tree{value, node("A", 1), leaf("a")} {
			for _, e := range kindsOfEdits(1) {
				if n, other := impl.KeepMany(value, tree, e), impl.KeepMany(tree, value, e); n != 0 || other != 0 {
					t.Error(n, other)
				}
			}
		}
		checkNoKeep(t, "a value that contains itself", g, value)
	}
}

func TestKeepLeavesItsArgumentsAlone(t *testing.T) {
	// The spare capacity shows a write beyond the length of an argument.
	g := read(t, "A\nA>AB\nA>\nB>a\nB>b\n")
	g.Rules = append(g.Rules, rule("X", "kept"))[:4]
	rules := slices.Clone(g.Rules[:5])
	old := node("A", 0, node("A", 0, node("A", 1), node("B", 2, leaf("a"))), node("B", 3, leaf("b")), leaf("kept"))
	old.Kids = old.Kids[:2]
	old.Kids[0].Kids = append(old.Kids[0].Kids, leaf("kept"))[:2]
	tree := node("A", 0, node("A", 1), node("B", 3, leaf("b")), leaf("kept"))
	tree.Kids = tree.Kids[:2]
	before, now := copyOf(old), copyOf(tree)
	impl.TreeParts(old)
	impl.TreeFind(old, part("A", 0, 1))
	impl.TreeFind(old, part("A", 7, 7))
	impl.KeepMany(old, tree, editOut(0))
	impl.KeepRun(g, old, editOut(0))
	impl.KeepRun(g, old, editIn(2, "a"))
	impl.KeepRun(g, old, editIn(2, "c"))
	if g.Start != "A" || !slices.Equal(g.Rules[:5], rules) {
		t.Errorf("%q", g.Rules[:5])
	}
	kept := []impl.Tree{old.Kids[:3][2], old.Kids[0].Kids[:3][2], tree.Kids[:3][2]}
	if !wantSame(old, before) || !wantSame(tree, now) || slices.ContainsFunc(kept, func(k impl.Tree) bool { return !wantSame(k, leaf("kept")) }) {
		t.Error(old, tree, kept)
	}
}

func TestFoundAndKeptTreesAreNewMemory(t *testing.T) {
	for _, c := range keepCases {
		g, e := read(t, c.gram), editsFrom(t, c.edit)[0]
		old, _ := impl.TreeRead(g, c.old)
		one, _, _ := impl.KeepRun(g, old, e)
		two, _, _ := impl.KeepRun(g, old, e)
		trees := []impl.Tree{old, one, two}
		for _, p := range impl.TreeParts(old) {
			found, _ := impl.TreeFind(old, p)
			again, _ := impl.TreeFind(old, p)
			trees = append(trees, found, again)
		}
		checkShareNothing(t, trees...)
		for i := range trees {
			if i != 2 {
				overwrite(&trees[i])
			}
		}
		if wantText(two) != c.tree {
			t.Errorf("%v after other trees were overwritten", two)
		}
	}
	// Nodes that are equal, and a tree whose own parts share memory.
	shared := []impl.Tree{nothing("B"), node("C", 3, leaf("a"), nothing("B"))}
	tree := node("A", 0, impl.Tree{Sign: "D", Kids: shared}, impl.Tree{Sign: "D", Kids: shared}, nothing("B"), nothing("B"))
	for range 2 {
		found, ok := impl.TreeFind(tree, part("A", 0, 2))
		if !ok || !wantSame(found, tree) {
			t.Error(found, ok)
		}
		checkShareNothing(t, found, node("A", 0, shared...))
	}
}

func TestPartsAreNewMemory(t *testing.T) {
	for _, c := range partCases {
		one, two := impl.TreeParts(c.tree), impl.TreeParts(c.tree)
		room := one[:cap(one)]
		for i := range room {
			room[i] = part("x", 77, 77)
		}
		if got := textOfParts(two); got != c.parts {
			t.Errorf("%s: %s after other parts were overwritten", c.why, got)
		}
		if got := textOfParts(impl.TreeParts(c.tree)); got != c.parts {
			t.Errorf("%s: %s after the first parts were overwritten", c.why, got)
		}
	}
	if strings.Contains(textOfParts(impl.TreeParts(partCases[0].tree)), "x") {
		t.Error("parts are kept from call to call")
	}
}
