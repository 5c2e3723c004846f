package tests

import (
	"math"
	"slices"
	"strconv"
	"strings"
	"testing"

	"loop.example/construer/impl"
)

func part(sign string, from, to int) impl.Part {
	return impl.Part{Sign: sign, From: from, To: to}
}

// derivations has a tree for each part that nonterminals derive.
type derivations map[impl.Part]impl.Tree

// derive adds a part only when the parts that it can be divided into are there, so that the relation is the smallest one
// and the trees show that each part has a derivation.
func derive(g impl.Gram, text string) derivations {
	known := derivations{}
	for grown := true; grown; {
		grown = false
		for at, r := range g.Rules {
			for from := range len(text) + 1 {
				for to := from; to <= len(text); to++ {
					p := part(r.Left, from, to)
					if _, found := known[p]; found {
						continue
					}
					if kids, ok := known.divide(text, r.Right, from, to); ok {
						known[p] = node(r.Left, at, kids...)
						grown = true
					}
				}
			}
		}
	}
	return known
}

func (known derivations) tree(text string, p impl.Part) (impl.Tree, bool) {
	if oneOf(p.Sign, smalls) {
		return leaf(p.Sign), text[p.From:p.To] == p.Sign
	}
	tree, found := known[p]
	return tree, found
}

func (known derivations) divide(text, signs string, from, to int) ([]impl.Tree, bool) {
	if signs == "" {
		return nil, from == to
	}
	for end := from; end <= to; end++ {
		first, ok := known.tree(text, part(signs[:1], from, end))
		if !ok {
			continue
		}
		if kids, ok := known.divide(text, signs[1:], end, to); ok {
			return append([]impl.Tree{first}, kids...), true
		}
	}
	return nil, false
}

func (known derivations) list() []impl.Part {
	var parts []impl.Part
	for p := range known {
		parts = append(parts, p)
	}
	slices.SortFunc(parts, func(a, b impl.Part) int {
		if a.Sign != b.Sign {
			return strings.Compare(a.Sign, b.Sign)
		}
		return (a.From-b.From)*100 + a.To - b.To
	})
	return parts
}

func wantIs(g impl.Gram, text string) bool {
	_, found := derive(g, text)[part(g.Start, 0, len(text))]
	return found
}

// enumeration is the document's definition of the lists of trees, written out. Its steps are counted because they can be very many.
type enumeration struct {
	g     impl.Gram
	text  string
	known derivations
	steps int
}

func cut[T any](list []T) []T {
	return list[:min(len(list), 12)]
}

func (e *enumeration) trees(p impl.Part, limit int, above []impl.Part) []impl.Tree {
	e.steps--
	_, derived := e.known.tree(e.text, p)
	below := slices.ContainsFunc(above, func(q impl.Part) bool {
		return q.Sign == p.Sign && e.text[q.From:q.To] == e.text[p.From:p.To]
	})
	if e.steps < 0 || limit < 1 || !derived || below {
		return nil
	}
	if oneOf(p.Sign, smalls) {
		return []impl.Tree{leaf(p.Sign)}
	}
	var trees []impl.Tree
	for at, r := range e.g.Rules {
		if r.Left != p.Sign {
			continue
		}
		for _, kids := range e.lists(r.Right, p.From, p.To, limit-1, append(slices.Clone(above), p)) {
			trees = append(trees, node(p.Sign, at, kids...))
		}
	}
	return cut(trees)
}

func (e *enumeration) lists(signs string, from, to, limit int, above []impl.Part) [][]impl.Tree {
	if signs == "" {
		if from == to {
			return [][]impl.Tree{nil}
		}
		return nil
	}
	var lists [][]impl.Tree
	for end := from; end <= to; end++ {
		if _, ok := e.known.divide(e.text, signs[1:], end, to); !ok {
			continue
		}
		for _, first := range e.trees(part(signs[:1], from, end), limit, above) {
			for _, list := range e.lists(signs[1:], end, to, limit, above) {
				lists = append(lists, append([]impl.Tree{first}, list...))
			}
		}
	}
	return cut(lists)
}

// wantTrees returns false if the definition takes too many steps to be followed.
func wantTrees(g impl.Gram, text string) ([]impl.Tree, bool) {
	e := enumeration{g: g, text: text, known: derive(g, text), steps: 20000}
	trees := e.trees(part(g.Start, 0, len(text)), 9, nil)
	return trees, e.steps >= 0
}

// textsOver returns all strings of at most a length over the bytes of signs, in the document's order.
func textsOver(signs string, most int) []string {
	all, level := []string{""}, []string{""}
	for range most {
		var longer []string
		for _, text := range level {
			for i := range len(signs) {
				longer = append(longer, text+signs[i:i+1])
			}
		}
		all, level = append(all, longer...), longer
	}
	return all
}

// liveGrams returns grammars with few symbols, which derive much and often in several ways.
func liveGrams() []impl.Gram {
	var grams []impl.Gram
	pick := picker(9)
	for len(grams) < 300 {
		lefts := bigs[:1+pick(5)]
		symbols := lefts + smalls[:1+pick(2)]
		rules := pickRules(pick, 2+pick(impl.RuleMost-1), lefts, symbols)
		grams = append(grams, gramOf("A", rules...))
	}
	return grams
}

// textOfParts writes a Part as its symbol and its two positions.
func textOfParts(parts []impl.Part) string {
	var texts []string
	for _, p := range parts {
		texts = append(texts, p.Sign+strconv.Itoa(p.From)+strconv.Itoa(p.To))
	}
	return strings.Join(texts, " ")
}

// textOfTrees also writes trees that are too large to be valid.
func textOfTrees(trees []impl.Tree) string {
	var texts []string
	for _, tree := range trees {
		texts = append(texts, wantText(tree))
	}
	return strings.Join(texts, " ")
}

func TestBoundsOfEnumerations(t *testing.T) {
	if impl.TextMost != 8 || impl.AllMost != 12 || impl.AllDeep != 9 || impl.WordMost != 60 {
		t.Error(impl.TextMost, impl.AllMost, impl.AllDeep, impl.WordMost)
	}
}

// badTexts are strings that are not valid.
var badTexts = []string{
	"aaaaaaaaa", "abcdabcda", "e", "A", "`", "$", "a ", " a", "\x00", "a\x00", "\xe1", "aa\xff", "\n", "a\n",
	"aaaaaaaA", "Eaaaaaaa", "\u0430", "a\u0161", "0", "abcde", "[0a]", strings.Repeat("a", 100000), strings.Repeat("\x80", 9),
}

func TestTextOk(t *testing.T) {
	for length := range 9 {
		text := strings.Repeat("bdca", 2)[:length]
		if !impl.TextOk(text) {
			t.Errorf("%q is valid", text)
		}
		for i := range length {
			for b := range 256 {
				changed := text[:i] + string([]byte{byte(b)}) + text[i+1:]
				if got, want := impl.TextOk(changed), 'a' <= b && b <= 'd'; got != want {
					t.Errorf("TextOk(%q) = %v", changed, got)
				}
			}
		}
	}
	for _, text := range badTexts {
		if impl.TextOk(text) {
			t.Errorf("%q is not valid", text)
		}
	}
}

// allCases are written out by hand.
var allCases = []struct {
	why   string
	gram  string
	text  string
	parts string
	trees string
}{
	{"the document's example", "A\nA>AbA\nA>a\n", "ababa", "A01 A03 A05 A23 A25 A45",
		"[0[1a]b[0[1a]b[1a]]] [0[0[1a]b[1a]]b[1a]]"},
	{"a prefix and a suffix, but not the whole", "A\nA>AbA\nA>a\n", "abab", "A01 A03 A23", ""},
	{"only from itself", "A\nA>A\n", "", "", ""},
	{"only from itself, and a text", "A\nA>A\n", "a", "", ""},
	{"itself or a terminal", "A\nA>A\nA>a\n", "a", "A01", "[1a]"},
	{"itself or nothing", "A\nA>A\nA>\n", "", "A00", "[1]"},
	{"itself or nothing, and a text", "A\nA>A\nA>\n", "a", "A00 A11", ""},
	{"itself through another", "A\nA>B\nB>A\nB>b\n", "b", "A01 B01", "[0[2b]]"},
	{"itself through two others", "A\nA>B\nB>C\nC>A\nC>\nA>a\n", "", "A00 B00 C00", "[0[1[3]]]"},
	{"itself through two others, and a text", "A\nA>B\nB>C\nC>A\nC>\nA>a\n", "a", "A00 A01 A11 B00 B01 B11 C00 C01 C11", "[4a]"},
	{"only from each other", "A\nA>B\nB>A\n", "", "", ""},
	{"itself before a nullable", "A\nA>AB\nB>\nA>a\n", "a", "A01 B00 B11", "[2a]"},
	{"itself behind a nullable", "A\nA>BA\nB>\nA>a\n", "a", "A01 B00 B11", "[2a]"},
	{"itself between nullables", "A\nA>BAB\nB>\nB>B\nA>a\n", "a", "A01 B00 B11", "[3a]"},
	{"itself twice, and nullable", "A\nA>AA\nA>\nA>a\n", "a", "A00 A01 A11", "[2a]"},
	{"itself below a smaller part", "A\nA>AA\nA>a\nA>B\nB>A\n", "aa", "A01 A02 A12 B01 B02 B12", "[0[1a][1a]]"},
	{"the other first below a smaller part", "A\nA>AA\nA>B\nA>a\nB>A\nB>b\n", "ab", "A01 A02 A12 B01 B02 B12",
		"[0[2a][1[4b]]]"},
	{"the same symbol for nothing, left and right", "A\nA>AaA\nA>\n", "a", "A00 A01 A11", "[0[1]a[1]]"},
	{"nothing at every position", "A\nA>\nB>AA\nC>aB\n", "ab", "A00 A11 A22 B00 B11 B22 C01", ""},
	{"nothing behind the last terminal", "A\nA>aB\nB>\n", "a", "A01 B00 B11", "[0a[1]]"},
	{"nothing before the first terminal", "A\nA>Ba\nB>\n", "a", "A01 B00 B11", "[0[1]a]"},
	{"nothing, and a terminal too many", "A\nA>aB\nB>\n", "aa", "A01 A12 B00 B11 B22", ""},
	{"no terminals", "A\nA>BB\nB>\nB>C\nC>\n", "", "A00 B00 C00",
		"[0[1][1]] [0[1][2[3]]] [0[2[3]][1]] [0[2[3]][2[3]]]"},
	{"no terminals, and a text", "A\nA>BB\nB>\nB>C\nC>\n", "d", "A00 A11 B00 B11 C00 C11", ""},
	{"no terminals and nothing derived", "A\nA>BB\nB>C\n", "", "", ""},
	{"a nonterminal without productions", "A\nA>aB\nA>a\nC>B\n", "a", "A01", "[1a]"},
	{"no productions", "A\n", "", "", ""},
	{"no productions, and a text", "A\n", "a", "", ""},
	{"start without productions", "B\nA>a\n", "a", "A01", ""},
	{"start is not the first", "B\nA>a\nB>AA\n", "aa", "A01 A12 B02", "[1[0a][0a]]"},
	{"parts end in ascending order", "A\nA>BB\nB>aa\nB>a\n", "aaa", "A02 A03 A13 B01 B02 B12 B13 B23",
		"[0[2a][1aa]] [0[1aa][2a]]"},
	{"productions in their order", "A\nB>a\nA>a\nA>B\n", "a", "A01 B01", "[1a] [2[0a]]"},
	{"productions in the other order", "A\nB>a\nA>B\nA>a\n", "a", "A01 B01", "[1[0a]] [2a]"},
	{"each first tree with all of the others", "A\nA>BC\nB>\nB>D\nC>a\nC>E\nD>\nE>a\n", "a", "A01 B00 B11 C01 D00 D11 E01",
		"[0[1][3a]] [0[1][4[6a]]] [0[2[5]][3a]] [0[2[5]][4[6a]]]"},
	{"four terminals", "E\nE>abcd\n", "abcd", "E04", "[0abcd]"},
	{"another terminal", "E\nE>abcd\n", "abca", "", ""},
	{"a text of the most terminals", "A\nA>BB\nB>CC\nC>DD\nD>d\n", "dddddddd",
		"A08 B04 B15 B26 B37 B48 C02 C13 C24 C35 C46 C57 C68 D01 D12 D23 D34 D45 D56 D67 D78",
		"[0[1[2[3d][3d]][2[3d][3d]]][1[2[3d][3d]][2[3d][3d]]]]"},
}

func TestAllCasesWrittenOutByHand(t *testing.T) {
	for _, c := range allCases {
		g := read(t, c.gram)
		if got := textOfParts(impl.AllParts(g, c.text)); got != c.parts {
			t.Errorf("%s: parts %s, want %s", c.why, got, c.parts)
		}
		trees := impl.AllTrees(g, c.text)
		if got := textOfTrees(trees); got != c.trees {
			t.Errorf("%s: trees %s, want %s", c.why, got, c.trees)
		}
		// In all of these cases, some tree is not too deep.
		if got, want := impl.AllIs(g, c.text), len(trees) > 0; got != want {
			t.Errorf("%s: AllIs is %v", c.why, got)
		}
	}
}

// checkParts compares AllParts and AllIs with the definition.
func checkParts(t *testing.T, g impl.Gram, text string) {
	t.Helper()
	known := derive(g, text)
	parts := impl.AllParts(g, text)
	if want := known.list(); !slices.Equal(parts, want) {
		t.Errorf("AllParts(%q, %q) = %v, want %v", g, text, parts, want)
	}
	if got, want := impl.AllIs(g, text), slices.Contains(parts, part(g.Start, 0, len(text))); got != want {
		t.Errorf("AllIs(%q, %q) = %v", g, text, got)
	}
	for p, tree := range known {
		if tree.Sign != p.Sign || !isTreeOf(g, tree) || yieldOf(tree) != text[p.From:p.To] {
			t.Errorf("%q: %v is no tree of %v in %q", g, tree, p, text)
		}
	}
}

func TestPartsAreTheSmallestRelation(t *testing.T) {
	for _, g := range manyGrams() {
		for _, text := range append(textsOver(smalls, 1), "ab", "dcb", "aabc") {
			checkParts(t, g, text)
		}
	}
	for _, g := range liveGrams() {
		for _, text := range append(textsOver("ab", 3), "c", "aaaa", "abab", "aaaaaaaa", "abababab") {
			checkParts(t, g, text)
		}
	}
}

// A string with a parse tree is derived, whatever the tree; that a derived string has one is part of checkParts.
func TestYieldsOfTreesAreDerived(t *testing.T) {
	count := 0
	visit := func(g impl.Gram, tree impl.Tree) {
		text := yieldOf(tree)
		if len(text) > 8 || oneOf(tree.Sign, smalls) {
			return
		}
		count++
		g.Start = tree.Sign
		if !impl.AllIs(g, text) || !slices.Contains(impl.AllParts(g, text), part(tree.Sign, 0, len(text))) {
			t.Errorf("%q: %q has the tree %v", g, text, tree)
		}
	}
	someTrees(t, visit)
	for _, g := range liveGrams() {
		for _, tree := range treesOf(g, "A", 5, 40) {
			visit(g, tree)
		}
	}
	if count < 2500 {
		t.Errorf("only %d trees", count)
	}
}

func TestStringsOfDerivationStepsAreDerived(t *testing.T) {
	for _, g := range append(liveGrams(), manyGrams()...) {
		for _, form := range formsFrom(g, g.Start, 8, 200) {
			if got := impl.AllIs(g, form); got != within(form, smalls) {
				t.Errorf("AllIs(%q, %q) = %v", g, form, got)
			}
		}
	}
}

// checkTrees compares AllTrees with the definition, unless that takes too long.
func checkTrees(t *testing.T, g impl.Gram, text string) bool {
	t.Helper()
	want, ok := wantTrees(g, text)
	if !ok {
		return false
	}
	if got := impl.AllTrees(g, text); !slices.EqualFunc(got, want, wantSame) {
		t.Errorf("AllTrees(%q, %q) = %s, want %s", g, text, textOfTrees(got), textOfTrees(want))
	}
	return true
}

func TestTreesAreThoseOfTheDefinition(t *testing.T) {
	compared, missed := 0, 0
	check := func(g impl.Gram, text string) {
		if checkTrees(t, g, text) {
			compared++
		} else {
			missed++
		}
	}
	for _, g := range manyGrams() {
		for _, text := range append(textsOver(smalls, 1), "ab") {
			check(g, text)
		}
	}
	for _, g := range liveGrams() {
		for _, text := range append(textsOver("ab", 3), "aaaa", "abab", "aaaaaa") {
			check(g, text)
		}
	}
	if missed*10 > compared {
		t.Errorf("%d compared, %d missed", compared, missed)
	}
}

// order compares two trees of one symbol and one string as the definition lists them.
func order(a, b impl.Tree) int {
	if a.Rule != b.Rule {
		return a.Rule - b.Rule
	}
	for i := range a.Kids {
		if by := len(yieldOf(a.Kids[i])) - len(yieldOf(b.Kids[i])); by != 0 {
			return by
		}
		if by := order(a.Kids[i], b.Kids[i]); by != 0 {
			return by
		}
	}
	return 0
}

// repeats reports whether a node of the tree is below one with the same symbol for the same substring.
func repeats(tree impl.Tree, above string) bool {
	mark := tree.Sign + yieldOf(tree) + ";"
	if strings.Contains(above, ";"+mark) {
		return true
	}
	return slices.ContainsFunc(tree.Kids, func(kid impl.Tree) bool { return repeats(kid, above+mark) })
}

func isListed(g impl.Gram, text string, tree impl.Tree) bool {
	return tree.Sign == g.Start && isTreeOf(g, tree) && yieldOf(tree) == text && depthOf(tree) <= 9 && !repeats(tree, ";")
}

func TestTreesAreTheFirstInOrder(t *testing.T) {
	full := 0
	for _, g := range append(liveGrams(), manyGrams()...) {
		listed := map[string][]impl.Tree{}
		for _, text := range append(textsOver(symbolsOf(g, smalls), 2), "aaaa", "ababab", "aaaaaaaa") {
			trees := impl.AllTrees(g, text)
			listed[text] = trees
			if len(trees) > 12 {
				t.Errorf("%q: %d trees of %q: %s", g, len(trees), text, textOfTrees(trees))
			}
			for i, tree := range trees {
				if !isListed(g, text, tree) || i > 0 && order(trees[i-1], tree) >= 0 {
					t.Errorf("%q: %s is listed for %q", g, wantText(tree), text)
				}
				if impl.TreeOk(g, tree) != (sizeOf(tree) <= 60) {
					t.Errorf("%q: TreeOk of %s", g, wantText(tree))
				}
			}
			if len(trees) > 0 && !impl.AllIs(g, text) {
				t.Errorf("%q: %q has trees", g, text)
			}
		}
		for _, tree := range treesOf(g, g.Start, 5, 100) {
			text := yieldOf(tree)
			trees, found := listed[text]
			if !found || !isListed(g, text, tree) || slices.ContainsFunc(trees, func(other impl.Tree) bool { return wantSame(tree, other) }) {
				continue
			}
			full++
			if len(trees) < 12 || order(trees[11], tree) >= 0 {
				t.Errorf("%q: %s is not listed for %q", g, wantText(tree), text)
			}
		}
	}
	if full < 100 {
		t.Errorf("only %d trees are beyond the limit", full)
	}
}

func TestTextsOfTheMostTerminalsAndOneMore(t *testing.T) {
	g := read(t, "A\nA>aA\nA>\n")
	text := strings.Repeat("a", 8)
	if !impl.AllIs(g, text) || len(impl.AllParts(g, text)) != 45 {
		t.Error(impl.AllParts(g, text))
	}
	if got := textOfTrees(impl.AllTrees(g, text)); got != "[0a[0a[0a[0a[0a[0a[0a[0a[1]]]]]]]]]" {
		t.Error(got)
	}
	text += "a"
	if impl.AllIs(g, text) || len(impl.AllParts(g, text)) != 0 || len(impl.AllTrees(g, text)) != 0 {
		t.Error("nine terminals")
	}
}

// depthCases are grammars with strings that have one tree, of the greatest depth and of one more.
var depthCases = []struct {
	gram string
	deep string
	more string
}{
	{"A\nA>aA\nA>B\nB>\n", "aaaaaaa", "aaaaaaaa"},
	{"A\nA>aA\nA>B\nB>b\n", "aaaaaab", "aaaaaaab"},
	{"A\nA>Aa\nA>B\nB>\n", "aaaaaaa", "aaaaaaaa"},
	{"A\nA>B\nB>C\nC>D\nD>E\nE>aE\nE>d\n", "aaad", "aaaad"},
	{"A\nA>aB\nB>C\nC>D\nD>E\nE>A\nE>bE\nE>\n", "abbbb", "abbbbb"},
}

func TestDepthOfEnumeratedTreesIsLimited(t *testing.T) {
	for _, c := range depthCases {
		g := read(t, c.gram)
		if trees := impl.AllTrees(g, c.deep); len(trees) != 1 || depthOf(trees[0]) != 9 || yieldOf(trees[0]) != c.deep {
			t.Errorf("%q: trees of %q: %s", g, c.deep, textOfTrees(trees))
		}
		if trees := impl.AllTrees(g, c.more); len(trees) != 0 {
			t.Errorf("%q: trees of %q: %s", g, c.more, textOfTrees(trees))
		}
		for _, text := range []string{c.deep, c.more} {
			if !impl.AllIs(g, text) {
				t.Errorf("%q: AllIs of %q is false", g, text)
			}
		}
	}
}

func TestOnlyTheTreesThatAreTooDeepAreLeftOut(t *testing.T) {
	g := read(t, "A\nA>aA\nA>B\nA>\nB>\n")
	if got := textOfTrees(impl.AllTrees(g, "aaaaaaa")); got != "[0a[0a[0a[0a[0a[0a[0a[1[3]]]]]]]]] [0a[0a[0a[0a[0a[0a[0a[2]]]]]]]]" {
		t.Error(got)
	}
	if got := textOfTrees(impl.AllTrees(g, "aaaaaaaa")); got != "[0a[0a[0a[0a[0a[0a[0a[0a[2]]]]]]]]]" {
		t.Error(got)
	}
}

// twelve are the trees of nothing of the grammar A>BBB, A>BB, B>, B>C, C>.
func twelve() []string {
	b := []string{"[2]", "[3[4]]"}
	var three, two []string
	for i := range 8 {
		three = append(three, "[0"+b[i/4]+b[i/2%2]+b[i%2]+"]")
	}
	for i := range 4 {
		two = append(two, "[1"+b[i/2]+b[i%2]+"]")
	}
	return append(three, two...)
}

func checkTreeTexts(t *testing.T, gram, text string, want []string) {
	t.Helper()
	if got := textOfTrees(impl.AllTrees(read(t, gram), text)); got != strings.Join(want, " ") {
		t.Errorf("trees of %q in %q: %s, want %s", text, gram, got, want)
	}
}

// inside puts each text of a tree between two texts.
func inside(before string, texts []string, after string) []string {
	var all []string
	for _, text := range texts {
		all = append(all, before+text+after)
	}
	return all
}

func TestExactlyTheMostTreesAndMore(t *testing.T) {
	const rules = "A>BBB\nA>BB\nB>\nB>C\nC>\n"
	all := twelve()
	checkTreeTexts(t, "A\n"+rules, "", all)
	checkTreeTexts(t, "A\nA>BBB\nA>BB\nB>\nB>C\nC>\nA>\n", "", all)
	checkTreeTexts(t, "A\nA>BBB\nA>BB\nB>\nB>C\nC>\nA>B\n", "", all)
	// One more is cut off below another node, too.
	checkTreeTexts(t, "E\n"+rules+"E>A\nE>\n", "", inside("[5", all, "]"))
	checkTreeTexts(t, "E\n"+rules+"E>Aa\nE>a\n", "a", inside("[5", all, "a]"))
	checkTreeTexts(t, "E\n"+rules+"E>a\nE>Aa\n", "a", append([]string{"[5a]"}, inside("[6", all[:11], "a]")...))
	checkTreeTexts(t, "E\n"+rules+"A>\nE>A\nE>\n", "", inside("[6", all, "]"))
	// The first of two lists is exhausted last.
	checkTreeTexts(t, "E\n"+rules+"E>AA\n", "", inside("[5"+all[0], all, "]"))
	checkTreeTexts(t, "E\n"+rules+"A>\nE>AA\n", "", inside("[6"+all[0], all, "]"))
	checkTreeTexts(t, "E\n"+rules+"E>AaA\n", "a", inside("[5"+all[0]+"a", all, "]"))
	// A list that is full is of no use if there is nothing to go with it.
	checkTreeTexts(t, "E\n"+rules+"A>\nE>AE\nE>d\n", "d", []string{"[7d]"})
}

func TestTreesOfSeveralDivisionsAreCutOff(t *testing.T) {
	g := read(t, "A\nA>AA\nA>a\n")
	for i, want := range []int{0, 1, 1, 2, 5, 12, 12, 12, 12} {
		text := strings.Repeat("a", i)
		if got := len(impl.AllTrees(g, text)); got != want {
			t.Errorf("%d trees of %q, want %d", got, text, want)
		}
	}
	if got := wantText(impl.AllTrees(g, "aaaaa")[11]); got != "[0[0[0[1a][1a]][0[1a][1a]]][1a]]" {
		t.Error(got)
	}
}

func TestTreesTooLargeToBeValidAreListed(t *testing.T) {
	g := read(t, "A\nA>BBBB\nB>CCCC\nC>DDDD\nD>\n")
	trees := impl.AllTrees(g, "")
	if len(trees) != 1 || sizeOf(trees[0]) != 85 || impl.TreeOk(g, trees[0]) || !isTreeOf(g, trees[0]) {
		t.Error(textOfTrees(trees))
	}
	h := read(t, "A\nA>BBBB\nB>CCCC\nC>DDDD\nD>EEEE\nE>\nA>a\n")
	if trees := impl.AllTrees(h, ""); len(trees) != 1 || sizeOf(trees[0]) != 341 {
		t.Error(textOfTrees(trees))
	}
	if s, found := impl.AllDoubt(read(t, "A\nA>BBBB\nB>CCCC\nC>DDDD\nD>\nA>D\n"), 0); s != "" || !found {
		t.Error("a tree that is too large counts")
	}
}

// The trees of these grammars are so many that they can only be listed if lists are cut off and kept.
func TestGramsWithVeryManyTrees(t *testing.T) {
	for _, gram := range []string{
		"A\nC>\nA>CDCB\nC>BEAB\nD>CEEE\nE>BaAC\nB>BCDB\nE>CBCC\nB>C\n",
		"A\nE>DEDC\nD>CBBC\nC>CCDE\nB>ABEa\nC>\nE>BACD\nB>C\nA>BCCD\n",
		"A\nA>AAAA\nA>BBBB\nB>AAAA\nA>a\nA>\nB>b\nB>\n",
		"A\nA>BBBB\nB>CCCC\nC>DDDD\nD>EEEE\nE>AAAA\nA>a\nE>\n",
	} {
		g := read(t, gram)
		trees := impl.AllTrees(g, "aaaaaaaa")
		if len(trees) != 12 {
			t.Errorf("%q: %d trees", gram, len(trees))
		}
		for i, tree := range trees {
			if !isListed(g, "aaaaaaaa", tree) || i > 0 && order(trees[i-1], tree) >= 0 {
				t.Errorf("%q: %s is listed", gram, wantText(tree))
			}
		}
	}
}

func wantWords(g impl.Gram, most int) []string {
	var words []string
	for _, text := range textsOver(symbolsOf(g, smalls), most) {
		if wantIs(g, text) {
			words = append(words, text)
		}
	}
	return words
}

func TestWordsAreWhatIsDerivedInOrder(t *testing.T) {
	for i, g := range append(liveGrams(), manyGrams()...) {
		most := 2
		if len(symbolsOf(g, smalls)) < 3 {
			most = 3
		}
		if i%20 == 0 {
			most = 4
		}
		want := wantWords(g, most)
		got := impl.AllWords(g, most)
		if !slices.Equal(got, want[:min(len(want), 60)]) {
			t.Errorf("AllWords(%q, %d) = %q, want %q", g, most, got, want)
		}
		for _, word := range got {
			if !impl.AllIs(g, word) {
				t.Errorf("%q: AllIs(%q) is false", g, word)
			}
		}
	}
}

func TestWordsWrittenOutByHand(t *testing.T) {
	cases := []struct {
		gram  string
		most  int
		words string
	}{
		{"A\nA>AbA\nA>a\n", 4, "a. aba."},
		{"A\nA>aAb\nA>\n", 4, ". ab. aabb."},
		{"A\nA>aAb\nA>\n", 3, ". ab."},
		{"A\nA>aAb\nA>\n", 1, "."},
		{"A\nA>aAb\nA>\n", 0, "."},
		{"A\nA>d\nA>bA\n", 3, "d. bd. bbd."},
		{"A\nA>d\nA>c\nA>b\nA>a\nA>\n", 4, ". a. b. c. d."},
		{"A\nA>a\n", 0, ""},
		{"A\nA>BB\nB>\nB>C\nC>\n", 4, "."},
		{"A\nA>aA\nB>a\n", 4, ""},
		{"A\nA>A\n", 4, ""},
		{"A\n", 4, ""},
		{"A\nA>B\nB>A\nB>\nC>cd\n", 4, "."},
		{"A\nA>abcd\nA>dcba\n", 4, "abcd. dcba."},
		{"A\nA>abcd\nA>dcba\n", 3, ""},
		{"B\nA>a\nB>Ab\n", 4, "ab."},
		{"A\nA>aaBB\nB>a\n", 4, "aaaa."},
	}
	for _, c := range cases {
		got := strings.Join(inside("", impl.AllWords(read(t, c.gram), c.most), "."), " ")
		if got != c.words {
			t.Errorf("AllWords(%q, %d): %s, want %s", c.gram, c.most, got, c.words)
		}
	}
}

func TestExactlyTheMostWordsAndMore(t *testing.T) {
	const rules = "A>BBB\nA>aBBB\nA>B\nA>aB\nB>a\nB>b\nB>c\n"
	sixty := impl.AllWords(read(t, "A\n"+rules), 4)
	if len(sixty) != 60 || sixty[0] != "a" || sixty[59] != "accc" {
		t.Errorf("%q", sixty)
	}
	more := impl.AllWords(read(t, "A\n"+rules+"A>\n"), 4)
	if len(more) != 60 || more[0] != "" || !slices.Equal(more[1:], sixty[:59]) {
		t.Errorf("%q", more)
	}
	if last := impl.AllWords(read(t, "A\n"+rules+"A>bccc\n"), 4); !slices.Equal(last, sixty) {
		t.Errorf("%q", last)
	}
	all := impl.AllWords(read(t, "A\nA>AB\nA>\nB>a\nB>b\nB>c\nB>d\n"), 4)
	if !slices.Equal(all, textsOver(smalls, 4)[:60]) || all[59] != "cbc" {
		t.Errorf("%q", all)
	}
}

var badLengths = []int{-1, 5, -2, 8, 9, 60, math.MaxInt, math.MinInt}

func TestLengthsThatAreNotValid(t *testing.T) {
	g, h := read(t, "A\nA>aA\nA>\nA>B\nB>\n"), read(t, "A\nA>b\n")
	for _, most := range []int{0, 1, 2, 3, 4} {
		if words := impl.AllWords(g, most); len(words) != most+1 {
			t.Errorf("AllWords up to %d: %q", most, words)
		}
		if _, found := impl.AllDoubt(g, most); !found {
			t.Errorf("AllDoubt up to %d", most)
		}
		if _, found := impl.AllSame(g, h, most); !found {
			t.Errorf("AllSame up to %d", most)
		}
	}
	for _, most := range badLengths {
		// A limit that is accepted though it is too large may take for ever, so that the first error is the last.
		if words := impl.AllWords(g, most); len(words) != 0 {
			t.Fatalf("AllWords up to %d: %q", most, words)
		}
		if s, found := impl.AllDoubt(g, most); s != "" || found {
			t.Fatalf("AllDoubt up to %d: %q", most, s)
		}
		if s, found := impl.AllSame(g, h, most); s != "" || found {
			t.Fatalf("AllSame up to %d: %q", most, s)
		}
	}
}

func TestDoubtWrittenOutByHand(t *testing.T) {
	const all = "A\nA>AB\nA>\nB>a\nB>b\nB>c\nB>d\n"
	cases := []struct {
		why   string
		gram  string
		most  int
		doubt string
		found bool
	}{
		{"a longer string is needed", "A\nA>AbA\nA>a\n", 4, "", false},
		{"four of one terminal", "A\nA>AA\nA>a\n", 4, "aaa", true},
		{"three of one terminal", "A\nA>AA\nA>a\n", 3, "aaa", true},
		{"two of one terminal", "A\nA>AA\nA>a\n", 2, "", false},
		{"the empty string", "A\nA>BB\nB>\nB>C\nC>\n", 4, "", true},
		{"the empty string and no other", "A\nA>\nA>B\nB>\n", 0, "", true},
		{"trees of itself do not count", "A\nA>A\nA>a\nA>B\nB>A\n", 4, "", false},
		{"two productions", "A\nA>B\nA>a\nB>a\nB>B\n", 2, "a", true},
		{"the second string", "A\nA>a\nA>b\nA>B\nB>b\n", 2, "b", true},
		{"no strings", "A\nA>A\nA>AA\n", 4, "", false},
		{"not of Start", "A\nA>a\nB>b\nB>C\nC>b\n", 4, "", false},
		{"the last string", all + "A>cbc\n", 4, "cbc", true},
		{"past the last string", all + "A>cbd\n", 4, "", false},
		{"all strings", all, 4, "", false},
		{"a second tree that is not too deep", "A\nA>aB\nB>C\nC>D\nD>A\nD>\nA>aa\n", 4, "aa", true},
		{"no tree that is not too deep", "A\nA>aB\nB>C\nC>D\nD>A\nD>\n", 4, "", false},
		{"a second tree that is too deep", "A\nA>aB\nB>C\nC>D\nD>A\nD>\nA>aaa\n", 4, "", false},
	}
	for _, c := range cases {
		if s, found := impl.AllDoubt(read(t, c.gram), c.most); s != c.doubt || found != c.found {
			t.Errorf("%s: %q, %v, want %q, %v", c.why, s, found, c.doubt, c.found)
		}
	}
}

func TestDoubtIsTheFirstWordOfTwoTrees(t *testing.T) {
	for _, g := range append(liveGrams(), manyGrams()...) {
		for most := range 4 {
			want, ok := "", false
			for _, word := range impl.AllWords(g, most) {
				if !ok && len(impl.AllTrees(g, word)) > 1 {
					want, ok = word, true
				}
			}
			if got, found := impl.AllDoubt(g, most); got != want || found != ok {
				t.Errorf("AllDoubt(%q, %d) = %q, %v, want %q, %v", g, most, got, found, want, ok)
			}
		}
	}
}

func TestSameWrittenOutByHand(t *testing.T) {
	const four = "B>a\nB>b\nB>c\nB>d\n"
	cases := []struct {
		why   string
		a, b  string
		most  int
		text  string
		found bool
	}{
		{"a terminal each", "A\nA>a\n", "A\nA>b\n", 4, "a", true},
		{"a terminal of the second only", "A\nA>c\n", "A\nA>a\n", 4, "a", true},
		{"a terminal of the first only", "A\nA>a\nA>d\n", "A\nA>a\n", 4, "d", true},
		{"terminals of different ones", "A\nA>ad\nA>bc\n", "A\nA>bc\n", 4, "ad", true},
		{"terminals of both mixed", "A\nA>aB\nB>a\n", "C\nC>aa\nD>d\n", 4, "", false},
		{"no strings in the second", "A\nA>b\n", "A\n", 1, "b", true},
		{"too long a string", "A\nA>bb\n", "A\n", 1, "", false},
		{"no strings", "A\n", "A\nA>A\n", 4, "", false},
		{"the empty string", "A\nA>\n", "A\n", 0, "", true},
		{"no terminals, and both derive it", "A\nA>B\nB>\n", "E\nE>\n", 4, "", false},
		{"other forms of the same", "A\nA>aA\nA>\n", "B\nB>Ba\nB>aa\nB>\n", 4, "", false},
		{"the longest string", "A\nA>aaaa\nA>a\n", "A\nA>a\n", 4, "aaaa", true},
		{"one length less", "A\nA>aaaa\nA>a\n", "A\nA>a\n", 3, "", false},
		{"past the first sixty strings", "A\nA>BBBB\n" + four, "A\nA>CBBB\n" + four + "C>a\nC>b\nC>c\n", 4, "daaa", true},
		{"the very last string", "A\nA>BBBB\nB>a\nB>b\n", "A\nA>aBBB\nA>baBB\nA>bbaB\nA>bbba\nB>a\nB>b\n", 4, "bbbb", true},
	}
	for _, c := range cases {
		a, b := read(t, c.a), read(t, c.b)
		if s, found := impl.AllSame(a, b, c.most); s != c.text || found != c.found {
			t.Errorf("%s: %q, %v, want %q, %v", c.why, s, found, c.text, c.found)
		}
		if s, found := impl.AllSame(b, a, c.most); s != c.text || found != c.found {
			t.Errorf("%s, exchanged: %q, %v, want %q, %v", c.why, s, found, c.text, c.found)
		}
		if s, found := impl.AllSame(a, a, c.most); s != "" || found {
			t.Errorf("%s: a grammar and itself: %q, %v", c.why, s, found)
		}
	}
}

func TestSameIsTheFirstStringOfOneOnly(t *testing.T) {
	grams := append(liveGrams(), manyGrams()...)
	for i, a := range grams {
		b := grams[(i*7+1)%len(grams)]
		if i%3 == 0 && len(a.Rules) > 0 {
			b = impl.Gram{Start: a.Start, Rules: a.Rules[1:]}
		}
		signs := symbolsOf(gramOf(a.Start, slices.Concat(a.Rules, b.Rules)...), smalls)
		want, ok := "", false
		for _, text := range textsOver(signs, 2) {
			if !ok && wantIs(a, text) != wantIs(b, text) {
				want, ok = text, true
			}
		}
		if got, found := impl.AllSame(a, b, 2); got != want || found != ok {
			t.Errorf("AllSame(%q, %q, 2) = %q, %v, want %q, %v", a, b, got, found, want, ok)
		}
	}
}

func TestAllOfInvalidGrams(t *testing.T) {
	good := read(t, "A\nA>a\nA>\nA>B\nB>a\n")
	for why, g := range badGrams {
		for _, text := range append([]string{"", "a", "aa", "abcd"}, badTexts...) {
			if impl.AllIs(g, text) || len(impl.AllParts(g, text)) != 0 || len(impl.AllTrees(g, text)) != 0 {
				t.Errorf("%s: something is derived", why)
			}
		}
		for most := -1; most <= 5; most++ {
			if words := impl.AllWords(g, most); len(words) != 0 {
				t.Errorf("%s: words %q", why, words)
			}
			if s, found := impl.AllDoubt(g, most); s != "" || found {
				t.Errorf("%s: doubt %q, %v", why, s, found)
			}
			for _, pair := range [][2]impl.Gram{{g, good}, {good, g}, {g, g}} {
				if s, found := impl.AllSame(pair[0], pair[1], most); s != "" || found {
					t.Errorf("%s: same %q, %v", why, s, found)
				}
			}
		}
	}
}

func TestAllOfInvalidTexts(t *testing.T) {
	for _, gram := range []string{"A\nA>aA\nA>\n", "A\nA>\n", "A\n", "E\nE>EEEE\nE>a\nE>b\nE>c\nE>d\nE>\n"} {
		g := read(t, gram)
		for _, text := range badTexts {
			if impl.AllIs(g, text) || len(impl.AllParts(g, text)) != 0 || len(impl.AllTrees(g, text)) != 0 {
				t.Errorf("%q: something is derived from %.20q", gram, text)
			}
		}
	}
}

func TestAllLeavesTheGramAlone(t *testing.T) {
	// The spare capacity shows a write beyond the length of an argument.
	g := read(t, "A\nA>AA\nA>a\nA>B\nB>\n")
	g.Rules = append(g.Rules, rule("X", "kept"))[:4]
	h := read(t, "A\nA>b\n")
	before := slices.Clone(g.Rules[:5])
	impl.AllParts(g, "aaa")
	impl.AllIs(g, "aaa")
	impl.AllTrees(g, "aaa")
	impl.AllWords(g, 4)
	impl.AllDoubt(g, 4)
	impl.AllSame(g, h, 4)
	impl.AllSame(h, g, 4)
	if g.Start != "A" || !slices.Equal(g.Rules[:5], before) {
		t.Errorf("%q", g.Rules[:5])
	}
}

// cells returns the addresses of all that the slices of a tree hold or have room for.
func cells(tree *impl.Tree) []*impl.Tree {
	var all []*impl.Tree
	for _, n := range nodesOf(tree) {
		room := n.Kids[:cap(n.Kids)]
		for i := range room {
			all = append(all, &room[i])
		}
	}
	return all
}

// checkShareNothing expects several trees to have memory of their own, spare capacity included.
func checkShareNothing(t *testing.T, trees ...impl.Tree) {
	t.Helper()
	seen := map[*impl.Tree]bool{}
	for i := range trees {
		for _, cell := range cells(&trees[i]) {
			if seen[cell] {
				t.Errorf("memory of tree %d of %v is in use elsewhere", i, trees)
			}
			seen[cell] = true
		}
	}
}

func TestListedTreesAreNewMemory(t *testing.T) {
	g := read(t, "A\nA>AA\nA>a\nA>B\nB>\nB>C\nC>a\nC>\n")
	for _, text := range []string{"", "aa", "aaaa"} {
		trees := slices.Concat(impl.AllTrees(g, text), impl.AllTrees(g, text))
		if len(trees) < 4 {
			t.Errorf("%q has %d trees", text, len(trees))
		}
		checkShareNothing(t, trees...)
	}
}

func TestListsAreNewMemory(t *testing.T) {
	g := read(t, "A\nA>AA\nA>a\nA>\n")
	parts, words := impl.AllParts(g, "aa"), impl.AllWords(g, 2)
	for i := range parts[:cap(parts)] {
		parts[:cap(parts)][i] = part("x", 7, 7)
	}
	for i := range words[:cap(words)] {
		words[:cap(words)][i] = "x"
	}
	if got := textOfParts(impl.AllParts(g, "aa")); got != "A00 A01 A02 A11 A12 A22" {
		t.Error(got)
	}
	if got := impl.AllWords(g, 2); !slices.Equal(got, []string{"", "a", "aa"}) {
		t.Error(got)
	}
}
