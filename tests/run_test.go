package tests

import (
	"math"
	"slices"
	"strconv"
	"strings"
	"testing"

	"loop.example/construer/impl"
)

func readStep() impl.Step {
	return impl.Step{Kind: 1}
}

func doneStep(rule int) impl.Step {
	return impl.Step{Kind: 2, Rule: rule}
}

func endStep() impl.Step {
	return impl.Step{Kind: 3}
}

// stepsFrom returns the steps that StepsText writes as text.
func stepsFrom(text string) []impl.Step {
	var steps []impl.Step
	for _, b := range text {
		switch b {
		case 'r':
			steps = append(steps, readStep())
		case '.':
			steps = append(steps, endStep())
		default:
			steps = append(steps, doneStep(int(b-'0')))
		}
	}
	return steps
}

// The functions from here to next are the document's definitions, written out.

// runTable parses with a table that has no conflict.
func runTable(g impl.Gram, x impl.Table, text string) ([]impl.Step, int, int) {
	var steps []impl.Step
	stack, read := []int{0}, 0
	for {
		top, ahead := stack[len(stack)-1], (text + "$")[read:read+1]
		at, ends := wantEnd(x, top, ahead)
		to, goes := wantGo(x, top, ahead)
		switch {
		case len(steps) == 200:
			return nil, 0, 4
		case ends && at == -1:
			return append(steps, endStep()), read, 0
		case ends:
			stack = stack[:len(stack)-len(g.Rules[at].Right)]
			to, _ = wantGo(x, stack[len(stack)-1], g.Rules[at].Left)
			steps = append(steps, doneStep(at))
		case goes:
			read++
			steps = append(steps, readStep())
		default:
			return steps, read, 1
		}
		stack = append(stack, to)
	}
}

func isText(text string) bool {
	return len(text) <= 8 && within(text, smalls)
}

// machine is the parser of a grammar, or the code with which parsing ends before it begins.
type machine struct {
	g    impl.Gram
	x    impl.Table
	code int
}

func machineOf(g impl.Gram) machine {
	if !impl.GramOk(g) {
		return machine{g: g, code: 3}
	}
	x, ok := impl.TableOf(g)
	if !ok {
		return machine{g: g, code: 4}
	}
	if len(wantClash(x)) != 0 {
		return machine{g: g, code: 2}
	}
	return machine{g: g, x: x}
}

func (m machine) steps(text string) ([]impl.Step, int, int) {
	if !isText(text) {
		return nil, 0, 3
	}
	if m.code != 0 {
		return nil, 0, m.code
	}
	return runTable(m.g, m.x, text)
}

// postorder expects a tree of a grammar.
func postorder(tree impl.Tree) []impl.Step {
	if tree.Rule == -1 {
		return []impl.Step{readStep()}
	}
	var steps []impl.Step
	for _, kid := range tree.Kids {
		steps = append(steps, postorder(kid)...)
	}
	return append(steps, doneStep(tree.Rule))
}

func wantStepsOf(g impl.Gram, tree impl.Tree) []impl.Step {
	if !wantOk(g, tree) || tree.Sign != g.Start {
		return nil
	}
	return append(postorder(tree), endStep())
}

// unstep goes through steps from the last to the first, and through text likewise: each reduction announces its Kids.
// It returns the tree of sign that stands at the end, and what is left over before it.
func unstep(g impl.Gram, sign, text string, steps []impl.Step) (impl.Tree, string, []impl.Step, bool) {
	if len(steps) == 0 {
		return impl.Tree{}, text, nil, false
	}
	last, steps := steps[len(steps)-1], steps[:len(steps)-1]
	if oneOf(sign, smalls) {
		rest, ok := strings.CutSuffix(text, sign)
		return leaf(sign), rest, steps, ok && last == readStep()
	}
	if last.Kind != 2 || !slices.Contains(impl.GramFor(g, sign), last.Rule) {
		return impl.Tree{}, text, steps, false
	}
	tree, right := node(sign, last.Rule), g.Rules[last.Rule].Right
	for i := range slices.Backward([]byte(right)) {
		var kid impl.Tree
		var ok bool
		if kid, text, steps, ok = unstep(g, right[i:i+1], text, steps); !ok {
			return tree, text, steps, false
		}
		tree.Kids = append([]impl.Tree{kid}, tree.Kids...)
	}
	return tree, text, steps, true
}

func wantStepsTree(g impl.Gram, text string, steps []impl.Step) (impl.Tree, bool) {
	if !impl.GramOk(g) || !isText(text) || len(steps) > 201 || len(steps) == 0 || steps[len(steps)-1] != endStep() {
		return impl.Tree{}, false
	}
	tree, rest, others, ok := unstep(g, g.Start, text, steps[:len(steps)-1])
	if !ok || rest != "" || len(others) != 0 {
		return impl.Tree{}, false
	}
	return tree, true
}

func (m machine) next(text string) (string, int) {
	_, _, code := m.steps(text)
	if m.code != 0 || code == 3 {
		return "", code
	}
	next, much := "", code == 4
	if code == 0 {
		next = "$"
	}
	for _, b := range symbolsOf(m.g, smalls) {
		_, read, code := runTable(m.g, m.x, text+string(b))
		if read > len(text) {
			next += string(b)
		}
		much = much || code == 4
	}
	if much {
		return "", 4
	}
	return next, 0
}

// openings says from where to its end a text is the beginning of a string that a nonterminal derives.
type openings struct {
	text   string
	made   string
	known  derivations
	begins map[impl.Part]bool
}

// openingsOf looks at derivations only, and not at a table. It adds a part only when those that it needs are there.
func openingsOf(g impl.Gram, text string) openings {
	o := openings{text: text, made: wantMade(g) + smalls, known: derive(g, text), begins: map[impl.Part]bool{}}
	for grown := true; grown; {
		grown = false
		for _, r := range g.Rules {
			for from := range len(text) + 1 {
				p := part(r.Left, from, len(text))
				if !o.begins[p] && within(r.Right, o.made) && o.openAll(r.Right, from) {
					o.begins[p] = true
					grown = true
				}
			}
		}
	}
	return o
}

func (o openings) openAll(signs string, from int) bool {
	if from == len(o.text) {
		return true
	}
	if signs == "" {
		return false
	}
	for to := from; to <= len(o.text); to++ {
		if _, ok := o.known.tree(o.text, part(signs[:1], from, to)); ok && o.openAll(signs[1:], to) {
			return true
		}
	}
	return o.begins[part(signs[:1], from, len(o.text))]
}

// continues reports whether some derived string, of any length, begins with text.
func continues(g impl.Gram, text string) bool {
	return openingsOf(g, text).begins[part(g.Start, 0, len(text))]
}

func TestContinuesWrittenOutByHand(t *testing.T) {
	for _, c := range []struct {
		gram string
		yes  string
		no   string
	}{
		{"A\nA>aAb\nA>\n", " a aa ab aab aabb aaaaaaaa aaaabbbb", "b ba abb aba aabbb c"},
		{"A\nA>aA\nA>b\n", " a aa b ab aab", "ba bb c abb"},
		{"A\nA>aA\n", "", "a b"},
		{"A\nA>aB\nA>b\n", " b", "a ab bb"},
		{"A\nA>BCa\nB>b\nB>\nC>\nC>cC\n", " b c bc bcc a ba bca cca", "bb cb aa ab bcab d"},
		{"A\nA>ABa\nA>b\nB>\nB>cBd\n", " b ba baa bc bcd bcda bccdd", "a c bb bcad bd"},
		{"A\n", "", "a"},
	} {
		g := read(t, c.gram)
		for _, text := range strings.Split(c.yes, " ") {
			if (c.yes != "" || text != "") && !continues(g, text) {
				t.Errorf("%q: a derived string begins with %q", c.gram, text)
			}
		}
		for _, text := range strings.Fields(c.no) {
			if continues(g, text) {
				t.Errorf("%q: no derived string begins with %q", c.gram, text)
			}
		}
	}
	if continues(read(t, "A\n"), "") || continues(read(t, "A\nA>aA\n"), "") {
		t.Error("without derived strings, nothing is a beginning")
	}
}

func TestKindsAndCodes(t *testing.T) {
	if impl.StepRead != 1 || impl.StepDone != 2 || impl.StepEnd != 3 || impl.StepMost != 200 {
		t.Error(impl.StepRead, impl.StepDone, impl.StepEnd, impl.StepMost)
	}
	if impl.RunFine != 0 || impl.RunBad != 1 || impl.RunClash != 2 || impl.RunForm != 3 || impl.RunMuch != 4 {
		t.Error(impl.RunFine, impl.RunBad, impl.RunClash, impl.RunForm, impl.RunMuch)
	}
}

// exampleGram is the chapter's example.
const exampleGram = "A\nA>AbB\nA>B\nB>a\nB>cAd\n"

// runCases are runs written out by hand. A tree is given for those that end with RunFine; the others end with RunBad.
var runCases = []struct {
	gram string
	text string
	step string
	read int
	tree string
}{
	// The chapter's example: strings separated by b, each a or another such list between c and d.
	{exampleGram, "aba", "r21rr20.", 3, "[0[1[2a]]b[2a]]"},
	{exampleGram, "abcad", "r21rrr21r30.", 5, "[0[1[2a]]b[3c[1[2a]]d]]"},
	{exampleGram, "cad", "rr21r31.", 3, "[1[3c[1[2a]]d]]"},
	{exampleGram, "cabad", "rr21rr20r31.", 5, "[1[3c[0[1[2a]]b[2a]]d]]"},
	{exampleGram, "abbc", "r21r", 2, ""},
	{exampleGram, "", "", 0, ""},
	{exampleGram, "ab", "r21r", 2, ""},
	{exampleGram, "ca", "rr", 2, ""},
	{exampleGram, "aa", "r", 1, ""},
	{exampleGram, "cadd", "rr21r", 3, ""},
	{exampleGram, "abad", "r21rr", 3, ""},
	{exampleGram, "d", "", 0, ""},
	{exampleGram, "abababab", "r21rr20rr20rr20r", 8, ""},
	// The example of chapters 1 and 5.
	{"A\nA>aAb\nA>\n", "", "1.", 0, "[1]"},
	{"A\nA>aAb\nA>\n", "aabb", "rr1r0r0.", 4, "[0a[0a[1]b]b]"},
	{"A\nA>aAb\nA>\n", "aaaabbbb", "rrrr1r0r0r0r0.", 8, "[0a[0a[0a[0a[1]b]b]b]b]"},
	{"A\nA>aAb\nA>\n", "aab", "rr1r", 3, ""},
	{"A\nA>aAb\nA>\n", "abb", "r1r", 2, ""},
	{"A\nA>aAb\nA>\n", "aba", "r1r", 2, ""},
	{"A\nA>aAb\nA>\n", "b", "", 0, ""},
	{"A\nA>aAb\nA>\n", "c", "", 0, ""},
	{"A\nA>aAb\nA>\n", "a", "r", 1, ""},
	{"A\nA>aAb\nA>\n", "aaaaaaaa", "rrrrrrrr", 8, ""},
	// Nothing at the beginning, in between, and at the end.
	{"A\nA>\n", "", "0.", 0, "[0]"},
	{"A\nA>\n", "a", "", 0, ""},
	{"A\nA>Ba\nB>\n", "a", "1r0.", 1, "[0[1]a]"},
	{"A\nA>Ba\nB>\n", "", "", 0, ""},
	{"A\nA>Ba\nB>\n", "aa", "1r", 1, ""},
	{"A\nA>Ba\nB>\n", "b", "", 0, ""},
	{"A\nA>aBb\nB>\n", "ab", "r1r0.", 2, "[0a[1]b]"},
	{"A\nA>aBb\nB>\n", "a", "r", 1, ""},
	{"A\nA>aBb\nB>\n", "aa", "r", 1, ""},
	{"A\nA>aB\nB>\n", "a", "r10.", 1, "[0a[1]]"},
	{"A\nA>aB\nB>\n", "aa", "r", 1, ""},
	{"A\nA>BCB\nB>\nC>\n", "", "1210.", 0, "[0[1][2][1]]"},
	{"A\nA>BaBC\nB>\nC>bB\n", "ab", "1r1r120.", 2, "[0[1]a[1][2b[1]]]"},
	// Parts each of which may be nothing.
	{"A\nA>BCD\nB>b\nB>\nC>c\nC>\nD>d\nD>\n", "", "2460.", 0, "[0[2][4][6]]"},
	{"A\nA>BCD\nB>b\nB>\nC>c\nC>\nD>d\nD>\n", "c", "2r360.", 1, "[0[2][3c][6]]"},
	{"A\nA>BCD\nB>b\nB>\nC>c\nC>\nD>d\nD>\n", "bd", "r14r50.", 2, "[0[1b][4][5d]]"},
	{"A\nA>BCD\nB>b\nB>\nC>c\nC>\nD>d\nD>\n", "d", "24r50.", 1, "[0[2][4][5d]]"},
	{"A\nA>BCD\nB>b\nB>\nC>c\nC>\nD>d\nD>\n", "bcd", "r1r3r50.", 3, "[0[1b][3c][5d]]"},
	{"A\nA>BCD\nB>b\nB>\nC>c\nC>\nD>d\nD>\n", "cb", "2r", 1, ""},
	{"A\nA>BCD\nB>b\nB>\nC>c\nC>\nD>d\nD>\n", "db", "24r", 1, ""},
	{"A\nA>BCD\nB>b\nB>\nC>c\nC>\nD>d\nD>\n", "bb", "r", 1, ""},
	{"A\nA>BCD\nB>b\nB>\nC>c\nC>\nD>d\nD>\n", "a", "", 0, ""},
	// Lists that grow to the right and to the left, and brackets.
	{"A\nA>Aa\nA>\n", "", "1.", 0, "[1]"},
	{"A\nA>Aa\nA>\n", "aa", "1r0r0.", 2, "[0[0[1]a]a]"},
	{"A\nA>Aa\nA>\n", "ab", "1r", 1, ""},
	{"A\nA>Aa\nA>\n", "b", "", 0, ""},
	{"A\nA>aA\nA>\n", "aa", "rr100.", 2, "[0a[0a[1]]]"},
	{"A\nA>aA\nA>\n", "ab", "r", 1, ""},
	{"A\nA>AaAb\nA>\n", "abab", "1r1r0r1r0.", 4, "[0[0[1]a[1]b]a[1]b]"},
	{"A\nA>AaAb\nA>\n", "aabb", "1r1r1r0r0.", 4, "[0[1]a[0[1]a[1]b]b]"},
	{"A\nA>AaAb\nA>\n", "abb", "1r1r", 2, ""},
	{"A\nA>AaAb\nA>\n", "ba", "", 0, ""},
	// What is ahead decides: between reductions of one terminal, of nothing, and between none and one.
	{"A\nA>aBa\nA>bCa\nA>aCb\nA>bBb\nB>c\nC>c\n", "aca", "rr4r0.", 3, "[0a[4c]a]"},
	{"A\nA>aBa\nA>bCa\nA>aCb\nA>bBb\nB>c\nC>c\n", "acb", "rr5r2.", 3, "[2a[5c]b]"},
	{"A\nA>aBa\nA>bCa\nA>aCb\nA>bBb\nB>c\nC>c\n", "bca", "rr5r1.", 3, "[1b[5c]a]"},
	{"A\nA>aBa\nA>bCa\nA>aCb\nA>bBb\nB>c\nC>c\n", "acc", "rr", 2, ""},
	{"A\nA>aBa\nA>bCa\nA>aCb\nA>bBb\nB>c\nC>c\n", "ac", "rr", 2, ""},
	{"A\nA>BaBb\nA>CbCa\nB>\nC>\n", "ab", "2r2r0.", 2, "[0[2]a[2]b]"},
	{"A\nA>BaBb\nA>CbCa\nB>\nC>\n", "ba", "3r3r1.", 2, "[1[3]b[3]a]"},
	{"A\nA>BaBb\nA>CbCa\nB>\nC>\n", "aa", "2r", 1, ""},
	{"A\nA>BaBb\nA>CbCa\nB>\nC>\n", "", "", 0, ""},
	{"A\nA>BaC\nA>C\nB>bC\nB>c\nC>B\n", "cac", "r3rr340.", 3, "[0[3c]a[4[3c]]]"},
	{"A\nA>BaC\nA>C\nB>bC\nB>c\nC>B\n", "bc", "rr34241.", 2, "[1[4[2b[4[3c]]]]]"},
	{"A\nA>BaC\nA>C\nB>bC\nB>c\nC>B\n", "caca", "r3rr", 3, ""},
	// As many states as there may be.
	{"A\nA>aBaa\nA>bBbb\nA>cBc\nA>dBd\nB>abcd\nB>dc\n", "adcaa", "rrr5rr0.", 5, "[0a[5dc]aa]"},
	{"A\nA>aBaa\nA>bBbb\nA>cBc\nA>dBd\nB>abcd\nB>dc\n", "cdcc", "rrr5r2.", 4, "[2c[5dc]c]"},
	{"A\nA>aBaa\nA>bBbb\nA>cBc\nA>dBd\nB>abcd\nB>dc\n", "adca", "rrr5r", 4, ""},
	// What is ahead allows a reduction, but nothing after it, because a nonterminal is without productions.
	{"A\nA>BCD\nB>\nC>c\n", "c", "1", 0, ""},
	{"A\nA>BCD\nB>\nC>c\n", "", "", 0, ""},
	{"A\nA>BCD\nB>b\nC>c\n", "bc", "r1", 1, ""},
	{"A\nA>BCD\nB>b\nC>c\n", "bd", "r", 1, ""},
	{"A\nA>BCDE\nB>\nC>\nD>d\n", "d", "12", 0, ""},
	{"A\nA>aB\nB>CDE\nC>\nD>d\n", "ad", "r2", 1, ""},
	{"A\nA>b\nA>BCD\nB>\nC>c\n", "b", "r0.", 1, "[0b]"},
	{"A\nA>b\nA>BCD\nB>\nC>c\n", "c", "2", 0, ""},
	{"A\nA>b\nA>BCD\nB>\nC>c\n", "bc", "r", 1, ""},
	// A terminal is read, but nothing can follow it.
	{"A\nA>aB\nA>b\n", "a", "r", 1, ""},
	{"A\nA>aB\nA>b\n", "ab", "r", 1, ""},
	{"A\nA>aB\nA>b\n", "b", "r1.", 1, "[1b]"},
	// Nothing is derived, or not from Start.
	{"A\n", "", "", 0, ""},
	{"A\n", "a", "", 0, ""},
	{"D\nA>a\nB>D\n", "a", "", 0, ""},
	{"D\nA>a\nD>b\n", "b", "r1.", 1, "[1b]"},
}

func TestRunsWrittenOutByHand(t *testing.T) {
	for _, c := range runCases {
		g, code := read(t, c.gram), 0
		if c.tree == "" {
			code = 1
		}
		steps, count, got := impl.RunSteps(g, c.text)
		if s := impl.StepsText(steps); s != c.step || !slices.Equal(steps, stepsFrom(c.step)) || count != c.read || got != code {
			t.Errorf("%q: the steps of %q are %s, %d, %d, want %s, %d, %d", c.gram, c.text, s, count, got, c.step, c.read, code)
		}
		tree, count, got := impl.RunOf(g, c.text)
		if s := impl.TreeText(g, tree); s != c.tree || count != c.read || got != code || c.tree == "" && !isZeroTree(tree) {
			t.Errorf("%q: the tree of %q is %s, %d, %d, want %s, %d, %d", c.gram, c.text, s, count, got, c.tree, c.read, code)
		}
		made, ok := impl.StepsTree(g, c.text, stepsFrom(c.step))
		if s := impl.TreeText(g, made); s != c.tree || ok != (c.tree != "") || !ok && !isZeroTree(made) {
			t.Errorf("%q: %s is %s, %v, want %s", c.gram, c.step, s, ok, c.tree)
		}
		if c.tree == "" {
			continue
		}
		hand, _ := impl.TreeRead(g, c.tree)
		if s := impl.StepsText(impl.StepsOf(g, hand)); s != c.step {
			t.Errorf("%q: the steps of %s are %s, want %s", c.gram, c.tree, s, c.step)
		}
		checkRun(t, machineOf(g), c.text)
	}
}

// checkRun compares all that chapter 7 says of a text with the definitions and, where there is a parser, with what is derived.
// It returns the code.
func checkRun(t *testing.T, m machine, text string) int {
	t.Helper()
	g := m.g
	want, count, code := m.steps(text)
	steps, n, got := impl.RunSteps(g, text)
	if !slices.Equal(steps, want) || n != count || got != code {
		t.Errorf("RunSteps(%q, %q) = %s, %d, %d, want %s, %d, %d", g, text, impl.StepsText(steps), n, got, impl.StepsText(want), count, code)
	}
	tree, n, got := impl.RunOf(g, text)
	if n != count || got != code || code != 0 && !isZeroTree(tree) {
		t.Errorf("RunOf(%q, %q) = %v, %d, %d, want %d, %d", g, text, tree, n, got, count, code)
	}
	made, ok := impl.StepsTree(g, text, steps)
	if ok != (code == 0) || !wantSame(made, tree) {
		t.Errorf("%q: %q has the tree %v, but its steps have %v, %v", g, text, tree, made, ok)
	}
	switch code {
	case 0:
		checkParsed(t, g, text, steps, tree)
	case 1:
		checkError(t, g, text, steps, count)
	}
	return code
}

// checkParsed is for a text that is parsed.
func checkParsed(t *testing.T, g impl.Gram, text string, steps []impl.Step, tree impl.Tree) {
	t.Helper()
	if !wantIs(g, text) {
		t.Errorf("%q: %q is parsed, but not derived", g, text)
	}
	if tree.Sign != g.Start || !isTreeOf(g, tree) || yieldOf(tree) != text || !slices.Equal(append(postorder(tree), endStep()), steps) {
		t.Errorf("%q: %v is not the tree of %q and %s", g, tree, text, impl.StepsText(steps))
		return
	}
	if got := impl.StepsOf(g, tree); !slices.Equal(got, wantStepsOf(g, tree)) {
		t.Errorf("StepsOf(%q, %v) = %s", g, tree, impl.StepsText(got))
	}
	checkOnly(t, g, text, tree)
}

// checkOnly expects a text to have one tree. AllTrees leaves out what is deeper than 9, and the definition is followed where it is.
func checkOnly(t *testing.T, g impl.Gram, text string, tree impl.Tree) {
	t.Helper()
	all, deep := impl.AllTrees(g, text), depthOf(tree) > 9
	if deep && len(all) != 0 {
		t.Errorf("%q: %q is parsed as %v, but has the trees %s", g, text, tree, textOfTrees(all))
	}
	if deep {
		e := enumeration{g: g, text: text, known: derive(g, text), steps: 20000}
		all = e.trees(part(g.Start, 0, len(text)), depthOf(tree)+3, nil)
	}
	if len(all) != 1 || !wantSame(all[0], tree) {
		t.Errorf("%q: %q is parsed as %v, but has the trees %s", g, text, tree, textOfTrees(all))
	}
}

// checkError is for a text with an error behind the first count terminals.
func checkError(t *testing.T, g impl.Gram, text string, steps []impl.Step, count int) {
	t.Helper()
	reads := 0
	for _, s := range steps {
		if s == readStep() {
			reads++
		}
	}
	if reads != count || slices.Contains(steps, endStep()) {
		t.Errorf("%q: %d terminals of %q are read by %s", g, count, text, impl.StepsText(steps))
	}
	checkErrorAt(t, g, text, count)
}

// checkErrorAt compares the position of an error with what is derived.
func checkErrorAt(t *testing.T, g impl.Gram, text string, count int) {
	t.Helper()
	if wantIs(g, text) {
		t.Errorf("%q: %q is derived, but not parsed", g, text)
	}
	if count < len(text) && continues(g, text[:count+1]) {
		t.Errorf("%q: the error is behind %q, but a derived string begins with %q", g, text[:count], text[:count+1])
	}
	if isTrim(g) && !continues(g, text[:count]) {
		t.Errorf("%q: an error of %q should have been reported before %q was read", g, text, text[:count])
	}
}

// isTrim reports whether each production is in a derivation of a string.
func isTrim(g impl.Gram) bool {
	return len(g.Rules) != 0 && impl.GramSame(impl.GramTrim(g), g)
}

// checkNext compares NextOf with the definition and, where there is a parser, with the derived strings.
func checkNext(t *testing.T, m machine, text string) {
	t.Helper()
	g := m.g
	want, code := m.next(text)
	got, end := impl.NextOf(g, text)
	if got != want || end != code {
		t.Errorf("NextOf(%q, %q) = %q, %d, want %q, %d", g, text, got, end, want, code)
	}
	if code != 0 {
		return
	}
	if strings.Contains(got, "$") != wantIs(g, text) {
		t.Errorf("NextOf(%q, %q) = %q", g, text, got)
	}
	trim := isTrim(g)
	for _, b := range smalls {
		given, goesOn := strings.ContainsRune(got, b), continues(g, text+string(b))
		if goesOn && !given || trim && given && !goesOn {
			t.Errorf("NextOf(%q, %q) = %q, but to go on with %c: %v", g, text, got, b, goesOn)
		}
	}
}

// runGrams have no conflict, no production in vain, and derive many strings, most of them infinitely many.
var runGrams = []string{
	exampleGram,
	"A\nA>aAb\nA>\n",
	"A\nA>aAa\nA>bAb\nA>c\n",
	"A\nA>AaAb\nA>\n",
	"A\nA>aAbA\nA>\n",
	"A\nA>AB\nA>\nB>a\nB>bAc\n",
	"A\nA>B\nA>\nB>Bba\nB>a\n",
	"A\nA>B\nA>C\nB>aBbB\nB>c\nC>aA\nC>aBbC\n",
	"A\nA>AaB\nA>B\nB>BbC\nB>C\nC>c\nC>dC\n",
	"A\nA>BaC\nA>C\nB>bC\nB>c\nC>B\n",
	"A\nA>BB\nB>aB\nB>b\n",
	"A\nA>aBa\nA>bCa\nA>aCb\nA>bBb\nB>c\nC>c\n",
	"A\nA>BCD\nB>b\nB>\nC>c\nC>\nD>d\nD>\n",
	"A\nA>BaBb\nA>CbCa\nB>\nC>\n",
	"A\nA>aAc\nA>B\nB>bBc\nB>\n",
	"C\nC>BAB\nB>bB\nB>\nA>aA\nA>c\n",
	"E\nE>D\nD>DaC\nD>\nC>bCc\nC>\n",
	"A\nA>aA\nA>bB\nA>\nB>aB\nB>bA\n",
	"A\nA>ABa\nA>b\nB>\nB>cBd\n",
	"B\nB>CBd\nB>\nC>aC\nC>b\n",
	"D\nD>aD\nD>A\nA>bAc\nA>E\nE>\nE>dE\n",
	"A\nA>BCDE\nB>\nC>\nD>\nE>\n",
	"A\nA>Bb\nB>Ca\nB>\nC>Cc\nC>Dd\nD>\n",
}

// manyTexts returns texts over the terminals of a grammar and, for errors, short ones with terminals that do not occur.
func manyTexts(g impl.Gram) []string {
	signs := impl.GramSmalls(g)
	longest := map[int]int{0: 6, 1: 7, 2: 7, 3: 6, 4: 5}[len(signs)]
	return append(textsOver(signs, longest), textsOver(smalls, 2)...)
}

func TestParsedIsWhatIsDerived(t *testing.T) {
	fine := 0
	for _, gram := range runGrams {
		m := machineOf(read(t, gram))
		if m.code != 0 || !isTrim(m.g) {
			t.Fatalf("%q does not belong here", gram)
		}
		for _, text := range manyTexts(m.g) {
			switch checkRun(t, m, text) {
			case 0:
				fine++
			case 1:
			default:
				t.Errorf("%q: %q should be parsed", gram, text)
			}
		}
	}
	if fine < 500 {
		t.Errorf("only %d texts are parsed", fine)
	}
}

func TestNextIsWhatDerivedStringsGoOnWith(t *testing.T) {
	for _, gram := range runGrams {
		m := machineOf(read(t, gram))
		for _, text := range append(textsOver(impl.GramSmalls(m.g), 4), textsOver(smalls, 2)...) {
			checkNext(t, m, text)
		}
	}
}

// changedOnce returns the grammars of texts, each with one production changed, left out or added, many times and always the same way.
func changedOnce(t *testing.T, texts []string, seed uint32) []impl.Gram {
	t.Helper()
	var grams []impl.Gram
	pick := picker(seed)
	for _, gram := range texts {
		for range 60 {
			g := read(t, gram)
			at := pick(len(g.Rules))
			right := g.Rules[at].Right
			cut := pick(len(right) + 1)
			switch pick(4) {
			case 0:
				g.Rules = slices.Delete(g.Rules, at, at+1)
			case 1:
				g.Rules[at].Right = right[:cut] + right[min(cut+1, len(right)):]
			case 2:
				g.Rules[at].Right = right[:cut] + (bigs + smalls)[pick(9):][:1] + right[min(cut+1, len(right)):]
			default:
				g.Rules = append(g.Rules, pickRules(pick, 1, bigs, bigs+smalls)...)
			}
			known := func(other impl.Gram) bool { return impl.GramSame(g, other) }
			if impl.GramOk(g) && !slices.ContainsFunc(grams, known) {
				grams = append(grams, g)
			}
		}
	}
	return grams
}

// changedGrams returns grammars that are those of runGrams but for one production, without conflicts. In many of them
// productions are in vain, and some are without derived strings.
func changedGrams(t *testing.T) []machine {
	t.Helper()
	var machines []machine
	for _, g := range changedOnce(t, runGrams, 77) {
		if m := machineOf(g); m.code == 0 {
			machines = append(machines, m)
		}
	}
	return machines
}

func TestParsedIsWhatIsDerivedAlsoFromChangedGrams(t *testing.T) {
	fine, vain := 0, 0
	machines := changedGrams(t)
	for _, m := range machines {
		if !isTrim(m.g) {
			vain++
		}
		signs := impl.GramSmalls(m.g)
		for _, text := range append(textsOver(signs, 5-min(3, len(signs))), textsOver(smalls, 1)...) {
			if checkRun(t, m, text) == 0 {
				fine++
			}
			checkNext(t, m, text)
		}
	}
	if len(machines) < 300 || vain < 100 || len(machines)-vain < 100 || fine < 1000 {
		t.Errorf("%d grammars, %d of them with productions in vain, and %d texts are parsed", len(machines), vain, fine)
	}
}

func TestRunsOfManyGrams(t *testing.T) {
	codes := map[int]int{}
	for i, g := range slices.Concat(itemGrams(), plainGrams()) {
		m, texts := machineOf(g), []string{"", "a", "e"}
		if m.code == 0 {
			texts = slices.Concat(textsOver(smalls[:1+i%4], 2), impl.AllWords(g, 4))
		}
		for _, text := range texts {
			codes[checkRun(t, m, text)]++
		}
		checkNext(t, m, texts[0])
		checkNext(t, m, texts[1])
	}
	if codes[0] < 1000 || codes[1] < 1000 || codes[2] < 1000 || codes[4] < 100 {
		t.Error(codes)
	}
}

// longTexts returns up to 13 texts of 7 or 8 terminals that are yields of the first trees of Start of at most a depth.
func longTexts(g impl.Gram, depth, limit int) []string {
	var texts []string
	for _, tree := range treesOf(g, g.Start, depth, limit) {
		if text := yieldOf(tree); len(text) >= 7 && len(text) <= 8 && len(texts) < 13 {
			texts = append(texts, text)
		}
	}
	return texts
}

// textsNear returns text with one terminal left out, changed or added.
func textsNear(text string) []string {
	var texts []string
	for i := range len(text) {
		texts = append(texts, text[:i]+text[i+1:])
		for _, b := range smalls {
			texts = append(texts, text[:i]+string(b)+text[i+1:], text[:i]+string(b)+text[i:])
		}
	}
	return texts
}

func TestLongTextsAreParsed(t *testing.T) {
	longest := 0
	for _, gram := range runGrams {
		m := machineOf(read(t, gram))
		for _, text := range longTexts(m.g, 9, 300) {
			if len(text) == 8 {
				longest++
			}
			if checkRun(t, m, text) != 0 {
				t.Errorf("%q: %q is not parsed", gram, text)
			}
			for _, near := range textsNear(text) {
				checkRun(t, m, near)
			}
			for i := range len(text) + 1 {
				checkNext(t, m, text[:i])
			}
		}
	}
	if longest < 50 {
		t.Errorf("only %d of 8 terminals", longest)
	}
}

// badForms are texts that are too long or consist of other bytes.
var badForms = append([]string{"aaaaaaaaa", "ababababa", "e", "A", "a ", " a", "$", "a$", "ab\n"}, badTexts...)

// clashing and crowded are grammars with a conflict and with too many states; the last one would have both.
var (
	clashing = []string{"A\nA>AbA\nA>a\n", "A\nA>A\nA>a\n", "A\nA>Ba\nB>\nB>a\n", "A\nA>B\nA>C\nB>a\nC>a\nA>b\n"}
	crowded  = []string{
		"A\nA>aba\nA>bAAA\nA>AaAa\n",
		"A\nA>aBaa\nA>bBbb\nA>cBcc\nA>dBd\nB>abcd\nB>dc\n",
		"A\nA>aBaa\nA>bBbb\nA>cBcc\nA>dBd\nB>abcd\nB>dc\nB>C\nC>dc\n",
	}
)

// checkNoRun expects a code with which nothing else is returned.
func checkNoRun(t *testing.T, g impl.Gram, text string, code int) {
	t.Helper()
	steps, n, got := impl.RunSteps(g, text)
	if len(steps) != 0 || n != 0 || got != code {
		t.Errorf("RunSteps(%q, %.20q) = %v, %d, %d, want %d", g, text, steps, n, got, code)
	}
	tree, n, got := impl.RunOf(g, text)
	if !isZeroTree(tree) || n != 0 || got != code {
		t.Errorf("RunOf(%q, %.20q) = %v, %d, %d, want %d", g, text, tree, n, got, code)
	}
	next, got := impl.NextOf(g, text)
	if next != "" || got != code {
		t.Errorf("NextOf(%q, %.20q) = %q, %d, want %d", g, text, next, got, code)
	}
}

func TestCodesInTheirOrder(t *testing.T) {
	texts := textsOver("abc", 3)
	for _, gram := range clashing {
		for _, text := range texts {
			checkNoRun(t, read(t, gram), text, 2)
		}
	}
	for _, gram := range crowded {
		for _, text := range texts {
			checkNoRun(t, read(t, gram), text, 4)
		}
	}
	if trees := impl.AllTrees(read(t, crowded[2]), "adcaa"); len(trees) != 2 {
		t.Errorf("only %s, so that there might be no conflict", textOfTrees(trees))
	}
	for _, gram := range slices.Concat(clashing, crowded, runGrams) {
		for _, text := range badForms {
			checkNoRun(t, read(t, gram), text, 3)
		}
	}
	for _, g := range badGrams {
		for _, text := range append([]string{"", "a", "b"}, badForms...) {
			checkNoRun(t, g, text, 3)
		}
	}
}

// longGram derives the strings of b and cc. Before anything is read, 193 productions are reduced: one of A, 3 of B, 9 of C,
// 36 of D and 144 of E. Each b makes 2 steps more, and each cc makes 3.
const longGram = "A\nA>BBB\nB>CCC\nC>DDDD\nD>EEEE\nE>\nA>Ab\nA>Acc\n"

func TestExactlyTheMostStepsAndMore(t *testing.T) {
	g := read(t, longGram)
	for _, c := range []struct {
		text  string
		steps int
		read  int
		code  int
	}{
		{"", 194, 0, 0},
		{"b", 196, 1, 0},
		{"bcc", 199, 3, 0},
		{"bbb", 200, 3, 0},
		{"cccc", 200, 4, 0},
		{"bbcc", 0, 0, 4},
		{"ccbb", 0, 0, 4},
		{"bccb", 0, 0, 4},
		{"bbbb", 0, 0, 4},
		{"ccccb", 0, 0, 4},
		{"cccccccc", 0, 0, 4},
		{"a", 0, 0, 1},
		{"ba", 194, 1, 1},
		{"bbba", 198, 3, 1},
		{"cccca", 198, 4, 1},
		{"bccc", 199, 4, 1},
		{"bccca", 199, 4, 1},
		{"bbbc", 0, 0, 4},
		{"bbbca", 0, 0, 4},
		{"ccccc", 0, 0, 4},
		{"bbbba", 0, 0, 4},
	} {
		steps, n, code := impl.RunSteps(g, c.text)
		if len(steps) != c.steps || n != c.read || code != c.code {
			t.Errorf("%q: %d steps, %d, %d, want %d, %d, %d", c.text, len(steps), n, code, c.steps, c.read, c.code)
		}
		if tree, n, code := impl.RunOf(g, c.text); code != c.code || n != c.read || code == 0 && sizeOf(tree) != c.steps-1 {
			t.Errorf("%q: a tree of %d nodes, %d, %d", c.text, sizeOf(tree), n, code)
		}
		if c.code == 4 {
			checkNoRun(t, g, c.text, 4)
		}
		checkRun(t, machineOf(g), c.text)
		checkNext(t, machineOf(g), c.text)
	}
	if !impl.AllIs(g, "bbcc") || !impl.AllIs(g, "bbb") || impl.AllIs(g, "bbbc") {
		t.Error("the strings are those of b and cc")
	}
}

// A derived string may take more steps than there may be, before or after anything is read.
func TestDerivedStringsOfTooManySteps(t *testing.T) {
	for _, c := range []struct{ gram, text string }{
		{"A\nA>BBBB\nB>CCCC\nC>DDDD\nD>EEEE\nE>\n", ""},
		{"A\nA>BBBB\nB>CCCC\nC>DDDD\nD>EEEE\nE>\nA>a\n", ""},
		{"A\nA>aBBB\nB>CCCC\nC>DDDD\nD>EEEE\nE>\n", "a"},
		{"A\nA>BBBa\nB>CCCC\nC>DDDD\nD>EEEE\nE>\n", "a"},
	} {
		g := read(t, c.gram)
		if !impl.AllIs(g, c.text) || checkRun(t, machineOf(g), c.text) != 4 {
			t.Errorf("%q: %q is derived in too many steps", c.gram, c.text)
		}
		checkNoRun(t, g, c.text, 4)
		checkNext(t, machineOf(g), c.text)
	}
}

// A grammar may have no conflict, and yet with some terminals ahead nothing is reduced again and again: FIRST of a nonterminal
// contains the terminal, but because another one behind it is without productions, the states have no item that reads it.
func TestParsersThatDoNotEnd(t *testing.T) {
	for _, c := range []struct {
		gram, text string
		code       int
	}{
		{"A\nA>BA\nA>CD\nB>\nC>a\n", "a", 4},
		{"A\nA>BA\nA>CD\nB>\nC>a\n", "aa", 4},
		{"A\nA>BA\nA>CD\nB>\nC>a\n", "ab", 4},
		{"A\nA>BA\nA>CD\nB>\nC>a\n", "", 1},
		{"A\nA>BA\nA>CD\nB>\nC>a\n", "b", 1},
		{"E\nE>A\nE>b\nA>BA\nA>CD\nB>\nC>a\n", "a", 4},
		{"E\nE>A\nE>b\nA>BA\nA>CD\nB>\nC>a\n", "b", 0},
		{"E\nE>A\nE>b\nA>BA\nA>CD\nB>\nC>a\n", "ba", 1},
		{"E\nE>A\nE>b\nA>BA\nA>CD\nB>\nC>a\n", "", 1},
		{"A\nA>bB\nA>b\nB>CB\nB>DE\nC>\nD>a\n", "ba", 4},
		{"A\nA>bB\nA>b\nB>CB\nB>DE\nC>\nD>a\n", "b", 0},
		{"A\nA>bB\nA>b\nB>CB\nB>DE\nC>\nD>a\n", "bb", 1},
		{"A\nA>BCA\nA>DE\nB>\nC>\nD>c\nD>d\n", "c", 4},
		{"A\nA>BCA\nA>DE\nB>\nC>\nD>c\nD>d\n", "dc", 4},
		{"A\nA>BCA\nA>DE\nB>\nC>\nD>c\nD>d\n", "a", 1},
	} {
		g := read(t, c.gram)
		if code := checkRun(t, machineOf(g), c.text); code != c.code {
			t.Errorf("%q: %q ends with %d, want %d", c.gram, c.text, code, c.code)
		}
		if c.code == 4 {
			checkNoRun(t, g, c.text, 4)
		}
		checkNext(t, machineOf(g), c.text)
	}
}

func TestNextWrittenOutByHand(t *testing.T) {
	const loop = "E\nE>A\nE>b\nA>BA\nA>CD\nB>\nC>a\n"
	for _, c := range []struct {
		gram, text, next string
		code             int
	}{
		{exampleGram, "ca", "bd", 0},
		{exampleGram, "", "ac", 0},
		{exampleGram, "a", "$b", 0},
		{exampleGram, "ab", "ac", 0},
		{exampleGram, "c", "ac", 0},
		{exampleGram, "cad", "$b", 0},
		{exampleGram, "abababa", "$b", 0},
		// The runs of a text of 8 terminals with one more are 9 long.
		{exampleGram, "abababab", "ac", 0},
		{exampleGram, "cccccccc", "ac", 0},
		{exampleGram, "ccccccca", "bd", 0},
		{exampleGram, "cccaddd", "$b", 0},
		{"A\nA>aAb\nA>\n", "", "$a", 0},
		{"A\nA>aAb\nA>\n", "a", "ab", 0},
		{"A\nA>aAb\nA>\n", "aab", "b", 0},
		{"A\nA>aAb\nA>\n", "ab", "$", 0},
		{"A\nA>aAb\nA>\n", "aaaaaaaa", "ab", 0},
		{"A\nA>aAb\nA>\n", "aaaabbbb", "$", 0},
		{"A\nA>aAb\nA>\n", "aaaaabbb", "b", 0},
		{"A\nA>Aa\nA>\n", "aaaaaaaa", "$a", 0},
		{"A\nA>aA\nA>bA\nA>cA\nA>dA\nA>\n", "dddddddd", "$abcd", 0},
		{"A\nA>aA\nA>bA\nA>cA\nA>dA\nA>\n", "", "$abcd", 0},
		{"A\nA>BCD\nB>b\nB>\nC>c\nC>\nD>d\nD>\n", "", "$bcd", 0},
		{"A\nA>BCD\nB>b\nB>\nC>c\nC>\nD>d\nD>\n", "c", "$d", 0},
		// A text with an error has no terminals that may follow.
		{exampleGram, "cada", "", 0},
		{exampleGram, "d", "", 0},
		{exampleGram, "aaaaaaaa", "", 0},
		{"A\nA>aAb\nA>\n", "ba", "", 0},
		{"A\nA>aAb\nA>\n", "c", "", 0},
		{"A\n", "", "", 0},
		{"A\n", "a", "", 0},
		{"A\nA>\n", "", "$", 0},
		{"A\nA>\n", "a", "", 0},
		// A terminal is read though nothing is derived with it, or not read because an error comes first.
		{"A\nA>aB\nA>b\n", "", "ab", 0},
		{"A\nA>aB\nA>b\n", "a", "", 0},
		{"A\nA>b\nA>BCD\nB>\nC>c\n", "", "b", 0},
		{"A\nA>BCD\nB>b\nC>c\n", "b", "", 0},
		// One of the runs takes too many steps: with the second b, with cc, with no terminal more, and with a.
		{longGram, "", "$bc", 0},
		{longGram, "bb", "$bc", 0},
		{longGram, "ccc", "c", 0},
		{longGram, "bcc", "", 4},
		{longGram, "bbb", "", 4},
		{longGram, "cccc", "", 4},
		{longGram, "bccc", "", 4},
		{longGram, "bbcc", "", 4},
		{longGram, "bbba", "", 0},
		{"A\nA>BBBB\nB>CCCC\nC>DDDD\nD>EEEE\nE>\nA>a\n", "", "", 4},
		{"A\nA>BBBB\nB>CCCC\nC>DDDD\nD>EEEE\nE>\nA>a\n", "a", "$", 0},
		{"A\nA>BBBB\nB>CCCC\nC>DDDD\nD>EEEE\nE>\nA>a\n", "aa", "", 0},
		{loop, "", "", 4},
		{loop, "a", "", 4},
		{loop, "b", "$", 0},
		{loop, "bb", "", 0},
		{clashing[0], "a", "", 2},
		{clashing[0], "e", "", 3},
		{crowded[0], "a", "", 4},
		{crowded[0], "aaaaaaaaa", "", 3},
		{exampleGram, "aaaaaaaaa", "", 3},
		{exampleGram, "ababababa", "", 3},
		{exampleGram, "$", "", 3},
	} {
		g := read(t, c.gram)
		if next, code := impl.NextOf(g, c.text); next != c.next || code != c.code {
			t.Errorf("%q: NextOf of %q = %q, %d, want %q, %d", c.gram, c.text, next, code, c.next, c.code)
		}
		checkNext(t, machineOf(g), c.text)
	}
}

// checkStepsTree compares StepsTree with the definition, and with StepsOf where the tree is valid.
func checkStepsTree(t *testing.T, g impl.Gram, text string, steps []impl.Step) bool {
	t.Helper()
	want, ok := wantStepsTree(g, text, steps)
	got, found := impl.StepsTree(g, text, steps)
	if found != ok || !wantSame(got, want) {
		t.Errorf("StepsTree(%q, %.20q, %s) = %v, %v, want %v, %v", g, text, impl.StepsText(steps), got, found, want, ok)
	}
	if found && impl.TreeOk(g, got) && !slices.Equal(impl.StepsOf(g, got), steps) {
		t.Errorf("StepsOf(%q, %v) is not %s", g, got, impl.StepsText(steps))
	}
	return found
}

func TestStepsTreeOfAllShortSteps(t *testing.T) {
	found := 0
	for _, gram := range []string{
		"A\nA>aAb\nA>\n", "A\nA>AA\nA>a\nA>\n", "B\nA>a\nB>AA\nB>\n", "A\nA>A\nA>aa\n", "A\nA>AB\nB>\nA>B\n", "A\nA>BaB\nB>\nB>a\n", "A\n",
		"A\nA>A\nA>AA\nA>\n", "A\nA>AA\nA>A\nA>a\n",
	} {
		g := read(t, gram)
		kinds := []impl.Step{readStep(), endStep(), doneStep(0), doneStep(1), doneStep(2)}
		lists := [][]impl.Step{nil}
		for at := 0; at < len(lists) && len(lists[at]) < 7; at++ {
			for _, step := range kinds {
				lists = append(lists, append(slices.Clone(lists[at]), step))
			}
		}
		for _, list := range lists {
			for _, text := range []string{"", "a", "aa", "ab"} {
				if checkStepsTree(t, g, text, list) {
					found++
				}
			}
		}
	}
	if found < 60 {
		t.Errorf("only %d lists of steps describe a tree", found)
	}
}

// badSteps are steps that are not of one of the forms.
var badSteps = []impl.Step{
	{}, {Kind: 0, Rule: 1}, {Kind: -1}, {Kind: 4}, {Kind: 4, Rule: 1}, {Kind: math.MinInt}, {Kind: math.MaxInt}, {Kind: 257}, {Kind: 1 << 32},
	{Kind: 1, Rule: 1}, {Kind: 1, Rule: -1}, {Kind: 1, Rule: math.MinInt}, {Kind: 3, Rule: 1}, {Kind: 3, Rule: -1}, {Kind: 3, Rule: math.MaxInt},
	doneStep(-1), doneStep(-2), doneStep(8), doneStep(9), doneStep(math.MinInt), doneStep(math.MaxInt), doneStep(256), doneStep(1 << 32),
}

func TestStepsTreeOfNearSteps(t *testing.T) {
	for _, c := range runCases {
		g, steps := read(t, c.gram), stepsFrom(c.step)
		if c.tree == "" {
			continue
		}
		others := append([]impl.Step{readStep(), endStep()}, badSteps...)
		for at := range g.Rules {
			others = append(others, doneStep(at))
		}
		for i := range len(steps) + 1 {
			for _, step := range others {
				checkStepsTree(t, g, c.text, slices.Insert(slices.Clone(steps), i, step))
				if i < len(steps) {
					changed := slices.Clone(steps)
					changed[i] = step
					if checkStepsTree(t, g, c.text, changed) && slices.Contains(badSteps, step) {
						t.Errorf("%q: %v is no step", c.gram, step)
					}
				}
			}
			checkStepsTree(t, g, c.text, steps[:i])
			checkStepsTree(t, g, c.text, steps[i:])
			if i < len(steps) {
				checkStepsTree(t, g, c.text, slices.Delete(slices.Clone(steps), i, i+1))
			}
			if i+1 < len(steps) {
				turned := slices.Clone(steps)
				turned[i], turned[i+1] = turned[i+1], turned[i]
				checkStepsTree(t, g, c.text, turned)
			}
		}
		for i := range len(c.text) + 1 {
			checkStepsTree(t, g, c.text[:i], steps)
			checkStepsTree(t, g, c.text[i:], steps)
			for _, b := range smalls {
				checkStepsTree(t, g, c.text[:i]+string(b)+c.text[i:], steps)
				checkStepsTree(t, g, c.text[:i]+string(b)+c.text[min(i+1, len(c.text)):], steps)
			}
		}
	}
}

func TestStepsTreeWrittenOutByHand(t *testing.T) {
	list := func(steps ...impl.Step) []impl.Step { return steps }
	r, e := readStep(), endStep()
	for _, c := range []struct {
		why, gram, text string
		steps           []impl.Step
		tree            string
	}{
		{"no steps", "A\nA>\n", "", nil, ""},
		{"only the end", "A\nA>\n", "", list(e), ""},
		{"a reduction of nothing", "A\nA>\n", "", list(doneStep(0), e), "[0]"},
		{"no end", "A\nA>\n", "", list(doneStep(0)), ""},
		{"two ends", "A\nA>\n", "", list(doneStep(0), e, e), ""},
		{"a reduction behind the end", "A\nA>A\nA>\n", "", list(doneStep(1), e, doneStep(0)), ""},
		{"a reduction and an end behind the end", "A\nA>A\nA>\n", "", list(doneStep(1), e, doneStep(0), e), ""},
		{"a read behind the end", "A\nA>\nA>a\n", "a", list(doneStep(0), e, r, e), ""},
		{"a text that is not read", "A\nA>\n", "a", list(doneStep(0), e), ""},
		{"a text that is not read to its end", "A\nA>a\n", "aa", list(r, doneStep(0), e), ""},
		{"a read past the end", "A\nA>aa\n", "a", list(r, r, doneStep(0), e), ""},
		{"a read of the empty text", "A\nA>a\n", "", list(r, doneStep(0), e), ""},
		{"a read past the end whose leaf is left over", "A\nA>a\n", "a", list(r, doneStep(0), r, e), ""},
		{"a leaf alone", "A\nA>a\n", "a", list(r, e), ""},
		{"a leaf left over", "A\nA>a\n", "aa", list(r, r, doneStep(0), e), ""},
		{"a tree left over", "A\nA>\n", "", list(doneStep(0), doneStep(0), e), ""},
		{"a tree of another symbol", "A\nB>a\n", "a", list(r, doneStep(0), e), ""},
		{"a tree of another symbol, left over", "A\nA>\nB>\n", "", list(doneStep(1), doneStep(0), e), ""},
		{"Start is another one", "B\nA>a\nB>A\n", "a", list(r, doneStep(0), e), ""},
		{"Start is another one, reached", "B\nA>a\nB>A\n", "a", list(r, doneStep(0), doneStep(1), e), "[1[0a]]"},
		{"other symbols", "A\nA>ab\n", "ba", list(r, r, doneStep(0), e), ""},
		{"too few symbols", "A\nA>aa\n", "a", list(r, doneStep(0), e), ""},
		{"too many symbols", "A\nA>a\n", "aa", list(r, r, doneStep(0), doneStep(0), e), ""},
		{"no symbols at all", "A\nA>A\n", "", list(doneStep(0), e), ""},
		{"a nonterminal where a terminal should be", "A\nA>a\nA>aa\n", "aa", list(r, doneStep(0), r, doneStep(1), e), ""},
		{"a terminal where a nonterminal should be", "A\nA>Ba\nB>a\n", "aa", list(r, r, doneStep(0), e), ""},
		{"the terminals below, not those of the text", "A\nA>aa\nB>\n", "aa", list(r, doneStep(1), r, doneStep(0), e), ""},
		{"the last four symbols", "A\nA>AABa\nA>\nB>b\n", "ba", list(doneStep(1), doneStep(1), r, doneStep(2), r, doneStep(0), e), "[0[1][1][2b]a]"},
		{"the last one, not the first", "A\nA>Ab\nA>a\nA>AA\n", "aba", list(r, doneStep(1), r, doneStep(0), r, doneStep(1), doneStep(2), e), "[2[0[1a]b][1a]]"},
		{"nothing is reduced late", "A\nA>aBC\nB>\nC>b\n", "ab", list(r, doneStep(1), r, doneStep(2), doneStep(0), e), "[0a[1][2b]]"},
		{"nothing is reduced too late", "A\nA>aBC\nB>\nC>b\n", "ab", list(r, r, doneStep(2), doneStep(1), doneStep(0), e), ""},
		{"no production", "A\nA>\n", "", list(doneStep(1), e), ""},
		{"production -1", "A\nA>\n", "", list(doneStep(-1), e), ""},
		{"no production, at the end", "A\nA>\n", "", list(doneStep(0), doneStep(1), e), ""},
		{"a conflict is none here", "A\nA>AbA\nA>a\n", "aba", list(r, doneStep(1), r, r, doneStep(1), doneStep(0), e), "[0[1a]b[1a]]"},
		{"many states are none here", crowded[0], "aba", list(r, r, r, doneStep(0), e), "[0aba]"},
		{"without the help of what is ahead", "A\nA>Ba\nB>\nB>a\n", "aa", list(r, doneStep(2), r, doneStep(0), e), "[0[2a]a]"},
		{"a read with a Rule", "A\nA>a\n", "a", list(impl.Step{Kind: 1, Rule: 1}, doneStep(0), e), ""},
		{"an end with a Rule", "A\nA>a\n", "a", list(r, doneStep(0), impl.Step{Kind: 3, Rule: 1}), ""},
		{"the most terminals", "A\nA>aaaa\nA>AA\n", "aaaaaaaa", stepsFrom("rrrr0rrrr01."), "[1[0aaaa][0aaaa]]"},
		{"one terminal more", "A\nA>aaaa\nA>Aa\n", "aaaaaaaaa", stepsFrom("rrrr0r1r1r1r1r1."), ""},
	} {
		g := read(t, c.gram)
		tree, ok := impl.StepsTree(g, c.text, c.steps)
		if got := impl.TreeText(g, tree); got != c.tree || ok != (c.tree != "") || !ok && !isZeroTree(tree) {
			t.Errorf("%s: %v, %v", c.why, tree, ok)
		}
		checkStepsTree(t, g, c.text, c.steps)
	}
}

func TestStepsTreeOfTheMostStepsAndMore(t *testing.T) {
	g := read(t, "A\nA>A\nA>a\nA>\nA>AA\n")
	for _, c := range []struct {
		count int
		ok    bool
	}{{59, true}, {60, true}, {61, true}, {62, true}, {199, true}, {200, true}, {201, true}, {202, false}, {203, false}, {400, false}, {300000, false}} {
		// A tall tree that begins with a, one that begins with nothing, and a wide one that takes an odd number of steps.
		tall := append(stepsFrom("r1"), slices.Repeat(stepsFrom("0"), c.count-3)...)
		none := append(stepsFrom("2"), slices.Repeat(stepsFrom("0"), c.count-2)...)
		wide := append(stepsFrom("2"), slices.Repeat(stepsFrom("23"), (c.count-2)/2)...)
		for text, steps := range map[string][]impl.Step{"a": append(tall, endStep()), "": append(none, endStep())} {
			if len(steps) != c.count {
				t.Fatal(len(steps), c.count)
			}
			tree, ok := impl.StepsTree(g, text, steps)
			if ok != c.ok || ok && sizeOf(tree) != c.count-1 || !ok && !isZeroTree(tree) {
				t.Errorf("%d steps: a tree of %d nodes, %v", c.count, sizeOf(tree), ok)
			}
			if _, ok := impl.StepsTree(g, text, steps[:c.count-1]); ok {
				t.Errorf("%d steps without an end", c.count-1)
			}
		}
		tree, ok := impl.StepsTree(g, "", append(wide, endStep()))
		if ok != c.ok || ok && sizeOf(tree) != len(wide) {
			t.Errorf("%d steps: a tree of %d nodes, %v", len(wide)+1, sizeOf(tree), ok)
		}
	}
}

func TestStepsTreeOfInvalidArguments(t *testing.T) {
	for why, g := range badGrams {
		for _, text := range append([]string{"", "a", "aa"}, badForms...) {
			for _, steps := range []string{"", ".", "0.", "r0.", "rr0.", "r.", "r01."} {
				if tree, ok := impl.StepsTree(g, text, stepsFrom(steps)); ok || !isZeroTree(tree) {
					t.Errorf("%s: %s of %.20q is %v, %v", why, steps, text, tree, ok)
				}
			}
		}
	}
	g := read(t, "A\nA>aA\nA>\nA>bA\nA>cA\nA>dA\n")
	for _, text := range badForms {
		reads := strings.Repeat("r", len(text))
		for _, steps := range []string{"1.", reads + "1.", reads + "1" + strings.Repeat("0", len(text)) + "."} {
			if tree, ok := impl.StepsTree(g, text, stepsFrom(steps)); ok || !isZeroTree(tree) {
				t.Errorf("%.20s of %.20q is %v, %v", steps, text, tree, ok)
			}
		}
	}
}

func TestStepsText(t *testing.T) {
	numbers := append(numbersAround(10), 255, 256, 257, 258, 259, 260, 1<<32+1)
	var all []impl.Step
	want := ""
	for _, kind := range numbers {
		for _, at := range numbers {
			character := "?"
			switch {
			case kind == 1:
				character = "r"
			case kind == 2 && at >= 0 && at <= 7:
				character = strconv.Itoa(at)
			case kind == 3:
				character = "."
			}
			step := impl.Step{Kind: kind, Rule: at}
			if got := impl.StepsText([]impl.Step{step}); got != character {
				t.Errorf("StepsText of %v = %q, want %q", step, got, character)
			}
			all = append(all, step)
			want += character
		}
	}
	if got := impl.StepsText(all); got != want {
		t.Errorf("%q", got)
	}
	for _, c := range []struct {
		steps []impl.Step
		want  string
	}{
		{nil, ""},
		{[]impl.Step{}, ""},
		{[]impl.Step{{}}, "?"},
		{[]impl.Step{doneStep(0), doneStep(7), doneStep(8), doneStep(-1), doneStep(10)}, "07???"},
		{[]impl.Step{endStep(), readStep(), {Kind: 1, Rule: 99}, {Kind: 3, Rule: -5}, {Kind: 4, Rule: 3}, {Kind: -2, Rule: 3}, {Kind: 0, Rule: 3}}, ".rr.???"},
	} {
		if got := impl.StepsText(c.steps); got != c.want {
			t.Errorf("StepsText of %v = %q, want %q", c.steps, got, c.want)
		}
	}
	if got := impl.StepsText(slices.Repeat([]impl.Step{readStep(), doneStep(5)}, 100000)); got != strings.Repeat("r5", 100000) {
		t.Error(len(got))
	}
}

func TestStepsOfTrees(t *testing.T) {
	found := 0
	someTrees(t, func(g impl.Gram, tree impl.Tree) {
		steps := impl.StepsOf(g, tree)
		if !slices.Equal(steps, wantStepsOf(g, tree)) {
			t.Errorf("StepsOf(%q, %v) = %s", g, tree, impl.StepsText(steps))
		}
		if len(steps) == 0 || len(yieldOf(tree)) > 8 {
			return
		}
		found++
		if made, ok := impl.StepsTree(g, yieldOf(tree), steps); !ok || !wantSame(made, tree) {
			t.Errorf("StepsTree(%q, %q, %s) = %v, %v, want %v", g, yieldOf(tree), impl.StepsText(steps), made, ok, tree)
		}
	})
	if found < 200 {
		t.Errorf("only %d trees of Start", found)
	}
}

func TestStepsOfTreesWithOneNodeChanged(t *testing.T) {
	for _, c := range runCases {
		if c.tree == "" {
			continue
		}
		g := read(t, c.gram)
		tree, _ := impl.TreeRead(g, c.tree)
		for at := range nodesOf(&tree) {
			for _, change := range changes {
				changed := copyOf(tree)
				change(nodesOf(&changed)[at])
				if got := impl.StepsOf(g, changed); !slices.Equal(got, wantStepsOf(g, changed)) {
					t.Errorf("StepsOf(%q, %v) = %s", g, changed, impl.StepsText(got))
				}
			}
		}
	}
}

func TestStepsOfWhatIsNoTreeOfStart(t *testing.T) {
	checkNone := func(why string, g impl.Gram, tree impl.Tree) {
		t.Helper()
		if steps := impl.StepsOf(g, tree); len(steps) != 0 {
			t.Errorf("%s: %s", why, impl.StepsText(steps))
		}
	}
	g := read(t, "A\nA>aAb\nA>\nB>b\nA>B\nA>aa\n")
	for why, tree := range badTrees {
		checkNone(why, g, tree)
	}
	checkNone("a leaf", g, leaf("a"))
	checkNone("another nonterminal", g, node("B", 2, leaf("b")))
	if s := impl.StepsText(impl.StepsOf(g, node("A", 3, node("B", 2, leaf("b"))))); s != "r23." {
		t.Error(s)
	}
	other := gramOf("B", g.Rules...)
	checkNone("a tree of A where Start is B", other, node("A", 3, node("B", 2, leaf("b"))))
	if s := impl.StepsText(impl.StepsOf(other, node("B", 2, leaf("b")))); s != "r2." {
		t.Error(s)
	}
	for why, g := range badGrams {
		for _, tree := range []impl.Tree{{}, leaf("a"), leaf("A"), node("A", 0, leaf("a")), node("A", 0), node("A", 1, leaf("a")), node(g.Start, 0)} {
			checkNone(why, g, tree)
		}
	}
	kids := []impl.Tree{leaf("a"), node("A", 1), leaf("b")}
	kids[1] = impl.Tree{Sign: "A", Rule: 0, Kids: kids}
	checkNone("a value that contains itself", g, kids[1])
	checkNone("a very deep tree", g, tower(300000, node("A", 1)))
}

func TestStepsOfTreesAtTheLimits(t *testing.T) {
	deep := read(t, "A\nA>A\nA>a\nA>\nA>aAA\n")
	wide := read(t, "A\nA>BBBB\nB>CCCC\nC>aaa\nC>\nC>a\nD>AA\n")
	for _, c := range []struct {
		g     impl.Gram
		tree  impl.Tree
		steps int
	}{
		{deep, chain(20, node("A", 2)), 21},
		{deep, chain(21, node("A", 2)), 0},
		{deep, chain(20, node("A", 1, leaf("a"))), 21},
		{deep, chain(21, node("A", 1, leaf("a"))), 0},
		{wide, bush(0), 22},
		{wide, bush(39), 61},
		{wide, bush(40), 0},
	} {
		steps := impl.StepsOf(c.g, c.tree)
		if len(steps) != c.steps || !slices.Equal(steps, wantStepsOf(c.g, c.tree)) {
			t.Errorf("depth %d, size %d: %s", depthOf(c.tree), sizeOf(c.tree), impl.StepsText(steps))
		}
	}
}

func TestRunFunctionsLeaveTheirArgumentsAlone(t *testing.T) {
	// The spare capacity shows a write beyond the length of an argument.
	g := read(t, exampleGram)
	g.Rules = append(g.Rules, rule("X", "kept"))[:4]
	steps := append(stepsFrom("r21rr20."), impl.Step{Kind: 77, Rule: 77}, impl.Step{Kind: 78})[:8]
	tree := node("A", 0, node("A", 1, node("B", 2, leaf("a"))), leaf("b"), node("B", 2, leaf("a")), leaf("kept"))
	tree.Kids = tree.Kids[:3]
	rules, listed, other := slices.Clone(g.Rules[:5]), slices.Clone(steps[:10]), copyOf(tree)
	impl.RunSteps(g, "aba")
	impl.RunOf(g, "abcad")
	impl.NextOf(g, "ca")
	impl.StepsText(steps)
	impl.StepsTree(g, "aba", steps)
	impl.StepsTree(g, "aba", steps[:5])
	impl.StepsOf(g, tree)
	if g.Start != "A" || !slices.Equal(g.Rules[:5], rules) || !slices.Equal(steps[:10], listed) {
		t.Errorf("%q, %v", g.Rules[:5], steps[:10])
	}
	if !wantSame(tree, other) || !wantSame(tree.Kids[:4][3], leaf("kept")) {
		t.Error(tree, tree.Kids[:4])
	}
}

func TestRunsAreNewMemory(t *testing.T) {
	for _, c := range runCases {
		g := read(t, c.gram)
		one, _, _ := impl.RunSteps(g, c.text)
		two, _, _ := impl.RunSteps(g, c.text)
		room := one[:cap(one)]
		for i := range room {
			room[i] = impl.Step{Kind: 77, Rule: 77}
		}
		three, _, _ := impl.RunSteps(g, c.text)
		if impl.StepsText(two) != c.step || impl.StepsText(three) != c.step {
			t.Errorf("%q: %s, %s after the first steps were overwritten", c.gram, impl.StepsText(two), impl.StepsText(three))
		}
		if c.tree == "" {
			continue
		}
		tree, _ := impl.TreeRead(g, c.tree)
		four := impl.StepsOf(g, tree)
		room = four[:cap(four)]
		for i := range room {
			room[i] = impl.Step{Kind: 77, Rule: 77}
		}
		if s := impl.StepsText(impl.StepsOf(g, tree)); s != c.step {
			t.Errorf("%q: %s after the first steps were overwritten", c.gram, s)
		}
		checkTreesAreNewMemory(t, g, c.text, stepsFrom(c.step))
	}
}

// checkTreesAreNewMemory looks at the memory of several trees of one text, and at that of each tree's own parts.
func checkTreesAreNewMemory(t *testing.T, g impl.Gram, text string, steps []impl.Step) {
	t.Helper()
	var trees []impl.Tree
	for range 2 {
		made, _ := impl.StepsTree(g, text, steps)
		run, _, _ := impl.RunOf(g, text)
		trees = append(trees, made, run)
	}
	checkShareNothing(t, trees...)
	overwrite(&trees[0])
	for _, tree := range trees[1:] {
		if yieldOf(tree) != text || !isTreeOf(g, tree) {
			t.Errorf("%q: the tree of %q is %v after another one was overwritten", g, text, tree)
		}
	}
}

func TestLargeTreesOfRunsAreNewMemory(t *testing.T) {
	g := read(t, longGram)
	steps, _, code := impl.RunSteps(g, "bbb")
	if code != 0 {
		t.Fatal(code)
	}
	checkTreesAreNewMemory(t, g, "bbb", steps)
}
