package tests

import (
	"slices"
	"strconv"
	"strings"
	"testing"

	"loop.example/construer/impl"
)

// textOfDoubts writes a Doubt as its two symbols.
func textOfDoubts(list []impl.Doubt) string {
	var texts []string
	for _, d := range list {
		texts = append(texts, d.Left+d.Ahead)
	}
	return strings.Join(texts, " ")
}

// The functions from here to run are the document's definitions, written out.

func wantAhead(g impl.Gram, at int) string {
	r := g.Rules[at]
	with, none := wantFirst(g, r.Right)
	if none {
		with += wantFollow(g, r.Left)
	}
	set := ""
	for _, b := range "$" + smalls {
		if strings.ContainsRune(with, b) {
			set += string(b)
		}
	}
	return set
}

// forecast is a valid grammar and, for each of its productions, the lookaheads with which it is predicted.
type forecast struct {
	g      impl.Gram
	aheads []string
}

func forecastOf(g impl.Gram) forecast {
	f := forecast{g: g}
	for at := range g.Rules {
		f.aheads = append(f.aheads, wantAhead(g, at))
	}
	return f
}

// picks returns all productions of left that are predicted with ahead.
func (f forecast) picks(left, ahead string) []int {
	var all []int
	for at, r := range f.g.Rules {
		if r.Left == left && strings.Contains(f.aheads[at], ahead) {
			all = append(all, at)
		}
	}
	return all
}

func (f forecast) doubts() []impl.Doubt {
	var doubts []impl.Doubt
	for _, left := range symbolsOf(f.g, bigs) {
		for _, ahead := range "$" + symbolsOf(f.g, smalls) {
			if len(f.picks(string(left), string(ahead))) > 1 {
				doubts = append(doubts, impl.Doubt{Left: string(left), Ahead: string(ahead)})
			}
		}
	}
	return doubts
}

// descend parses a symbol at a position. It ends without a panic.
func (f forecast) descend(sign, text string, at, limit int) (impl.Tree, int, int) {
	ahead := (text + "$")[at : at+1]
	if oneOf(sign, smalls) {
		if sign != ahead {
			return impl.Tree{}, at, 1
		}
		return leaf(sign), at + 1, 0
	}
	if limit < 1 {
		return impl.Tree{}, at, 4
	}
	picks := f.picks(sign, ahead)
	if len(picks) == 0 {
		return impl.Tree{}, at, 1
	}
	tree := node(sign, picks[0])
	for _, b := range f.g.Rules[picks[0]].Right {
		kid, next, code := f.descend(string(b), text, at, limit-1)
		if code != 0 {
			return impl.Tree{}, next, code
		}
		tree.Kids = append(tree.Kids, kid)
		at = next
	}
	return tree, at, 0
}

func (f forecast) run(text string) (impl.Tree, int, int) {
	if !isText(text) {
		return impl.Tree{}, 0, 3
	}
	if len(f.doubts()) != 0 {
		return impl.Tree{}, 0, 2
	}
	tree, at, code := f.descend(f.g.Start, text, 0, 40)
	if code == 0 && at != len(text) {
		return impl.Tree{}, at, 1
	}
	return tree, at, code
}

func TestBoundOfDescents(t *testing.T) {
	if impl.DownMost != 40 {
		t.Error(impl.DownMost)
	}
}

// downExample is the chapter's example.
const downExample = "A\nA>BC\nB>a\nB>cAd\nC>bBC\nC>\n"

// allAhead is a grammar in which a production is predicted with everything that may be ahead.
const allAhead = "A\nA>BBBB\nB>\nB>a\nB>b\nB>c\nB>d\nB>C\nC>\n"

// aheadCases are written out by hand: the lookaheads of each production, and the conflicts.
var aheadCases = []struct {
	why    string
	gram   string
	aheads []string
	doubts string
}{
	{"the chapter's example", downExample, []string{"ac", "a", "c", "b", "$d"}, ""},
	{"the example of chapter 1", "A\nA>aAb\nA>\n", []string{"a", "$b"}, ""},
	{"nothing at the end", "A\nA>\n", []string{"$"}, ""},
	{"no productions", "A\n", nil, ""},
	{"nothing, and a terminal behind it", "A\nA>Ba\nB>\n", []string{"a", "a"}, ""},
	{"parts that may be nothing", "A\nA>BCD\nB>b\nB>\nC>c\nC>\nD>d\nD>\n", []string{"$bcd", "b", "$cd", "c", "$d", "d", "$"}, ""},
	{"nothing by way of others", "A\nA>B\nA>a\nB>C\nC>\n", []string{"$", "a", "$", "$"}, ""},
	{"other terminals behind nothing each time", "A\nA>BaBb\nB>c\nB>\n", []string{"ac", "c", "ab"}, ""},
	{"first and behind it, the same terminal", "A\nA>Bc\nB>C\nC>c\nC>D\nD>\n", []string{"c", "c", "c", "c", "c"}, "Cc"},
	{"two productions of nothing", "A\nA>B\nA>C\nB>\nC>\n", []string{"$", "$", "$", "$"}, "A$"},
	{"two productions of nothing, one of them itself empty", "A\nA>B\nA>\nB>\n", []string{"$", "$", "$"}, "A$"},
	{"two productions of nothing, with a terminal behind", "A\nA>aBb\nB>C\nB>D\nC>\nD>\n", []string{"a", "b", "b", "b", "b"}, "Bb"},
	{"two productions of nothing, with nothing behind", "A\nA>a\nB>\nB>C\nC>\n", []string{"a", "", "", ""}, ""},
	{"two productions of nothing in front of what derives nothing at all", "E\nE>aAB\nA>A\nA>\n", []string{"a", "", ""}, ""},
	{"nothing, or a terminal that stands behind", "A\nA>aAB\nA>c\nB>bA\nB>\n", []string{"a", "c", "b", "$b"}, "Bb"},
	{"begins with itself", "A\nA>Aa\n", []string{""}, ""},
	{"is itself", "A\nA>A\n", []string{""}, ""},
	{"begins with itself, or a terminal", "A\nA>Aa\nA>b\n", []string{"b", "b"}, "Ab"},
	{"begins with itself, or nothing", "A\nA>Aa\nA>\n", []string{"a", "$a"}, "Aa"},
	{"itself, or nothing", "A\nA>A\nA>\n", []string{"$", "$"}, "A$"},
	{"itself, or a terminal", "A\nA>A\nA>a\n", []string{"a", "a"}, "Aa"},
	{"itself twice, nothing, or a terminal", "A\nA>AA\nA>\nA>a\n", []string{"$a", "$a", "a"}, "A$ Aa"},
	{"begins with itself by another", "A\nA>B\nB>A\nB>b\n", []string{"b", "b", "b"}, "Bb"},
	{"begins with itself by another, the other way", "A\nA>B\nA>b\nB>A\n", []string{"b", "b", "b"}, "Ab"},
	{"begins with itself by another, and derives nothing at all", "A\nA>Bb\nB>Aa\n", []string{"", ""}, ""},
	{"begins with itself behind nothing", "A\nA>BA\nA>a\nB>\n", []string{"a", "a", "a"}, "Aa"},
	{"begins with itself behind nothing, and derives nothing at all", "A\nA>BAa\nB>\n", []string{"", ""}, ""},
	{"begins with itself behind what may be nothing", "A\nA>BAb\nB>c\nB>\n", []string{"c", "c", "c"}, "Bc"},
	{"a nonterminal without productions", "A\nA>aB\nA>B\nB>C\n", []string{"a", "", ""}, ""},
	{"in front of a nonterminal without productions", "A\nA>BCD\nB>\nC>c\n", []string{"c", "c", "c"}, ""},
	{"of a nonterminal that is not reached", "A\nA>a\nB>b\nB>bb\n", []string{"a", "b", "b"}, "Bb"},
	{"begins with itself, and is not reached", "B\nB>b\nA>Aa\nA>\n", []string{"b", "a", "a"}, "Aa"},
	{"what stands behind it in a production that is not reached", "A\nA>aB\nB>b\nB>\nC>Bb\n", []string{"a", "b", "$b", "b"}, "Bb"},
	{"what is first in a production in vain", "A\nA>a\nA>B\nB>aB\n", []string{"a", "a", "a"}, "Aa"},
	{"three productions, one conflict", "A\nA>a\nA>ab\nA>aa\n", []string{"a", "a", "a"}, "Aa"},
	{"conflicts in their order", "E\nE>d\nE>dE\nE>A\nA>c\nA>BB\nA>cA\nB>\nB>b\n", []string{"d", "d", "$bc", "c", "$b", "c", "$b", "b"}, "Ac Bb Ed"},
	{"as many conflicts as one nonterminal may have", allAhead, []string{"$abcd", "$abcd", "a", "b", "c", "d", "$abcd", "$abcd"}, "B$ Ba Bb Bc Bd"},
	{"as many productions as there may be", "A\nA>a\nA>b\nA>c\nA>d\nB>a\nB>b\nB>c\nB>d\n", []string{"a", "b", "c", "d", "a", "b", "c", "d"}, ""},
	{"conflicts of two nonterminals that may be nothing", "A\nA>aBd\nB>\nB>CC\nC>b\nC>\n", []string{"a", "d", "bd", "b", "bd"}, "Bd Cb"},
}

func TestAheadsWrittenOutByHand(t *testing.T) {
	for _, c := range aheadCases {
		g := read(t, c.gram)
		if len(c.aheads) != len(g.Rules) {
			t.Fatal(c.why)
		}
		for at, want := range c.aheads {
			if got := impl.DownAhead(g, at); got != want {
				t.Errorf("%s: DownAhead of %d is %q, want %q", c.why, at, got, want)
			}
		}
		if got := textOfDoubts(impl.DownDoubts(g)); got != c.doubts {
			t.Errorf("%s: conflicts %s, want %s", c.why, got, c.doubts)
		}
		checkAheads(t, forecastOf(g))
	}
}

// checkAheads compares DownAhead, DownPick and DownDoubts with the definitions.
func checkAheads(t *testing.T, f forecast) {
	t.Helper()
	g := f.g
	for at, want := range f.aheads {
		if got := impl.DownAhead(g, at); got != want {
			t.Errorf("DownAhead(%q, %d) = %q, want %q", g, at, got, want)
		}
	}
	for _, at := range []int{-1, -2, len(g.Rules), len(g.Rules) + 1} {
		if got := impl.DownAhead(g, at); got != "" {
			t.Errorf("DownAhead(%q, %d) = %q", g, at, got)
		}
	}
	for _, left := range strings.Split(bigs, "") {
		for _, ahead := range strings.Split("$"+smalls, "") {
			want, found := 0, false
			if picks := f.picks(left, ahead); len(picks) != 0 {
				want, found = picks[0], true
			}
			if got, ok := impl.DownPick(g, left, ahead); got != want || ok != found {
				t.Errorf("DownPick(%q, %q, %q) = %d, %v, want %d, %v", g, left, ahead, got, ok, want, found)
			}
		}
	}
	if got, want := impl.DownDoubts(g), f.doubts(); !slices.Equal(got, want) {
		t.Errorf("DownDoubts(%q) = %v, want %v", g, got, want)
	}
}

func TestPicksWrittenOutByHand(t *testing.T) {
	for _, c := range []struct {
		gram  string
		picks string // of each nonterminal that has any: it, and for each lookahead the lookahead and the production
	}{
		{downExample, "A:a0c0 B:a1c2 C:$4b3d4"},
		{"A\nA>aAb\nA>\n", "A:$1a0b1"},
		{"A\nB>b\nA>c\nB>a\nA>a\n", "A:a3c1 B:a2b0"},
		// Of several productions, the first.
		{"A\nA>ab\nA>a\nA>aa\n", "A:a0"},
		{"A\nB>a\nA>B\nA>a\n", "A:a1 B:a0"},
		{"A\nB>a\nA>a\nA>B\n", "A:a1 B:a0"},
		{"A\nA>AA\nA>\nA>a\n", "A:$0a0"},
		{"A\nA>\nA>a\nA>AA\n", "A:$0a0"},
		{"A\nA>a\nA>\nA>AA\n", "A:$1a0"},
		{allAhead, "A:$0a0b0c0d0 B:$1a1b1c1d1 C:$7a7b7c7d7"},
		{"D\nE>d\nD>E\nD>\nA>\n", "D:$2d1 E:d0"},
		{"A\nA>Aa\n", ""},
		{"A\n", ""},
	} {
		g := read(t, c.gram)
		var all []string
		for _, left := range strings.Split(bigs, "") {
			text := left + ":"
			for _, ahead := range strings.Split("$"+smalls, "") {
				if at, ok := impl.DownPick(g, left, ahead); ok {
					text += ahead + strconv.Itoa(at)
				} else if at != 0 {
					t.Errorf("%q: DownPick of %s and %s is %d, but none", c.gram, left, ahead, at)
				}
			}
			if text != left+":" {
				all = append(all, text)
			}
		}
		if got := strings.Join(all, " "); got != c.picks {
			t.Errorf("%q: %s, want %s", c.gram, got, c.picks)
		}
	}
}

func TestPicksOfWhatIsNoSymbol(t *testing.T) {
	for _, gram := range []string{allAhead, downExample, "A\nA>AA\nA>\nA>a\n", "A\nA>\n", "A\n", "E\nE>EEEE\nE>a\nE>b\nE>c\nE>d\nE>\n"} {
		g := read(t, gram)
		check := func(left, ahead string) {
			if at, ok := impl.DownPick(g, left, ahead); at != 0 || ok {
				t.Errorf("DownPick(%q, %.20q, %.20q) = %d, %v", g, left, ahead, at, ok)
			}
		}
		for _, ahead := range strings.Split("$"+smalls, "") {
			for _, left := range append(strings.Split("$"+smalls, ""), noSigns...) {
				check(left, ahead)
			}
		}
		for _, left := range strings.Split(bigs, "") {
			for _, ahead := range append(strings.Split(bigs, ""), noSigns...) {
				check(left, ahead)
			}
		}
		for _, sign := range noSigns {
			check(sign, sign)
		}
	}
}

func TestAheadsOfNoProduction(t *testing.T) {
	for _, gram := range []string{allAhead, downExample, "A\nA>\n", "A\n"} {
		g := read(t, gram)
		for _, at := range numbersAround(len(g.Rules)) {
			if got := impl.DownAhead(g, at); (got != "") != (0 <= at && at < len(g.Rules)) {
				t.Errorf("DownAhead(%q, %d) = %q", g, at, got)
			}
		}
	}
}

func TestAheadsOfManyGrams(t *testing.T) {
	free, doubtful := 0, 0
	for _, g := range slices.Concat(manyGrams(), liveGrams(), plainGrams()) {
		f := forecastOf(g)
		checkAheads(t, f)
		if len(f.doubts()) == 0 {
			free++
			continue
		}
		doubtful++
		for _, text := range []string{"", "a", "ab"} {
			checkNoDown(t, g, text, 2)
		}
	}
	if free < 300 || doubtful < 300 {
		t.Errorf("%d grammars without a conflict, %d with one", free, doubtful)
	}
}

// checkNoDown expects a code with which nothing else is returned.
func checkNoDown(t *testing.T, g impl.Gram, text string, code int) {
	t.Helper()
	if tree, n, got := impl.DownRun(g, text); !isZeroTree(tree) || n != 0 || got != code {
		t.Errorf("DownRun(%q, %.20q) = %v, %d, %d, want %d", g, text, tree, n, got, code)
	}
}

// downCases are runs written out by hand. A tree is given for those that end with RunFine; the others end with RunBad.
var downCases = []struct {
	gram string
	text string
	read int
	tree string
}{
	// The chapter's example: strings separated by b, each a or another such list between c and d.
	{downExample, "abcad", 5, "[0[1a][3b[2c[0[1a][4]]d][4]]]"},
	{downExample, "a", 1, "[0[1a][4]]"},
	{downExample, "cad", 3, "[0[2c[0[1a][4]]d][4]]"},
	{downExample, "ccadd", 5, "[0[2c[0[2c[0[1a][4]]d][4]]d][4]]"},
	{downExample, "aba", 3, "[0[1a][3b[1a][4]]]"},
	{downExample, "abababa", 7, "[0[1a][3b[1a][3b[1a][3b[1a][4]]]]]"},
	{downExample, "abd", 2, ""},
	{downExample, "aa", 1, ""},
	{downExample, "", 0, ""},
	{downExample, "b", 0, ""},
	{downExample, "d", 0, ""},
	{downExample, "ab", 2, ""},
	{downExample, "ca", 2, ""},
	{downExample, "cab", 3, ""},
	{downExample, "cadd", 3, ""},
	{downExample, "ad", 1, ""},
	{downExample, "caa", 2, ""},
	{downExample, "abababab", 8, ""},
	{downExample, "cccccccc", 8, ""},
	{downExample, "ccccaddd", 8, ""},
	// The example of chapter 1.
	{"A\nA>aAb\nA>\n", "", 0, "[1]"},
	{"A\nA>aAb\nA>\n", "ab", 2, "[0a[1]b]"},
	{"A\nA>aAb\nA>\n", "aaaabbbb", 8, "[0a[0a[0a[0a[1]b]b]b]b]"},
	{"A\nA>aAb\nA>\n", "a", 1, ""},
	{"A\nA>aAb\nA>\n", "aab", 3, ""},
	{"A\nA>aAb\nA>\n", "abb", 2, ""},
	{"A\nA>aAb\nA>\n", "aba", 2, ""},
	{"A\nA>aAb\nA>\n", "b", 0, ""},
	{"A\nA>aAb\nA>\n", "c", 0, ""},
	{"A\nA>aAb\nA>\n", "ac", 1, ""},
	{"A\nA>aAb\nA>\n", "aaaaaaaa", 8, ""},
	{"A\nA>aAb\nA>\n", "aaaabbbc", 7, ""},
	// Nothing that is predicted by what stands behind, or by the end.
	{"A\nA>\n", "", 0, "[0]"},
	{"A\nA>\n", "a", 0, ""},
	{"A\nA>Ba\nB>\n", "a", 1, "[0[1]a]"},
	{"A\nA>Ba\nB>\n", "", 0, ""},
	{"A\nA>Ba\nB>\n", "aa", 1, ""},
	{"A\nA>Ba\nB>\n", "b", 0, ""},
	{"A\nA>aBb\nB>\n", "ab", 2, "[0a[1]b]"},
	{"A\nA>aBb\nB>\n", "a", 1, ""},
	{"A\nA>aBb\nB>\n", "aa", 1, ""},
	{"A\nA>aBb\nB>\n", "abb", 2, ""},
	{"A\nA>aB\nB>\n", "a", 1, "[0a[1]]"},
	{"A\nA>aB\nB>\n", "aa", 1, ""},
	{"A\nA>BCB\nB>\nC>\n", "", 0, "[0[1][2][1]]"},
	{"A\nA>BCB\nB>\nC>\n", "a", 0, ""},
	{"A\nA>BaBb\nB>c\nB>\n", "ab", 2, "[0[2]a[2]b]"},
	{"A\nA>BaBb\nB>c\nB>\n", "cacb", 4, "[0[1c]a[1c]b]"},
	{"A\nA>BaBb\nB>c\nB>\n", "acb", 3, "[0[2]a[1c]b]"},
	{"A\nA>BaBb\nB>c\nB>\n", "cb", 1, ""},
	{"A\nA>BaBb\nB>c\nB>\n", "aab", 1, ""},
	{"A\nA>BaBb\nB>c\nB>\n", "b", 0, ""},
	{"A\nA>BaBb\nB>c\nB>\n", "cac", 3, ""},
	// Nothing by way of others, and the productions of nothing are not the first ones.
	{"A\nA>B\nA>a\nB>C\nC>\n", "", 0, "[0[2[3]]]"},
	{"A\nA>B\nA>a\nB>C\nC>\n", "a", 1, "[1a]"},
	{"A\nA>B\nA>a\nB>C\nC>\n", "aa", 1, ""},
	{"A\nA>B\nA>a\nB>C\nC>\n", "b", 0, ""},
	{"C\nA>a\nC>bAC\nA>BB\nC>\nB>\n", "bab", 3, "[1b[0a][1b[2[4][4]][3]]]"},
	// Parts each of which may be nothing.
	{"A\nA>BCD\nB>b\nB>\nC>c\nC>\nD>d\nD>\n", "", 0, "[0[2][4][6]]"},
	{"A\nA>BCD\nB>b\nB>\nC>c\nC>\nD>d\nD>\n", "c", 1, "[0[2][3c][6]]"},
	{"A\nA>BCD\nB>b\nB>\nC>c\nC>\nD>d\nD>\n", "bd", 2, "[0[1b][4][5d]]"},
	{"A\nA>BCD\nB>b\nB>\nC>c\nC>\nD>d\nD>\n", "bcd", 3, "[0[1b][3c][5d]]"},
	{"A\nA>BCD\nB>b\nB>\nC>c\nC>\nD>d\nD>\n", "cb", 1, ""},
	{"A\nA>BCD\nB>b\nB>\nC>c\nC>\nD>d\nD>\n", "bb", 1, ""},
	{"A\nA>BCD\nB>b\nB>\nC>c\nC>\nD>d\nD>\n", "dd", 1, ""},
	{"A\nA>BCD\nB>b\nB>\nC>c\nC>\nD>d\nD>\n", "a", 0, ""},
	// Lists, and choices by the first terminal through other nonterminals.
	{"A\nA>aA\nA>\n", "aaa", 3, "[0a[0a[0a[1]]]]"},
	{"A\nA>aA\nA>\n", "ab", 1, ""},
	{"A\nA>aA\nA>b\n", "aab", 3, "[0a[0a[1b]]]"},
	{"A\nA>aA\nA>b\n", "aa", 2, ""},
	{"A\nA>aA\nA>b\n", "bb", 1, ""},
	{"A\nA>aAbA\nA>\n", "abab", 4, "[0a[1]b[0a[1]b[1]]]"},
	{"A\nA>aAbA\nA>\n", "aabb", 4, "[0a[0a[1]b[1]]b[1]]"},
	{"A\nA>aAbA\nA>\n", "abba", 2, ""},
	{"A\nA>B\nA>C\nB>aD\nC>cD\nD>bA\nD>\n", "abc", 3, "[0[2a[4b[1[3c[5]]]]]]"},
	{"A\nA>B\nA>C\nB>aD\nC>cD\nD>bA\nD>\n", "ac", 1, ""},
	{"A\nA>B\nA>C\nB>aD\nC>cD\nD>bA\nD>\n", "cb", 2, ""},
	{"A\nA>aaaa\nA>baab\n", "baab", 4, "[1baab]"},
	{"A\nA>aaaa\nA>baab\n", "aaab", 3, ""},
	{"A\nA>aaaa\nA>baab\n", "baa", 3, ""},
	// Start is another one, and there are productions that it does not reach.
	{"D\nA>a\nB>D\n", "a", 0, ""},
	{"D\nA>a\nB>D\n", "", 0, ""},
	{"D\nA>a\nD>b\n", "b", 1, "[1b]"},
	{"D\nA>a\nD>b\n", "a", 0, ""},
	{"B\nB>b\nA>A\nA>\n", "b", 1, "[0b]"},
	{"B\nB>b\nA>Aa\n", "b", 1, "[0b]"},
	// Nonterminals without productions, and productions in vain.
	{"A\n", "", 0, ""},
	{"A\n", "a", 0, ""},
	{"A\nA>B\n", "", 0, ""},
	{"A\nA>aB\nA>b\n", "a", 1, ""},
	{"A\nA>aB\nA>b\n", "ab", 1, ""},
	{"A\nA>aB\nA>b\n", "b", 1, "[1b]"},
	{"A\nA>aA\n", "aaa", 3, ""},
	{"A\nA>aA\n", "aab", 2, ""},
	{"A\nA>aA\n", "aaaaaaaa", 8, ""},
	{"A\nA>BCD\nB>\nC>c\n", "c", 1, ""},
	{"A\nA>BCD\nB>\nC>c\n", "cd", 1, ""},
	{"A\nA>BCD\nB>\nC>c\n", "", 0, ""},
	{"A\nA>b\nA>BCD\nB>\nC>c\n", "b", 1, "[0b]"},
	{"A\nA>b\nA>BCD\nB>\nC>c\n", "cc", 1, ""},
	{"E\nE>aAB\nA>A\nA>\n", "a", 1, ""},
	{"E\nE>aAB\nA>A\nA>\n", "aa", 1, ""},
	// What begins with itself is not predicted, or it is only behind a terminal that is read.
	{"A\nA>Aa\n", "", 0, ""},
	{"A\nA>Aa\n", "a", 0, ""},
	{"A\nA>A\n", "", 0, ""},
	{"A\nA>A\n", "a", 0, ""},
	{"A\nA>AA\n", "", 0, ""},
	{"A\nA>B\nB>A\n", "", 0, ""},
	{"A\nA>B\nB>C\nC>Aa\n", "a", 0, ""},
	{"A\nA>BA\nB>\n", "", 0, ""},
	{"A\nA>BAa\nB>\n", "a", 0, ""},
	{"A\nA>BAb\nB>c\n", "c", 1, ""},
	{"A\nA>BAb\nB>c\n", "cccccccc", 8, ""},
	{"A\nA>BAb\nB>c\n", "ccb", 2, ""},
	{"A\nA>aB\nA>b\nB>Bb\n", "ab", 1, ""},
	{"A\nA>aB\nA>b\nB>Bb\n", "b", 1, "[1b]"},
}

func TestDescentsWrittenOutByHand(t *testing.T) {
	for _, c := range downCases {
		g, code := read(t, c.gram), 0
		if c.tree == "" {
			code = 1
		}
		tree, n, got := impl.DownRun(g, c.text)
		if s := impl.TreeText(g, tree); s != c.tree || n != c.read || got != code || c.tree == "" && !isZeroTree(tree) {
			t.Errorf("%q: the tree of %q is %s, %d, %d, want %s, %d, %d", c.gram, c.text, s, n, got, c.tree, c.read, code)
		}
		checkDown(t, forecastOf(g), c.text)
	}
}

// bigDepth is the depth of a tree without its leaves.
func bigDepth(tree impl.Tree) int {
	if oneOf(tree.Sign, smalls) {
		return 0
	}
	deepest := 0
	for _, kid := range tree.Kids {
		deepest = max(deepest, bigDepth(kid))
	}
	return deepest + 1
}

// checkDown compares DownRun with the definition and with what is derived. It returns the code.
func checkDown(t *testing.T, f forecast, text string) int {
	t.Helper()
	g := f.g
	want, count, code := f.run(text)
	tree, n, got := impl.DownRun(g, text)
	if !wantSame(tree, want) || n != count || got != code {
		t.Errorf("DownRun(%q, %q) = %v, %d, %d, want %v, %d, %d", g, text, tree, n, got, want, count, code)
		return code
	}
	switch code {
	case 0:
		checkDescended(t, g, text, tree)
	case 1:
		checkErrorAt(t, g, text, count)
	case 4:
		// Without a conflict, at most five nonterminals are begun between two terminals, each once.
		if count != 8 {
			t.Errorf("%q: %q is too deep after %d terminals", g, text, count)
		}
		if whole, derived := derive(g, text)[part(g.Start, 0, len(text))]; derived && bigDepth(whole) <= 40 {
			t.Errorf("%q: %q has the tree %v, which is not too deep", g, text, whole)
		}
	}
	return code
}

// checkDescended is for a text that is parsed, with the tree that is found.
func checkDescended(t *testing.T, g impl.Gram, text string, tree impl.Tree) {
	t.Helper()
	if !wantIs(g, text) {
		t.Errorf("%q: %q is parsed, but not derived", g, text)
	}
	if tree.Sign != g.Start || !isTreeOf(g, tree) || yieldOf(tree) != text || bigDepth(tree) > 40 {
		t.Errorf("%q: %v is not the tree of %q", g, tree, text)
		return
	}
	if large := depthOf(tree) > 20 || sizeOf(tree) > 60; impl.TreeOk(g, tree) == large {
		t.Errorf("%q: %q has the tree %v, and it is too large: %v", g, text, tree, large)
	}
	checkOnly(t, g, text, tree)
	switch other, _, code := impl.RunOf(g, text); {
	case code == 0 && !wantSame(other, tree):
		t.Errorf("%q: %q is parsed as %v, but with a table as %v", g, text, tree, other)
	case code == 1 || code == 3 || code == 2 && isTrim(g):
		t.Errorf("%q: %q is parsed as %v, but with a table the code is %d", g, text, tree, code)
	}
}

// downGrams have no conflict and no production in vain, and most of them derive infinitely many strings.
var downGrams = []string{
	downExample,
	"A\nA>aAb\nA>\n",
	"A\nA>aAa\nA>bAb\nA>c\n",
	"A\nA>aAbA\nA>\n",
	"A\nA>aA\nA>bB\nA>\nB>aB\nB>bA\n",
	"A\nA>BA\nA>\nB>a\nB>bAc\n",
	"A\nA>BCD\nB>b\nB>\nC>c\nC>\nD>d\nD>\n",
	"A\nA>CB\nB>aCB\nB>\nC>ED\nD>bED\nD>\nE>c\n",
	"A\nA>CB\nB>aCB\nB>\nC>ED\nD>bED\nD>\nE>c\nE>dAd\n",
	"A\nA>aAc\nA>B\nB>bBc\nB>\n",
	"C\nC>BAB\nB>bB\nB>\nA>aA\nA>c\n",
	"D\nD>aD\nD>A\nA>bAc\nA>E\nE>\nE>dE\n",
	"A\nA>BaC\nB>bB\nB>\nC>cC\nC>A\nC>d\n",
	"A\nA>aB\nB>bC\nB>\nC>cA\nC>\n",
	"E\nE>D\nD>aCD\nD>\nC>bCc\nC>\n",
	"A\nA>B\nB>C\nC>D\nD>E\nE>aA\nE>\n",
	"A\nA>B\nA>C\nB>aD\nC>cD\nD>bA\nD>\n",
	"A\nA>aAAb\nA>c\n",
	"A\nA>aAAA\nA>b\nA>cA\nA>d\n",
	"A\nA>BCDE\nB>\nC>\nD>\nE>\n",
	"A\nA>aaaa\nA>baab\n",
	"A\nA>a\nA>bBB\nB>c\nB>dA\n",
	"B\nB>CBd\nB>\nC>aC\nC>b\n",
	"A\nA>BB\nB>aB\nB>b\n",
	"A\nA>BaBb\nB>c\nB>\n",
	"A\nA>Bb\nB>Ca\nB>\nC>cC\nC>d\n",
	"A\nA>aBbC\nB>A\nB>\nC>c\nC>\n",
}

func TestDescentsFindWhatIsDerived(t *testing.T) {
	fine := 0
	for _, gram := range downGrams {
		f := forecastOf(read(t, gram))
		if len(f.doubts()) != 0 || !isTrim(f.g) {
			t.Fatalf("%q does not belong here", gram)
		}
		for _, text := range manyTexts(f.g) {
			switch checkDown(t, f, text) {
			case 0:
				fine++
			case 1:
			default:
				t.Errorf("%q: %q should be parsed", gram, text)
			}
		}
	}
	if fine < 500 {
		t.Errorf("only %d texts are parsed", fine)
	}
}

func TestDescentsFindWhatIsDerivedAlsoFromChangedGrams(t *testing.T) {
	free, vain, doubtful := 0, 0, 0
	codes := map[int]int{}
	for _, g := range changedOnce(t, downGrams, 101) {
		f := forecastOf(g)
		checkAheads(t, f)
		signs := impl.GramSmalls(g)
		texts := append(textsOver(signs, 5-min(3, len(signs))), textsOver(smalls, 1)...)
		switch {
		case len(f.doubts()) != 0:
			doubtful++
			texts = textsOver(signs, 1)
		case !isTrim(g):
			vain++
		default:
			free++
		}
		for _, text := range texts {
			codes[checkDown(t, f, text)]++
		}
	}
	if free < 150 || vain < 100 || doubtful < 100 || codes[0] < 1000 || codes[1] < 3000 {
		t.Errorf("%d grammars, %d with productions in vain, %d with a conflict, and codes %v", free, vain, doubtful, codes)
	}
}

func TestDescentsOfManyGrams(t *testing.T) {
	codes := map[int]int{}
	for i, g := range slices.Concat(manyGrams(), liveGrams(), plainGrams()) {
		f := forecastOf(g)
		if len(f.doubts()) != 0 {
			continue
		}
		for _, text := range slices.Concat(textsOver(smalls[:1+i%4], 2), impl.AllWords(g, 4)) {
			codes[checkDown(t, f, text)]++
		}
	}
	if codes[0] < 500 || codes[1] < 1000 || codes[2] != 0 || codes[3] != 0 {
		t.Error(codes)
	}
}

func TestLongTextsAreDescended(t *testing.T) {
	longest := 0
	for _, gram := range downGrams {
		f := forecastOf(read(t, gram))
		for _, text := range longTexts(f.g, 8, 100) {
			if len(text) == 8 {
				longest++
			}
			if checkDown(t, f, text) != 0 {
				t.Errorf("%q: %q is not parsed", gram, text)
			}
			for _, near := range textsNear(text) {
				checkDown(t, f, near)
			}
		}
	}
	if longest < 30 {
		t.Errorf("only %d of 8 terminals", longest)
	}
}

// The trees are enumerated without chapter 4 and without what is predicted.
func TestEachTreeIsFoundAgain(t *testing.T) {
	found := 0
	grams := changedOnce(t, downGrams, 55)
	for _, gram := range downGrams {
		grams = append(grams, read(t, gram))
	}
	for _, g := range grams {
		if len(impl.DownDoubts(g)) != 0 {
			continue
		}
		for _, tree := range treesOf(g, g.Start, 7, 40) {
			text := yieldOf(tree)
			if len(text) > 8 {
				continue
			}
			found++
			if got, n, code := impl.DownRun(g, text); code != 0 || n != len(text) || !wantSame(got, tree) {
				t.Errorf("%q: %q has the tree %v, but is parsed as %v, %d, %d", g, text, tree, got, n, code)
			}
		}
	}
	if found < 2000 {
		t.Errorf("only %d trees", found)
	}
}

// Without productions in vain, prediction finds an error at the position at which a table finds it.
func TestDescentsAgreeWithTables(t *testing.T) {
	trim, count := 0, 0
	for _, g := range changedOnce(t, downGrams, 7) {
		if len(impl.DownDoubts(g)) != 0 {
			continue
		}
		m := machineOf(g)
		if isTrim(g) {
			trim++
			if m.code == 2 {
				t.Errorf("%q has a conflict in its table, but none in what is predicted", g)
			}
		}
		if m.code != 0 {
			continue
		}
		for _, text := range textsOver(smalls[:3], 4) {
			steps, at, want := m.steps(text)
			tree, n, code := impl.DownRun(g, text)
			if isTrim(g) && n != at || code != want {
				t.Errorf("%q: %q ends with %d, %d, but with a table with %d, %d", g, text, n, code, at, want)
			}
			if made, ok := wantStepsTree(g, text, steps); ok {
				count++
				if !wantSame(tree, made) {
					t.Errorf("%q: %q is parsed as %v, but with a table as %v", g, text, tree, made)
				}
			}
		}
	}
	if trim < 150 || count < 1000 {
		t.Errorf("%d grammars without productions in vain, %d texts that are parsed", trim, count)
	}
}

func TestAmbiguousGramsHaveDoubts(t *testing.T) {
	doubtful := 0
	for _, g := range slices.Concat(itemGrams(), plainGrams()) {
		if word, found := impl.AllDoubt(g, 3); found {
			doubtful++
			if len(impl.DownDoubts(g)) == 0 {
				t.Errorf("%q: %q has several trees, but there is no conflict", g, word)
			}
		}
	}
	if doubtful < 150 {
		t.Errorf("only %d grammars are ambiguous", doubtful)
	}
}

func TestCodesOfDescentsInTheirOrder(t *testing.T) {
	conflict := []string{allAhead}
	for _, c := range aheadCases {
		if c.doubts != "" {
			conflict = append(conflict, c.gram)
		}
	}
	for _, gram := range conflict {
		for _, text := range textsOver("abd", 3) {
			checkNoDown(t, read(t, gram), text, 2)
		}
	}
	for _, gram := range slices.Concat(conflict, downGrams) {
		for _, text := range badForms {
			checkNoDown(t, read(t, gram), text, 3)
		}
	}
	for _, g := range badGrams {
		for _, text := range append([]string{"", "a", "b"}, badForms...) {
			checkNoDown(t, g, text, 3)
		}
	}
}

// A table may have too many states, or a conflict where productions are in vain, though there is none in what is predicted.
func TestDescentsDoNotDependOnTables(t *testing.T) {
	for _, c := range []struct {
		gram, text, tree string
		table            int // the code of RunOf
	}{
		{crowded[1], "cdccc", "[2c[5dc]cc]", 4},
		{crowded[1], "aabcdaa", "[0a[4abcd]aa]", 4},
		{"A\nA>aAab\nA>b\nA>caAA\nA>dbdc\n", "cabb", "[2ca[1b][1b]]", 4},
		{"A\nA>aB\nB>BAba\nA>b\n", "b", "[2b]", 2},
		{"A\nA>\nB>BABa\nA>ABAa\n", "", "[0]", 2},
	} {
		g := read(t, c.gram)
		if _, _, code := impl.RunOf(g, c.text); code != c.table {
			t.Errorf("%q: %q ends with %d, want %d", c.gram, c.text, code, c.table)
		}
		tree, n, code := impl.DownRun(g, c.text)
		if got := impl.TreeText(g, tree); got != c.tree || n != len(c.text) || code != 0 {
			t.Errorf("%q: %q is parsed as %v, %d, %d", c.gram, c.text, tree, n, code)
		}
		checkDown(t, forecastOf(g), c.text)
	}
}

// deepCases are grammars in which nonterminals derive each other in a circle. Each a goes round it once.
var deepCases = []struct {
	why  string
	gram string
	text string
	deep int // the depth of the nonterminals of the tree, for RunFine
	code int
}{
	{"far from the limit", "A\nA>B\nB>C\nC>D\nD>E\nE>aA\nE>\n", "", 5, 0},
	{"not too deep to be a valid tree", "A\nA>B\nB>C\nC>D\nD>E\nE>aA\nE>\n", "aaa", 20, 0},
	{"too deep to be a valid tree", "A\nA>B\nB>C\nC>D\nD>E\nE>aA\nE>\n", "aaaa", 25, 0},
	{"exactly the limit", "A\nA>B\nB>C\nC>D\nD>E\nE>aA\nE>\n", "aaaaaaa", 40, 0},
	{"one more", "A\nA>B\nB>C\nC>D\nD>E\nE>aA\nE>\n", "aaaaaaaa", 0, 4},
	{"one more, in front of nothing that is predicted", "A\nA>B\nB>C\nC>D\nD>E\nE>aA\nE>b\n", "aaaaaaaa", 0, 4},
	{"exactly the limit, in front of nothing that is predicted", "A\nA>B\nB>C\nC>D\nD>E\nE>aA\nE>b\n", "aaaaaaa", 0, 1},
	{"a terminal below the limit", "A\nA>B\nB>C\nC>D\nD>E\nE>aA\nE>b\n", "aaaaaaab", 40, 0},
	{"a wrong terminal below the limit", "A\nA>B\nB>C\nC>D\nD>E\nE>aA\nE>bc\n", "aaaaaaab", 0, 1},
	{"one more, in front of a missing terminal", "A\nA>B\nB>C\nC>D\nD>E\nE>aAb\nE>\n", "aaaaaaaa", 0, 4},
	{"exactly the limit, in front of a missing terminal", "A\nA>B\nB>C\nC>D\nD>E\nE>aAb\nE>\n", "aaaaaaa", 0, 1},
	{"one more, and nothing is derived", "A\nA>B\nB>C\nC>D\nD>E\nE>aA\n", "aaaaaaaa", 0, 4},
	{"exactly the limit, after the most terminals", "E\nE>aA\nA>B\nB>C\nC>D\nD>E\nD>\n", "aaaaaaaa", 40, 0},
	{"one more from E on", "E\nE>aA\nA>B\nB>C\nC>D\nD>E\nE>\n", "aaaaaaaa", 0, 4},
	{"one more from C on", "C\nA>B\nB>C\nC>D\nD>E\nE>aA\nE>\n", "aaaaaaaa", 0, 4},
	{"seven from C on", "C\nA>B\nB>C\nC>D\nD>E\nE>aA\nE>\n", "aaaaaaa", 38, 0},
	{"a smaller circle", "A\nA>B\nB>C\nC>D\nD>aA\nD>\n", "aaaaaaaa", 36, 0},
	{"a smaller circle, by way of the first of two symbols", "A\nA>B\nB>C\nC>DE\nD>aA\nD>\nE>\n", "aaaaaaaa", 36, 0},
	{"a smaller circle, by way of the last of four symbols", "A\nA>B\nB>C\nC>D\nD>EEaA\nD>\nE>\n", "aaaaaaaa", 36, 0},
	{"a smaller circle, by way of the third of four symbols", "A\nA>B\nB>C\nC>D\nD>EaAE\nD>\nE>\n", "aaaaaaaa", 36, 0},
}

func TestExactlyTheMostDepthAndMore(t *testing.T) {
	for _, c := range deepCases {
		g := read(t, c.gram)
		tree, n, code := impl.DownRun(g, c.text)
		if n != len(c.text) || code != c.code || code == 0 && bigDepth(tree) != c.deep || code != 0 && !isZeroTree(tree) {
			t.Errorf("%s: %v of depth %d, %d, %d", c.why, tree, bigDepth(tree), n, code)
		}
		if code == 0 && impl.TreeOk(g, tree) != (c.deep <= 20) {
			t.Errorf("%s: the tree is valid: %v", c.why, impl.TreeOk(g, tree))
		}
		checkDown(t, forecastOf(g), c.text)
		for i := range len(c.text) {
			for _, b := range smalls {
				checkDown(t, forecastOf(g), c.text[:i]+string(b)+c.text[i+1:])
			}
		}
	}
}

func TestLargeTreesOfDescents(t *testing.T) {
	for _, c := range []struct {
		gram, text string
		size       int
	}{
		// D has 2 nodes, C 7 and B 19, so that there is a tree of as many nodes as a valid one may have.
		{"A\nA>aBBB\nB>CCDD\nC>DDD\nD>E\nE>\n", "a", 59},
		{"A\nA>BBBD\nB>CCDD\nC>DDD\nD>E\nE>\n", "", 60},
		{"A\nA>aA\nA>bBBB\nB>CCDD\nC>DDD\nD>E\nE>\n", "ab", 61},
		// Nothing at all, and nothing between eight terminals.
		{"A\nA>BBBB\nB>CCCC\nC>DDDD\nD>EEEE\nE>\n", "", 1 + 4 + 16 + 64 + 256},
		{"A\nA>aBCA\nA>\nB>CCCC\nC>DDDD\nD>EEEE\nE>\n", "aaaaaaaa", 9 + 8*(1+85+21)},
	} {
		g := read(t, c.gram)
		tree, n, code := impl.DownRun(g, c.text)
		if n != len(c.text) || code != 0 || sizeOf(tree) != c.size {
			t.Errorf("%q: a tree of %d nodes, %d, %d", c.gram, sizeOf(tree), n, code)
		}
		if impl.TreeOk(g, tree) != (c.size <= 60) {
			t.Errorf("%q: a tree of %d nodes is valid: %v", c.gram, c.size, impl.TreeOk(g, tree))
		}
		checkDown(t, forecastOf(g), c.text)
	}
}

func TestDownOfInvalidGrams(t *testing.T) {
	for why, g := range badGrams {
		for _, at := range numbersAround(len(g.Rules)) {
			if set := impl.DownAhead(g, at); set != "" {
				t.Errorf("%s: DownAhead of %d is %q", why, at, set)
			}
		}
		for _, left := range append(strings.Split(bigs, ""), g.Start, "a", "", "F", "AA") {
			for _, ahead := range append(strings.Split("$"+smalls, ""), "e", "", "ab") {
				if at, ok := impl.DownPick(g, left, ahead); at != 0 || ok {
					t.Errorf("%s: DownPick of %q and %q is %d, %v", why, left, ahead, at, ok)
				}
			}
		}
		if doubts := impl.DownDoubts(g); len(doubts) != 0 {
			t.Errorf("%s: conflicts %v", why, doubts)
		}
	}
}

func TestDownLeavesItsArgumentsAlone(t *testing.T) {
	// The spare capacity shows a write beyond the length of an argument.
	for _, gram := range []string{downExample, allAhead} {
		g := read(t, gram)
		count := len(g.Rules)
		g.Rules = append(g.Rules, rule("X", "kept"))[:count]
		before := slices.Clone(g.Rules[:count+1])
		impl.DownAhead(g, 4)
		impl.DownPick(g, "C", "d")
		impl.DownDoubts(g)
		impl.DownRun(g, "abcad")
		impl.DownRun(g, "abd")
		if g.Start != "A" || !slices.Equal(g.Rules[:count+1], before) {
			t.Errorf("%q", g.Rules[:count+1])
		}
	}
}

func TestDescendedTreesAreNewMemory(t *testing.T) {
	for _, c := range downCases {
		if c.tree == "" {
			continue
		}
		g := read(t, c.gram)
		one, _, _ := impl.DownRun(g, c.text)
		two, _, _ := impl.DownRun(g, c.text)
		checkShareNothing(t, one, two)
		overwrite(&one)
		three, _, _ := impl.DownRun(g, c.text)
		if impl.TreeText(g, two) != c.tree || impl.TreeText(g, three) != c.tree {
			t.Errorf("%q: %v, %v after the first tree was overwritten", c.gram, two, three)
		}
	}
}

func TestPartsOfDescendedTreesAreNewMemory(t *testing.T) {
	// The same nonterminals derive nothing again and again.
	g := read(t, "A\nA>aBCA\nA>\nB>CCCC\nC>DDDD\nD>EEEE\nE>\n")
	one, _, code := impl.DownRun(g, "aaa")
	if code != 0 || yieldOf(one) != "aaa" {
		t.Fatal(one, code)
	}
	two, _, _ := impl.DownRun(g, "aaa")
	checkShareNothing(t, one, two)
}

func TestDoubtsAreNewMemory(t *testing.T) {
	for _, c := range aheadCases {
		g := read(t, c.gram)
		one, two := impl.DownDoubts(g), impl.DownDoubts(g)
		room := one[:cap(one)]
		for i := range room {
			room[i] = impl.Doubt{Left: "x", Ahead: "x"}
		}
		// A third call might write what is expected over what the second one returned.
		if got := textOfDoubts(two); got != c.doubts {
			t.Errorf("%s: %s after the first conflicts were overwritten", c.why, got)
		}
		if got := textOfDoubts(impl.DownDoubts(g)); got != c.doubts || impl.GramText(g) != c.gram {
			t.Errorf("%s: %s of %q after the first conflicts were overwritten", c.why, got, g)
		}
	}
}
