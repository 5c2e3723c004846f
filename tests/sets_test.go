package tests

import (
	"slices"
	"strings"
	"testing"

	"loop.example/construer/impl"
)

// The tests of this file compare the program with the definitions themselves: the smallest set with a property is the
// intersection of all sets that have it, and there are only 32 sets of nonterminals to look at.

// smallest returns the intersection of all sets of nonterminals that are closed, in ascending order.
func smallest(closed func(set string) bool) string {
	common := bigs
	for bits := range 1 << len(bigs) {
		set := ""
		for i := range len(bigs) {
			if bits>>i&1 == 1 {
				set += bigs[i : i+1]
			}
		}
		if closed(set) {
			common = strings.Map(func(b rune) rune {
				if strings.ContainsRune(set, b) {
					return b
				}
				return -1
			}, common)
		}
	}
	return common
}

func within(signs, set string) bool {
	return strings.Trim(signs, set) == "" && (set != "" || signs == "")
}

func wantNone(g impl.Gram) string {
	return smallest(func(set string) bool {
		return !slices.ContainsFunc(g.Rules, func(r impl.Rule) bool {
			return within(r.Right, set) && !within(r.Left, set)
		})
	})
}

func wantMade(g impl.Gram) string {
	return smallest(func(set string) bool {
		return !slices.ContainsFunc(g.Rules, func(r impl.Rule) bool {
			return within(r.Right, set+smalls) && !within(r.Left, set)
		})
	})
}

func wantMet(g impl.Gram) string {
	return smallest(func(set string) bool {
		return within(g.Start, set) && !slices.ContainsFunc(g.Rules, func(r impl.Rule) bool {
			return within(r.Left, set) && !within(r.Right, set+smalls)
		})
	})
}

// opens reports whether FIRST of signs contains the terminal, where none is the nullable set and with the set of the
// nonterminals whose FIRST sets contain the terminal.
func opens(signs, terminal, none, with string) bool {
	for i := range len(signs) {
		if s := signs[i : i+1]; s == terminal || within(s, with) {
			return true
		} else if !within(s, none) {
			return false
		}
	}
	return false
}

// openers returns the nonterminals whose FIRST sets contain the terminal.
func openers(g impl.Gram, terminal string) string {
	none := wantNone(g)
	return smallest(func(set string) bool {
		return !slices.ContainsFunc(g.Rules, func(r impl.Rule) bool {
			return opens(r.Right, terminal, none, set) && !within(r.Left, set)
		})
	})
}

func wantFirst(g impl.Gram, signs string) (string, bool) {
	none, set := wantNone(g), ""
	for _, b := range smalls {
		if terminal := string(b); opens(signs, terminal, none, openers(g, terminal)) {
			set += terminal
		}
	}
	return set, within(signs, none)
}

// followed returns the nonterminals whose FOLLOW sets contain mark.
func followed(g impl.Gram, mark string) string {
	none, with := wantNone(g), openers(g, mark)
	return smallest(func(set string) bool {
		if mark == "$" && !within(g.Start, set) {
			return false
		}
		for _, r := range g.Rules {
			for i := range len(r.Right) {
				sign, rest := r.Right[i:i+1], r.Right[i+1:]
				needed := opens(rest, mark, none, with) || within(rest, none) && within(r.Left, set)
				if needed && within(sign, bigs) && !within(sign, set) {
					return false
				}
			}
		}
		return true
	})
}

func wantFollow(g impl.Gram, sign string) string {
	set := ""
	for _, b := range "$" + smalls {
		if within(sign, followed(g, string(b))) {
			set += string(b)
		}
	}
	return set
}

// setGrams are grammars with their sets, written out by hand.
var setGrams = []struct {
	why             string
	text            string
	none, made, met string
	firsts          map[string]string // of each nonterminal, if not empty
	follows         map[string]string
	trim            string
}{
	{
		"the example of chapter 2", "A\nA>BC\nB>a\nB>\nC>c\n",
		"B", "ABC", "ABC",
		map[string]string{"A": "ac", "B": "a", "C": "c"},
		map[string]string{"A": "$", "B": "c", "C": "$"},
		"A\nA>BC\nB>a\nB>\nC>c\n",
	},
	{
		"nullable by way of others only", "A\nA>BC\nB>DD\nC>D\nD>E\nE>\nE>a\n",
		"ABCDE", "ABCDE", "ABCDE",
		map[string]string{"A": "a", "B": "a", "C": "a", "D": "a", "E": "a"},
		map[string]string{"A": "$", "B": "$a", "C": "$", "D": "$a", "E": "$a"},
		"A\nA>BC\nB>DD\nC>D\nD>E\nE>\nE>a\n",
	},
	{
		"a nonterminal that only derives itself", "A\nA>a\nA>B\nB>B\n",
		"", "A", "AB",
		map[string]string{"A": "a"},
		map[string]string{"A": "$", "B": "$"},
		"A\nA>a\n",
	},
	{
		"a start that only derives itself", "A\nA>A\nB>b\n",
		"", "B", "A",
		map[string]string{"B": "b"},
		map[string]string{"A": "$"},
		"A\n",
	},
	{
		"a circle without a way out", "A\nA>B\nB>C\nC>A\n",
		"", "", "ABC",
		nil,
		map[string]string{"A": "$", "B": "$", "C": "$"},
		"A\n",
	},
	{
		"a circle with a way out at its end", "A\nA>B\nB>C\nC>A\nC>c\nA>\n",
		"ABC", "ABC", "ABC",
		map[string]string{"A": "c", "B": "c", "C": "c"},
		map[string]string{"A": "$", "B": "$", "C": "$"},
		"A\nA>B\nB>C\nC>A\nC>c\nA>\n",
	},
	{
		"what follows goes round a circle", "A\nA>Bd\nB>aC\nC>bB\nC>\n",
		"C", "ABC", "ABC",
		map[string]string{"A": "a", "B": "a", "C": "b"},
		map[string]string{"A": "$", "B": "d", "C": "d"},
		"A\nA>Bd\nB>aC\nC>bB\nC>\n",
	},
	{
		"nonterminals without a production", "A\nA>aB\nA>b\nC>D\n",
		"", "A", "AB",
		map[string]string{"A": "ab"},
		map[string]string{"A": "$", "B": "$"},
		"A\nA>b\n",
	},
	{
		"no production at all", "C\n",
		"", "", "C",
		nil,
		map[string]string{"C": "$"},
		"C\n",
	},
	{
		"a FIRST set past a nonterminal that is always empty", "A\nA>aA\nA>Bd\nB>\n",
		"B", "AB", "AB",
		map[string]string{"A": "ad"},
		map[string]string{"A": "$", "B": "d"},
		"A\nA>aA\nA>Bd\nB>\n",
	},
	{
		"an unproductive nonterminal still has a FIRST set", "A\nA>aA\nA>bAB\nB>c\n",
		"", "B", "AB",
		map[string]string{"A": "ab", "B": "c"},
		map[string]string{"A": "$c", "B": "$c"},
		"A\n",
	},
	{
		"behind a symbol are only nullable symbols", "A\nA>BCDC\nB>b\nC>c\nC>\nD>d\nD>\n",
		"CD", "ABCD", "ABCD",
		map[string]string{"A": "b", "B": "b", "C": "c", "D": "d"},
		map[string]string{"A": "$", "B": "$cd", "C": "$cd", "D": "$c"},
		"A\nA>BCDC\nB>b\nC>c\nC>\nD>d\nD>\n",
	},
	{
		"the last symbol of a Right, of two Lefts", "A\nA>Ba\nB>cC\nA>bC\nC>d\n",
		"", "ABC", "ABC",
		map[string]string{"A": "bc", "B": "c", "C": "d"},
		map[string]string{"A": "$", "B": "a", "C": "$a"},
		"A\nA>Ba\nB>cC\nA>bC\nC>d\n",
	},
	{
		"unreachable productions count for FOLLOW", "A\nA>B\nB>b\nC>Ba\nD>CB\n",
		"", "ABCD", "AB",
		map[string]string{"A": "b", "B": "b", "C": "b", "D": "b"},
		map[string]string{"A": "$", "B": "$a", "C": "b"},
		"A\nA>B\nB>b\n",
	},
	{
		"unreachable once the unproductive is gone", "A\nC>c\nA>a\nA>BC\nB>B\nC>D\nD>d\n",
		"", "ACD", "ABCD",
		map[string]string{"A": "a", "C": "cd", "D": "d"},
		map[string]string{"A": "$", "B": "cd", "C": "$", "D": "$"},
		"A\nA>a\n",
	},
	{
		"the last symbol of a Right, by recursion", "E\nE>EA\nA>a\nE>A\nA>Eb\nE>D\n",
		"", "AE", "ADE",
		map[string]string{"A": "a", "E": "a"},
		map[string]string{"A": "$ab", "D": "$ab", "E": "$ab"},
		"E\nE>EA\nA>a\nE>A\nA>Eb\n",
	},
	{
		"a start that is not productive", "E\nE>EA\nA>a\nE>aD\nA>Ab\n",
		"", "A", "ADE",
		map[string]string{"A": "a", "E": "a"},
		map[string]string{"A": "$ab", "D": "$a", "E": "$a"},
		"E\n",
	},
	{
		"a start in a circle with another, neither productive", "B\nB>Bb\nB>C\nA>a\nC>B\n",
		"", "A", "BC",
		map[string]string{"A": "a"},
		map[string]string{"B": "$b", "C": "$b"},
		"B\n",
	},
	{
		"the order of what is kept", "B\nE>a\nB>AbE\nC>c\nA>E\nB>D\nA>C\nE>\n",
		"AE", "ABCE", "ABCDE",
		map[string]string{"A": "ac", "B": "abc", "C": "c", "E": "a"},
		map[string]string{"A": "b", "B": "$", "C": "b", "D": "$", "E": "$b"},
		"B\nE>a\nB>AbE\nC>c\nA>E\nA>C\nE>\n",
	},
}

func read(t *testing.T, text string) impl.Gram {
	t.Helper()
	g, ok := impl.GramRead(text)
	if !ok {
		t.Fatalf("%q is no text of a grammar", text)
	}
	return g
}

func TestSetsWrittenOutByHand(t *testing.T) {
	for _, c := range setGrams {
		g := read(t, c.text)
		if none, made, met := impl.GramNone(g), impl.GramMade(g), impl.GramMet(g); none != c.none || made != c.made || met != c.met {
			t.Errorf("%s: nullable %q, productive %q, reachable %q", c.why, none, made, met)
		}
		for _, b := range bigs {
			sign := string(b)
			set, none := impl.FirstOf(g, sign)
			if set != c.firsts[sign] || none != strings.Contains(c.none, sign) {
				t.Errorf("%s: FIRST of %s is %q, %v, want %q", c.why, sign, set, none, c.firsts[sign])
			}
			if set := impl.FollowOf(g, sign); set != c.follows[sign] {
				t.Errorf("%s: FOLLOW of %s is %q, want %q", c.why, sign, set, c.follows[sign])
			}
		}
		if trim := impl.GramText(impl.GramTrim(g)); trim != c.trim {
			t.Errorf("%s: trimmed to %q, want %q", c.why, trim, c.trim)
		}
	}
}

// manyGrams adds to someGrams variants in which empty and short right sides are frequent.
func manyGrams() []impl.Gram {
	grams := someGrams()
	for _, g := range grams {
		short := gramOf(g.Start)
		for i, r := range g.Rules {
			r.Right = r.Right[:min(len(r.Right), i%3)]
			if !slices.Contains(short.Rules, r) {
				short.Rules = append(short.Rules, r)
			}
		}
		grams = append(grams, short)
	}
	for _, c := range setGrams {
		if g, ok := impl.GramRead(c.text); ok {
			grams = append(grams, g)
		}
	}
	return grams
}

func TestSetsAreTheSmallest(t *testing.T) {
	for _, g := range manyGrams() {
		if got, want := impl.GramNone(g), wantNone(g); got != want {
			t.Errorf("GramNone(%q) = %q, want %q", g, got, want)
		}
		if got, want := impl.GramMade(g), wantMade(g); got != want {
			t.Errorf("GramMade(%q) = %q, want %q", g, got, want)
		}
		if got, want := impl.GramMet(g), wantMet(g); got != want {
			t.Errorf("GramMet(%q) = %q, want %q", g, got, want)
		}
		for _, b := range bigs {
			sign := string(b)
			if got, want := impl.FollowOf(g, sign), wantFollow(g, sign); got != want {
				t.Errorf("FollowOf(%q, %q) = %q, want %q", g, sign, got, want)
			}
		}
	}
}

func checkFirst(t *testing.T, g impl.Gram, signs string) {
	t.Helper()
	set, none := impl.FirstOf(g, signs)
	if wantSet, wantNone := wantFirst(g, signs); set != wantSet || none != wantNone {
		t.Errorf("FirstOf(%q, %q) = %q, %v, want %q, %v", g, signs, set, none, wantSet, wantNone)
	}
}

func TestFirstSetsAreTheSmallest(t *testing.T) {
	for i, g := range manyGrams() {
		for _, b := range bigs {
			checkFirst(t, g, string(b))
		}
		for _, r := range g.Rules {
			checkFirst(t, g, r.Right)
			checkFirst(t, g, r.Right+r.Right)
			checkFirst(t, g, g.Rules[i%len(g.Rules)].Right+r.Right)
		}
	}
}

func TestFirstOfStrings(t *testing.T) {
	g := read(t, "A\nA>a\nB>b\nB>\nC>c\nC>\nD>BC\nE>E\n")
	cases := []struct {
		signs string
		set   string
		none  bool
	}{
		{"", "", true},
		{"d", "d", false},
		{"da", "d", false},
		{"A", "a", false},
		{"AB", "a", false},
		{"B", "b", true},
		{"BB", "b", true},
		{"BC", "bc", true},
		{"CB", "bc", true},
		{"D", "bc", true},
		{"BCd", "bcd", false},
		{"BCA", "abc", false},
		{"DA", "abc", false},
		{"BdC", "bd", false},
		{"E", "", false},
		{"EA", "", false},
		{"BE", "b", false},
		{"BEA", "b", false},
		{"BBBBBBBC", "bc", true},
		{"BBBBBBBA", "ab", false},
		{"DDDDDDDd", "bcd", false},
		{"abcdabcd", "a", false},
	}
	for _, c := range cases {
		if set, none := impl.FirstOf(g, c.signs); set != c.set || none != c.none {
			t.Errorf("FIRST of %q is %q, %v, want %q, %v", c.signs, set, none, c.set, c.none)
		}
	}
}

func TestFirstOfWhatIsNoStringOfSymbols(t *testing.T) {
	g := read(t, "A\nA>a\nB>b\nB>\n")
	signs := []string{
		"$", "e", "F", "@", "`", " ", "\n", "\x00", "\xff", "\xc1", "\u0141", "A>a",
		"a$", "aF", "a\x00", "B$", "$B", "Be", "BBBBBBBe", "aaaaaaa\xff",
		"BBBBBBBBB", "aaaaaaaaa", "aBBBBBBBB", strings.Repeat("B", 1000),
	}
	for _, s := range signs {
		if set, none := impl.FirstOf(g, s); set != "" || none {
			t.Errorf("FirstOf %q = %q, %v", s, set, none)
		}
	}
	if set, none := impl.FirstOf(g, strings.Repeat("B", 2*impl.RightMost)); set != "b" || !none {
		t.Errorf("%q, %v", set, none)
	}
	if set, none := impl.FirstOf(g, strings.Repeat("B", 2*impl.RightMost+1)); set != "" || none {
		t.Errorf("%q, %v", set, none)
	}
}

func TestFollowOfWhatIsNoNonterminal(t *testing.T) {
	for _, g := range manyGrams()[:50] {
		for _, s := range []string{"", "a", "d", "$", "F", "@", "AB", "AA", "A ", "\x00", "\xff", "\u0141", strings.Repeat("A", 1000)} {
			if set := impl.FollowOf(g, s); set != "" {
				t.Errorf("FollowOf(%q, %q) = %q", g, s, set)
			}
		}
	}
}

func TestSetsOfInvalidGrams(t *testing.T) {
	for why, g := range badGrams {
		if impl.GramNone(g) != "" || impl.GramMade(g) != "" || impl.GramMet(g) != "" {
			t.Errorf("%s: %q, %q, %q", why, impl.GramNone(g), impl.GramMade(g), impl.GramMet(g))
		}
		for _, signs := range []string{"", "a", "A", "Aa", "aF", "aaaaaaaaa"} {
			if set, none := impl.FirstOf(g, signs); set != "" || none {
				t.Errorf("%s: FIRST of %q is %q, %v", why, signs, set, none)
			}
		}
		for _, sign := range []string{"", "a", "A", "B", g.Start} {
			if set := impl.FollowOf(g, sign); set != "" {
				t.Errorf("%s: FOLLOW of %q is %q", why, sign, set)
			}
		}
		if got := impl.GramTrim(g); !isZeroGram(got) {
			t.Errorf("%s: trimmed to %q", why, got)
		}
	}
}

func TestGramTrimOfManyGrams(t *testing.T) {
	for _, g := range manyGrams() {
		made := wantMade(g)
		useful := gramOf(g.Start)
		for _, r := range g.Rules {
			if within(r.Left, made) && within(r.Right, made+smalls) {
				useful.Rules = append(useful.Rules, r)
			}
		}
		met := wantMet(useful)
		want := gramOf(g.Start)
		for _, r := range useful.Rules {
			if within(r.Left, met) {
				want.Rules = append(want.Rules, r)
			}
		}
		got := impl.GramTrim(g)
		if got.Start != want.Start || !slices.Equal(got.Rules, want.Rules) {
			t.Errorf("GramTrim(%q) = %q, want %q", g, got, want)
		}
		if again := impl.GramTrim(got); !impl.GramSame(again, got) {
			t.Errorf("GramTrim(%q) = %q", got, again)
		}
	}
}

// formsFrom returns strings of symbols that are derived from signs: as many as limit, and none longer than longest.
func formsFrom(g impl.Gram, signs string, longest, limit int) []string {
	forms := []string{signs}
	seen := map[string]bool{signs: true}
	for at := 0; at < len(forms) && len(forms) < limit; at++ {
		form := forms[at]
		for i := range len(form) {
			for _, r := range g.Rules {
				next := form[:i] + r.Right + form[i+1:]
				if r.Left == form[i:i+1] && len(next) <= longest && !seen[next] {
					seen[next] = true
					forms = append(forms, next)
				}
			}
		}
	}
	return forms
}

func TestSetsDescribeWhatIsDerived(t *testing.T) {
	for _, g := range manyGrams() {
		for _, b := range bigs {
			sign := string(b)
			first, none := impl.FirstOf(g, sign)
			for _, form := range formsFrom(g, sign, 8, 200) {
				if form == "" && (!none || !strings.Contains(impl.GramNone(g), sign)) {
					t.Errorf("%q: %s derives the empty string", g, sign)
				}
				if within(form, smalls) && !strings.Contains(impl.GramMade(g), sign) {
					t.Errorf("%q: %s derives %q", g, sign, form)
				}
				if form != "" && within(form[:1], smalls) && !strings.Contains(first, form[:1]) {
					t.Errorf("%q: %s derives %q", g, sign, form)
				}
			}
		}
		checkFormsFromStart(t, g)
	}
}

// checkFormsFromStart compares the forms that Start derives with the reachable set and the FOLLOW sets.
func checkFormsFromStart(t *testing.T, g impl.Gram) {
	t.Helper()
	met := impl.GramMet(g)
	for _, form := range formsFrom(g, g.Start, 8, 200) {
		ended := form + "$"
		for i := range len(form) {
			sign, next := ended[i:i+1], ended[i+1:i+2]
			if !within(sign, bigs) {
				continue
			}
			if !strings.Contains(met, sign) {
				t.Errorf("%q: Start derives %q", g, form)
			}
			if within(next, "$"+smalls) && !strings.Contains(impl.FollowOf(g, sign), next) {
				t.Errorf("%q: %q stands behind %s in %q", g, next, sign, ended)
			}
		}
	}
}

func TestSetsLeaveTheGramAlone(t *testing.T) {
	// The spare capacity shows a write beyond the length of an argument.
	rules := append(make([]impl.Rule, 0, 16), rule("A", "Ba"), rule("B", ""), rule("C", "c"), rule("B", "b"))
	g := gramOf("A", rules...)
	before := slices.Clone(g.Rules[:cap(g.Rules)])
	first := impl.GramTrim(g)
	if !slices.Equal(first.Rules, []impl.Rule{rule("A", "Ba"), rule("B", ""), rule("B", "b")}) {
		t.Error(first)
	}
	for i := range first.Rules[:cap(first.Rules)] {
		first.Rules[:cap(first.Rules)][i] = rule("E", "d")
	}
	impl.GramNone(g)
	impl.GramMade(g)
	impl.GramMet(g)
	impl.FirstOf(g, "AB")
	impl.FollowOf(g, "B")
	if !slices.Equal(g.Rules[:cap(g.Rules)], before) {
		t.Error("the grammar was modified")
	}
	if again := impl.GramTrim(g); len(again.Rules) != 3 || again.Rules[0] != rule("A", "Ba") {
		t.Error(again)
	}
}

func TestGramTrimOfTrimmedGramIsNewMemory(t *testing.T) {
	g := gramOf("A", rule("A", "aA"), rule("A", ""))
	trim := impl.GramTrim(g)
	trim.Rules[0] = rule("E", "d")
	if g.Rules[0] != rule("A", "aA") {
		t.Error("the result shares memory with the argument")
	}
}
