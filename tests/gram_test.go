package tests

import (
	"reflect"
	"regexp"
	"slices"
	"strings"
	"testing"

	"loop.example/construer/impl"
)

const (
	bigs   = "ABCDE"
	smalls = "abcd"
)

// gramForm and hasTwin say, independently of the program, which texts are texts of valid grammars.
var gramForm = regexp.MustCompile(`\A[A-E]\n([A-E]>[A-Ea-d]{0,4}\n){0,8}\z`)

func hasTwin(text string) bool {
	seen := map[string]bool{}
	for _, line := range strings.Split(text, "\n") {
		if strings.Contains(line, ">") && seen[line] {
			return true
		}
		seen[line] = true
	}
	return false
}

func isGramText(text string) bool {
	return gramForm.MatchString(text) && !hasTwin(text)
}

func isZeroGram(g impl.Gram) bool {
	return g.Start == "" && len(g.Rules) == 0
}

func rule(left, right string) impl.Rule {
	return impl.Rule{Left: left, Right: right}
}

func gramOf(start string, rules ...impl.Rule) impl.Gram {
	return impl.Gram{Start: start, Rules: rules}
}

// fixedGrams are valid grammars with the texts that the document gives them.
var fixedGrams = []struct {
	gram impl.Gram
	text string
}{
	{gramOf("A", rule("A", "aAb"), rule("A", "")), "A\nA>aAb\nA>\n"},
	{gramOf("A"), "A\n"},
	{gramOf("E", []impl.Rule{}...), "E\n"},
	{gramOf("A", rule("A", "")), "A\nA>\n"},
	{gramOf("A", rule("B", "a")), "A\nB>a\n"},
	{gramOf("A", rule("A", "B")), "A\nA>B\n"},
	{gramOf("C", rule("A", "ABCD"), rule("E", "abcd"), rule("B", "EdEa")), "C\nA>ABCD\nE>abcd\nB>EdEa\n"},
	{gramOf("A", rule("B", "b"), rule("A", "a"), rule("B", "a"), rule("A", "b")), "A\nB>b\nA>a\nB>a\nA>b\n"},
	{gramOf("A", rule("A", "a"), rule("A", "aa"), rule("A", "aaa"), rule("A", "aaaa")), "A\nA>a\nA>aa\nA>aaa\nA>aaaa\n"},
	{eightRules(), "A\nA>a\nA>b\nA>c\nA>d\nB>a\nB>b\nB>c\nB>d\n"},
}

func eightRules() impl.Gram {
	g := gramOf("A")
	for _, left := range []string{"A", "B"} {
		for i := range len(smalls) {
			g.Rules = append(g.Rules, rule(left, smalls[i:i+1]))
		}
	}
	return g
}

// badGrams are grammars that are not valid, each for one reason.
var badGrams = map[string]impl.Gram{
	"zero value":             {},
	"no start":               gramOf("", rule("A", "a")),
	"start is a terminal":    gramOf("a", rule("A", "a")),
	"start past the last":    gramOf("F", rule("A", "a")),
	"start before the first": gramOf("@", rule("A", "a")),
	"start of two":           gramOf("AB", rule("A", "a")),
	"start with a newline":   gramOf("A\n", rule("A", "a")),
	"nine productions":       gramOf("A", append(eightRules().Rules, rule("C", ""))...),
	"nine with an equal one": gramOf("A", append(eightRules().Rules, rule("A", "a"))...),
	"equal neighbours":       gramOf("A", rule("A", "a"), rule("A", "a")),
	"equal far apart":        gramOf("A", rule("A", "a"), rule("B", "a"), rule("A", "b"), rule("A", "a")),
	"equal and empty":        gramOf("A", rule("A", ""), rule("B", ""), rule("A", "")),
	"left is empty":          gramOf("A", rule("A", "a"), rule("", "a")),
	"left is a terminal":     gramOf("A", rule("a", "a")),
	"left past the last":     gramOf("A", rule("F", "a")),
	"left of two":            gramOf("A", rule("AA", "a")),
	"right of five":          gramOf("A", rule("A", "aaaaa")),
	"right of five bigs":     gramOf("A", rule("A", "AAAAA")),
	"right of many":          gramOf("A", rule("A", strings.Repeat("a", 1000))),
	"right past terminals":   gramOf("A", rule("A", "e")),
	"right past bigs":        gramOf("A", rule("A", "aF")),
	"right with the mark":    gramOf("A", rule("A", "a>b")),
	"right with a newline":   gramOf("A", rule("A", "a\n")),
	"right with the end":     gramOf("A", rule("A", "$")),
	"right with a zero byte": gramOf("A", rule("A", "a\x00")),
	"right with a high byte": gramOf("A", rule("A", "\xc1")),
	"right with a wide rune": gramOf("A", rule("A", "\u0141")),
	"only the last is bad":   gramOf("A", rule("A", "a"), rule("A", "b"), rule("A", "x")),
}

// picker returns a function that returns numbers below its argument, always the same ones in a row.
func picker(state uint32) func(n int) int {
	return func(n int) int {
		state = state*1664525 + 1013904223
		return int(state>>16) % n
	}
}

// pickRules returns at most count different productions.
func pickRules(pick func(n int) int, count int, lefts, symbols string) []impl.Rule {
	var rules []impl.Rule
	for range count {
		var right []byte
		for range pick(impl.RightMost + 1) {
			right = append(right, symbols[pick(len(symbols))])
		}
		r := rule(string(lefts[pick(len(lefts))]), string(right))
		if !slices.Contains(rules, r) {
			rules = append(rules, r)
		}
	}
	return rules
}

// someGrams returns many valid grammars, always the same ones.
func someGrams() []impl.Gram {
	var grams []impl.Gram
	pick := picker(1)
	for len(grams) < 500 {
		start := string(bigs[pick(5)])
		rules := pickRules(pick, pick(impl.RuleMost+1), bigs, bigs+smalls)
		grams = append(grams, gramOf(start, rules...))
	}
	for _, f := range fixedGrams {
		grams = append(grams, f.gram)
	}
	return grams
}

func TestBounds(t *testing.T) {
	if impl.RuleMost != 8 || impl.RightMost != 4 {
		t.Error(impl.RuleMost, impl.RightMost)
	}
}

func TestSigns(t *testing.T) {
	for b := range 256 {
		s := string([]byte{byte(b)})
		if got, want := impl.SignBig(s), strings.Contains(bigs, s); got != want {
			t.Errorf("SignBig(%q) = %v", s, got)
		}
		if got, want := impl.SignSmall(s), strings.Contains(smalls, s); got != want {
			t.Errorf("SignSmall(%q) = %v", s, got)
		}
	}
	for _, s := range []string{"", "AB", "AA", "aa", "ab", "A\x00", "a\n", " A", "\u0141", "\u0161"} {
		if impl.SignBig(s) || impl.SignSmall(s) {
			t.Errorf("%q is no symbol", s)
		}
	}
}

func TestGramOk(t *testing.T) {
	for _, g := range someGrams() {
		if !impl.GramOk(g) {
			t.Errorf("%q is valid", g)
		}
	}
	for why, g := range badGrams {
		if impl.GramOk(g) {
			t.Errorf("%s: %q is not valid", why, g)
		}
	}
}

func TestBoundsAreInclusive(t *testing.T) {
	g := eightRules()
	if len(g.Rules) != impl.RuleMost || !impl.GramOk(g) {
		t.Error("RuleMost productions are valid")
	}
	g.Rules = append(g.Rules, rule("C", "c"))
	if impl.GramOk(g) {
		t.Error("RuleMost+1 productions are not valid")
	}
	if !impl.GramOk(gramOf("A", rule("A", strings.Repeat("b", impl.RightMost)))) {
		t.Error("RightMost symbols are valid")
	}
	if impl.GramOk(gramOf("A", rule("A", strings.Repeat("b", impl.RightMost+1)))) {
		t.Error("RightMost+1 symbols are not valid")
	}
}

func TestGramTextAndReadOfFixedGrams(t *testing.T) {
	for _, f := range fixedGrams {
		if got := impl.GramText(f.gram); got != f.text {
			t.Errorf("GramText(%q) = %q, want %q", f.gram, got, f.text)
		}
		got, ok := impl.GramRead(f.text)
		if !ok || got.Start != f.gram.Start || !slices.Equal(got.Rules, f.gram.Rules) {
			t.Errorf("GramRead(%q) = %q, %v", f.text, got, ok)
		}
	}
}

func TestGramsAreReadBack(t *testing.T) {
	for _, g := range someGrams() {
		text := impl.GramText(g)
		if !isGramText(text) {
			t.Errorf("GramText(%q) = %q", g, text)
		}
		got, ok := impl.GramRead(text)
		if !ok || got.Start != g.Start || !slices.Equal(got.Rules, g.Rules) {
			t.Errorf("GramRead(%q) = %q, %v", text, got, ok)
		}
	}
}

// checkRead compares GramRead with what the form of text requires.
func checkRead(t *testing.T, text string) {
	t.Helper()
	g, ok := impl.GramRead(text)
	if ok != isGramText(text) {
		t.Errorf("GramRead(%q) reports %v", text, ok)
	}
	if ok && (!impl.GramOk(g) || impl.GramText(g) != text) {
		t.Errorf("GramRead(%q) = %q", text, g)
	}
	if !ok && !isZeroGram(g) {
		t.Errorf("GramRead(%q) = %q, want the zero value", text, g)
	}
}

func TestGramReadOfInvalidTexts(t *testing.T) {
	eight := impl.GramText(eightRules())
	texts := []string{
		"", "\n", "\n\n", "A", "A\n\n", " A\n", "A \n", "A\r\n", "\nA\n", "a\n", "F\n", "AB\n", "A>\n", "A>a\n", ">\n",
		"A\nA", "A\nA\n", "A\nA>", "A\nA>a", "A\nA>a\nB>b", "A\nA>a\n\n", "A\n\nA>a\n", "A\n>a\n", "A\n>\n", "A\nAa\n",
		"A\nA>>\n", "A\nA>>a\n", "A\nA>a>\n", "A\nA>a>b\n", "A\nAA>a\n", "A\na>a\n", "A\nF>a\n", "A\nA>e\n", "A\nA>F\n",
		"A\nA> a\n", "A\nA >a\n", "A\nA>a \n", "A\nA>a\r\n", "A\nA>$\n", "A\nA>\x00\n", "A\nA>\xff\n", "A\nA>\u00e1\n",
		"A\nA>aaaaa\n", "A\nA>a\nA>a\n", "A\nA>\nB>\nA>\n", "A\nA>a\x00", "A\nA>a\n\x00",
		eight + "C>c\n", eight + "A>a\n", eight + "C>c", eight + "\n", eight + "C", eight[1:], eight[:len(eight)-1],
		strings.Repeat("A", 5000), strings.Repeat("\n", 5000), "A\n" + strings.Repeat("A>a\n", 5000),
		"A\nA>" + strings.Repeat("a", 5000) + "\n", "A\nA>a\n" + strings.Repeat("x", 5000),
	}
	for _, text := range texts {
		if isGramText(text) {
			t.Fatalf("%q is a text of a valid grammar", text)
		}
		checkRead(t, text)
	}
}

func TestGramReadOfAllShortTexts(t *testing.T) {
	level := []string{""}
	for range 9 {
		var longer []string
		for _, text := range level {
			checkRead(t, text)
			for _, b := range []byte("AB>\n") {
				longer = append(longer, text+string(b))
			}
		}
		level = longer
	}
}

func TestGramReadOfNearTexts(t *testing.T) {
	others := []byte("ABEFadez>\n $\x00\r\x80\xff")
	for _, g := range someGrams()[400:] {
		text := impl.GramText(g)
		for i := range len(text) + 1 {
			checkRead(t, text[:i])
			checkRead(t, text[i:])
			for _, b := range others {
				checkRead(t, text[:i]+string([]byte{b})+text[i:])
				if i < len(text) {
					checkRead(t, text[:i]+string([]byte{b})+text[i+1:])
				}
			}
			if i < len(text) {
				checkRead(t, text[:i]+text[i+1:])
			}
		}
	}
}

func TestInvalidGrams(t *testing.T) {
	for why, g := range badGrams {
		if got := impl.GramText(g); got != "" {
			t.Errorf("%s: GramText = %q", why, got)
		}
		for _, left := range []string{"A", "B", "a", ""} {
			if got := impl.GramFor(g, left); len(got) != 0 {
				t.Errorf("%s: GramFor of %q = %v", why, left, got)
			}
		}
		if impl.GramBigs(g) != "" || impl.GramSmalls(g) != "" {
			t.Errorf("%s: %q, %q", why, impl.GramBigs(g), impl.GramSmalls(g))
		}
		for _, at := range [][]int{nil, {0}, {0, 1, 2, 3, 4, 5, 6, 7, 8}} {
			if got := impl.GramOnly(g, at); !isZeroGram(got) {
				t.Errorf("%s: GramOnly of %v = %q", why, at, got)
			}
		}
	}
}

func TestGramSame(t *testing.T) {
	grams := []impl.Gram{
		{},
		gramOf("A"),
		gramOf("B"),
		gramOf("A", rule("A", "")),
		gramOf("A", rule("A", "a")),
		gramOf("A", rule("B", "a")),
		gramOf("B", rule("A", "a")),
		gramOf("A", rule("A", "a"), rule("A", "b")),
		gramOf("A", rule("A", "b"), rule("A", "a")),
		gramOf("A", rule("A", "a"), rule("A", "a")),
		gramOf("A", rule("", "")),
		gramOf("A\nA>a"),
		gramOf("x", rule("y", "\xff")),
		gramOf("x", rule("y", "\xfe")),
		gramOf("A", append(eightRules().Rules, rule("C", "c"))...),
		gramOf("A", append(eightRules().Rules, rule("C", "d"))...),
		eightRules(),
	}
	for i, a := range grams {
		for j, b := range grams {
			b.Rules = slices.Clone(b.Rules)
			if got := impl.GramSame(a, b); got != (i == j) {
				t.Errorf("GramSame(%q, %q) = %v", a, b, got)
			}
		}
	}
	if !impl.GramSame(impl.Gram{Start: "A"}, impl.Gram{Start: "A", Rules: []impl.Rule{}}) {
		t.Error("nil and empty slices are equivalent")
	}
}

func TestGramFor(t *testing.T) {
	g := gramOf("A", rule("B", "b"), rule("A", "D"), rule("B", ""), rule("E", "A"), rule("B", "a"), rule("A", ""))
	wants := map[string][]int{
		"A": {1, 5}, "B": {0, 2, 4}, "C": {}, "D": {}, "E": {3},
		"": {}, "F": {}, "a": {}, "AB": {}, "\xff": {}, "A>": {},
	}
	for left, want := range wants {
		if got := impl.GramFor(g, left); !slices.Equal(got, want) {
			t.Errorf("GramFor of %q = %v, want %v", left, got, want)
		}
	}
	if got := impl.GramFor(gramOf("A"), "A"); len(got) != 0 {
		t.Error(got)
	}
}

func TestGramForOfManyGrams(t *testing.T) {
	for _, g := range someGrams() {
		for i := range len(bigs) {
			left := bigs[i : i+1]
			var want []int
			for at, r := range g.Rules {
				if r.Left == left {
					want = append(want, at)
				}
			}
			if got := impl.GramFor(g, left); !slices.Equal(got, want) {
				t.Errorf("GramFor(%q, %q) = %v, want %v", g, left, got, want)
			}
		}
	}
}

func TestGramBigsAndSmalls(t *testing.T) {
	cases := []struct {
		gram         impl.Gram
		bigs, smalls string
	}{
		{gramOf("C"), "C", ""},
		{gramOf("A", rule("A", "")), "A", ""},
		{gramOf("D", rule("E", "")), "DE", ""},
		{gramOf("E", rule("C", "BdAa")), "ABCE", "ad"},
		{gramOf("A", rule("A", "dcba"), rule("A", "abcd")), "A", "abcd"},
		{gramOf("B", rule("B", "BBBB"), rule("B", "cc")), "B", "c"},
		{gramOf("E", rule("D", "C"), rule("B", "A")), "ABCDE", ""},
	}
	for _, c := range cases {
		if got := impl.GramBigs(c.gram); got != c.bigs {
			t.Errorf("GramBigs(%q) = %q, want %q", c.gram, got, c.bigs)
		}
		if got := impl.GramSmalls(c.gram); got != c.smalls {
			t.Errorf("GramSmalls(%q) = %q, want %q", c.gram, got, c.smalls)
		}
	}
}

// symbolsOf returns the bytes of set that occur anywhere in g.
func symbolsOf(g impl.Gram, set string) string {
	all := g.Start
	for _, r := range g.Rules {
		all += r.Left + r.Right
	}
	found := ""
	for _, b := range set {
		if strings.ContainsRune(all, b) {
			found += string(b)
		}
	}
	return found
}

func TestGramBigsAndSmallsOfManyGrams(t *testing.T) {
	for _, g := range someGrams() {
		if got := impl.GramBigs(g); got != symbolsOf(g, bigs) {
			t.Errorf("GramBigs(%q) = %q", g, got)
		}
		if got := impl.GramSmalls(g); got != symbolsOf(g, smalls) {
			t.Errorf("GramSmalls(%q) = %q", g, got)
		}
	}
}

func TestGramOnly(t *testing.T) {
	g := gramOf("B", rule("A", "a"), rule("B", ""), rule("A", "bB"), rule("C", "c"))
	least, most := -1<<63, 1<<63-1
	cases := []struct{ at, kept []int }{
		{nil, nil},
		{[]int{}, nil},
		{[]int{0}, []int{0}},
		{[]int{3}, []int{3}},
		{[]int{0, 1, 2, 3}, []int{0, 1, 2, 3}},
		{[]int{3, 2, 1, 0}, []int{0, 1, 2, 3}},
		{[]int{2, 0}, []int{0, 2}},
		{[]int{1, 1, 1}, []int{1}},
		{[]int{3, 1, 3, 1}, []int{1, 3}},
		{[]int{-1}, nil},
		{[]int{4}, nil},
		{[]int{-1, 0, 4, 2, -4, 8}, []int{0, 2}},
		{[]int{least, most, 1}, []int{1}},
		{slices.Repeat([]int{9, 2}, 1000), []int{2}},
	}
	for _, c := range cases {
		want := gramOf("B")
		for _, i := range c.kept {
			want.Rules = append(want.Rules, g.Rules[i])
		}
		got := impl.GramOnly(g, c.at)
		if got.Start != want.Start || !slices.Equal(got.Rules, want.Rules) {
			t.Errorf("GramOnly of %v = %q, want %q", c.at, got, want)
		}
	}
	if got := impl.GramOnly(gramOf("A"), []int{0}); got.Start != "A" || len(got.Rules) != 0 {
		t.Error(got)
	}
}

func TestResultsAreNewMemory(t *testing.T) {
	// The spare capacity shows a write beyond the length of an argument.
	spare := make([]impl.Rule, 0, 16)
	spare = append(spare, rule("A", "a"), rule("B", "b"), rule("A", ""))
	g := gramOf("A", spare...)
	before := slices.Clone(g.Rules[:cap(g.Rules)])
	at := append(make([]int, 0, 8), 2, 0, 1)

	only := impl.GramOnly(g, at)
	for i := range only.Rules {
		only.Rules[i] = rule("E", "d")
	}
	only.Rules = append(only.Rules, rule("E", "e"))
	again := impl.GramOnly(g, at)
	if len(again.Rules) != 3 || again.Rules[0] != rule("A", "a") {
		t.Error(again)
	}

	first := impl.GramFor(g, "A")
	for i := range first {
		first[i] = -7
	}
	if got := impl.GramFor(g, "A"); !slices.Equal(got, []int{0, 2}) {
		t.Error(got)
	}

	text := impl.GramText(g)
	read, _ := impl.GramRead(text)
	read.Rules[0] = rule("E", "d")
	if other, _ := impl.GramRead(text); other.Rules[0] != rule("A", "a") {
		t.Error(other)
	}

	impl.GramOk(g)
	impl.GramSame(g, g)
	impl.GramBigs(g)
	impl.GramSmalls(g)
	if !reflect.DeepEqual(g.Rules[:cap(g.Rules)], before) {
		t.Error("the grammar was modified")
	}
	if !slices.Equal(at[:cap(at)], []int{2, 0, 1, 0, 0, 0, 0, 0}) {
		t.Error("the indices were modified")
	}
}
