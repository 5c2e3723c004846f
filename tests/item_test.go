package tests

import (
	"cmp"
	"math"
	"slices"
	"strings"
	"testing"

	"loop.example/construer/impl"
)

func item(rule, dot int, ahead string) impl.Item {
	return impl.Item{Rule: rule, Dot: dot, Ahead: ahead}
}

// startItem is the item from which state 0 is built.
func startItem() impl.Item {
	return item(-1, 0, "$")
}

// itemRule returns the production of an item's Rule as ItemsText writes it.
func itemRule(g impl.Gram, at int) impl.Rule {
	if at == -1 {
		return rule(".", g.Start)
	}
	return g.Rules[at]
}

// itemsOf returns every valid item of a valid grammar, in order.
func itemsOf(g impl.Gram) []impl.Item {
	items := []impl.Item{item(-1, 0, "$"), item(-1, 1, "$")}
	for at, r := range g.Rules {
		for dot := range len(r.Right) + 1 {
			for _, ahead := range "$" + smalls {
				items = append(items, item(at, dot, string(ahead)))
			}
		}
	}
	return items
}

func compareItems(a, b impl.Item) int {
	return cmp.Or(cmp.Compare(a.Rule, b.Rule), cmp.Compare(a.Dot, b.Dot), cmp.Compare(a.Ahead, b.Ahead))
}

func wantItemsText(g impl.Gram, list []impl.Item) string {
	text := ""
	for _, x := range list {
		r := itemRule(g, x.Rule)
		text += r.Left + ">" + r.Right[:x.Dot] + "." + r.Right[x.Dot:] + " " + x.Ahead + "\n"
	}
	return text
}

// closing is the document's definition of the closure, written out, with FIRST as the intersection of all closed sets.
type closing struct {
	g    impl.Gram
	none string
	with map[string]string // the nonterminals whose FIRST sets contain a terminal
}

func closingOf(g impl.Gram) closing {
	c := closing{g: g, none: wantNone(g), with: map[string]string{}}
	for _, b := range smalls {
		c.with[string(b)] = openers(g, string(b))
	}
	return c
}

func (c closing) next(x impl.Item) string {
	right := itemRule(c.g, x.Rule).Right
	if x.Dot == len(right) {
		return ""
	}
	return right[x.Dot : x.Dot+1]
}

// asked returns the items that a closure with x contains because of x.
func (c closing) asked(x impl.Item) []impl.Item {
	next := c.next(x)
	if !oneOf(next, bigs) {
		return nil
	}
	rest := itemRule(c.g, x.Rule).Right[x.Dot+1:]
	var items []impl.Item
	for at, r := range c.g.Rules {
		for _, b := range "$" + smalls {
			ahead := string(b)
			possible := opens(rest, ahead, c.none, c.with[ahead]) || within(rest, c.none) && ahead == x.Ahead
			if r.Left == next && possible {
				items = append(items, item(at, 0, ahead))
			}
		}
	}
	return items
}

// closure adds an item only when one that is there asks for it, so that the set is the smallest one.
func (c closing) closure(list []impl.Item) []impl.Item {
	all := slices.Clone(list)
	for at := 0; at < len(all); at++ {
		for _, x := range c.asked(all[at]) {
			if !slices.Contains(all, x) {
				all = append(all, x)
			}
		}
	}
	slices.SortFunc(all, compareItems)
	return all
}

func (c closing) move(list []impl.Item, sign string) []impl.Item {
	var moved []impl.Item
	for _, x := range list {
		if c.next(x) == sign {
			moved = append(moved, item(x.Rule, x.Dot+1, x.Ahead))
		}
	}
	return c.closure(moved)
}

// states returns the states in the order in which the document finds them, and false if there are more than most.
func (c closing) states(most int) ([][]impl.Item, bool) {
	states := [][]impl.Item{c.closure([]impl.Item{startItem()})}
	for at := 0; at < len(states); at++ {
		for _, b := range symbolsOf(c.g, bigs) + symbolsOf(c.g, smalls) {
			move := c.move(states[at], string(b))
			known := slices.ContainsFunc(states, func(state []impl.Item) bool { return slices.Equal(state, move) })
			if len(move) != 0 && !known {
				states = append(states, move)
			}
		}
		if len(states) > most {
			return nil, false
		}
	}
	return states, true
}

func TestBoundOfStates(t *testing.T) {
	if impl.StateMost != 40 {
		t.Error(impl.StateMost)
	}
}

// aheads are lookaheads and what is none.
var aheads = []string{
	"$", "a", "b", "c", "d", "e", "`", "A", "B", "E", "", ".", "$$", "$a", "a$", "aa", "ab", "abcd", "\x00", "\xff", "\xe1", "a\n", " $", "\u0430",
}

func wantItemOk(g impl.Gram, x impl.Item) bool {
	return slices.Contains(itemsOf(g), x)
}

// numbersAround returns the numbers from a little below 0 to a little above most, and the far ones.
func numbersAround(most int) []int {
	numbers := []int{math.MinInt, math.MinInt + 1, math.MinInt32, -300, -225, -26, math.MaxInt, math.MaxInt - 1, math.MaxInt32, 225, 1 << 32}
	for n := -6; n <= most+6; n++ {
		numbers = append(numbers, n)
	}
	return numbers
}

func TestItemsNearTheBounds(t *testing.T) {
	for _, f := range fixedGrams {
		g := f.gram
		for _, at := range numbersAround(len(g.Rules)) {
			for _, dot := range numbersAround(4) {
				for _, ahead := range aheads {
					checkItem(t, g, item(at, dot, ahead))
				}
			}
		}
	}
}

func checkItem(t *testing.T, g impl.Gram, x impl.Item) {
	t.Helper()
	ok, next := wantItemOk(g, x), ""
	if ok {
		next = closing{g: g}.next(x)
	}
	if got := impl.ItemOk(g, x); got != ok {
		t.Errorf("ItemOk(%q, %v) = %v", g, x, got)
	}
	if got := impl.ItemNext(g, x); got != next {
		t.Errorf("ItemNext(%q, %v) = %q, want %q", g, x, got, next)
	}
	if list := []impl.Item{x}; impl.ItemsOk(g, list) != ok {
		t.Errorf("ItemsOk(%q, %v) = %v", g, list, !ok)
	} else if !ok {
		checkNoItems(t, g, list)
	}
}

// checkNoItems expects of each function its result for a list that is not valid.
func checkNoItems(t *testing.T, g impl.Gram, list []impl.Item) {
	t.Helper()
	if impl.ItemsOk(g, list) || len(impl.ItemsClose(g, list)) != 0 || impl.ItemsText(g, list) != "" {
		t.Errorf("%.200q: %.200v is no list of items", g, list)
	}
	for _, sign := range []string{"A", "B", "E", "a", "d", "$", "", "x"} {
		if got := impl.ItemsMove(g, list, sign); len(got) != 0 {
			t.Errorf("%.200q: ItemsMove of %.200v and %q is %v", g, list, sign, got)
		}
	}
}

func TestItemsWrittenOutByHand(t *testing.T) {
	g := read(t, "A\nA>aAb\nA>\nB>ABCD\n")
	for _, c := range []struct {
		why  string
		item impl.Item
		ok   bool
		next string
	}{
		{"before Start", item(-1, 0, "$"), true, "A"},
		{"behind Start", item(-1, 1, "$"), true, ""},
		{"further than behind Start", item(-1, 2, "$"), false, ""},
		{"before Start, with a terminal", item(-1, 0, "a"), false, ""},
		{"behind Start, with a terminal", item(-1, 1, "b"), false, ""},
		{"before Start, without a lookahead", item(-1, 0, ""), false, ""},
		{"the zero value", impl.Item{}, false, ""},
		{"a Rule below -1", item(-2, 0, "$"), false, ""},
		{"a Dot below 0", item(0, -1, "a"), false, ""},
		{"a Dot below 0 before Start", item(-1, -1, "$"), false, ""},
		{"before a terminal", item(0, 0, "a"), true, "a"},
		{"before a nonterminal", item(0, 1, "$"), true, "A"},
		{"before the last symbol", item(0, 2, "d"), true, "b"},
		{"at the end", item(0, 3, "a"), true, ""},
		{"past the end", item(0, 4, "a"), false, ""},
		{"an empty Right, whose dot is at once at its end", item(1, 0, "c"), true, ""},
		{"past the end of an empty Right", item(1, 1, "c"), false, ""},
		{"the last production", item(2, 3, "$"), true, "D"},
		{"the end of the longest Right", item(2, 4, "$"), true, ""},
		{"past the end of the longest Right", item(2, 5, "$"), false, ""},
		{"one production more", item(3, 0, "$"), false, ""},
		{"a lookahead that does not occur in the grammar", item(0, 0, "d"), true, "a"},
		{"a nonterminal as the lookahead", item(0, 0, "A"), false, ""},
		{"no lookahead", item(0, 0, ""), false, ""},
		{"two lookaheads", item(0, 0, "ab"), false, ""},
		{"two ends", item(0, 0, "$$"), false, ""},
	} {
		if ok, next := impl.ItemOk(g, c.item), impl.ItemNext(g, c.item); ok != c.ok || next != c.next {
			t.Errorf("%s: %v, %q", c.why, ok, next)
		}
	}
}

func TestItemsAreAscending(t *testing.T) {
	g := read(t, "A\nA>aAb\nA>\nB>C\n")
	all := itemsOf(g)
	if !impl.ItemsOk(g, all) || !impl.ItemsOk(g, nil) || !impl.ItemsOk(g, []impl.Item{}) {
		t.Error("lists in order are valid")
	}
	for i, x := range all {
		for j, y := range all {
			if got := impl.ItemsOk(g, []impl.Item{x, y}); got != (i < j) {
				t.Errorf("ItemsOk of %v, %v = %v", x, y, got)
			}
		}
	}
	for i := range all {
		twice := slices.Insert(slices.Clone(all), i, all[i])
		checkNoItems(t, g, twice)
		late := append(slices.Delete(slices.Clone(all), i, i+1), all[i])
		if i+1 < len(all) {
			checkNoItems(t, g, late)
		}
		for _, bad := range []impl.Item{item(all[i].Rule, all[i].Dot, "x"), item(all[i].Rule, 5, "$"), item(9, 0, "$"), {}} {
			changed := slices.Clone(all)
			changed[i] = bad
			checkNoItems(t, g, changed)
		}
	}
	backward := slices.Clone(all)
	slices.Reverse(backward)
	checkNoItems(t, g, backward)
	checkNoItems(t, g, make([]impl.Item, 1000000))
	checkNoItems(t, g, slices.Repeat([]impl.Item{all[5]}, 1000000))
	checkNoItems(t, g, slices.Repeat(all, 1000))
}

func TestMostItemsThereCanBe(t *testing.T) {
	g := gramOf("E")
	for i := range impl.RuleMost {
		g.Rules = append(g.Rules, rule("E", "EEE"+(bigs + smalls)[i:i+1]))
	}
	all := itemsOf(g)
	if len(all) != 2+8*5*5 || !impl.ItemsOk(g, all) || !slices.Equal(impl.ItemsClose(g, all), all) {
		t.Errorf("%d items", len(all))
	}
	if got := impl.ItemsText(g, all); got != wantItemsText(g, all) {
		t.Error(got)
	}
	checkNoItems(t, g, append(all, item(8, 0, "$")))
}

// closures are written out by hand, a list of items as its text with " / " at the ends of lines.
var closures = []struct {
	why  string
	gram string
	list []impl.Item
	want string
}{
	{"the document's example", "A\nA>aAb\nA>\n", []impl.Item{startItem()}, ".>.A $ / A>.aAb $ / A>. $"},
	{"behind Start", "A\nA>aAb\nA>\n", []impl.Item{item(-1, 1, "$")}, ".>A. $"},
	{"no items", "A\nA>aAb\nA>\n", nil, ""},
	{"before a terminal", "A\nA>aAb\nA>\n", []impl.Item{item(0, 0, "c")}, "A>.aAb c"},
	{"at the end of an empty Right", "A\nA>aAb\nA>\n", []impl.Item{item(1, 0, "d")}, "A>. d"},
	{"a terminal behind", "A\nA>aAb\nA>\n", []impl.Item{item(0, 1, "c")}, "A>.aAb b / A>a.Ab c / A>. b"},
	{"an item that no other asks for", "A\nA>Ba\nB>b\n", []impl.Item{item(-1, 0, "$"), item(1, 1, "d")}, ".>.A $ / A>.Ba $ / B>.b a / B>b. d"},
	{"one behind that may be nothing", "A\nA>BC\nB>b\nC>c\nC>\n", []impl.Item{startItem()},
		".>.A $ / A>.BC $ / B>.b $ / B>.b c"},
	{"one behind that may be nothing, with a terminal", "A\nA>BC\nB>b\nC>c\nC>\n", []impl.Item{item(0, 0, "d")},
		"A>.BC d / B>.b c / B>.b d"},
	{"one behind that is always nothing", "A\nA>BC\nB>b\nC>\n", []impl.Item{item(0, 0, "a")}, "A>.BC a / B>.b a"},
	{"two behind that may be nothing", "A\nA>BCD\nB>b\nC>c\nC>\nD>d\nD>\n", []impl.Item{startItem()},
		".>.A $ / A>.BCD $ / B>.b $ / B>.b c / B>.b d"},
	{"two behind of which only the first may be nothing", "A\nA>BCD\nB>b\nC>c\nC>\nD>d\n", []impl.Item{startItem()},
		".>.A $ / A>.BCD $ / B>.b c / B>.b d"},
	{"two behind of which only the last may be nothing", "A\nA>BCD\nB>b\nC>c\nD>d\nD>\n", []impl.Item{startItem()},
		".>.A $ / A>.BCD $ / B>.b c"},
	{"one that may be nothing and a terminal behind", "A\nA>BCa\nB>b\nC>c\nC>\n", []impl.Item{startItem()},
		".>.A $ / A>.BCa $ / B>.b a / B>.b c"},
	{"only what is behind the dot counts", "A\nA>CBC\nB>b\nC>c\nC>\n", []impl.Item{item(0, 1, "$"), item(0, 2, "a")},
		"A>C.BC $ / A>CB.C a / B>.b $ / B>.b c / C>.c a / C>. a"},
	{"what is behind is empty by way of others", "A\nA>BC\nB>b\nC>DE\nD>\nE>D\n", []impl.Item{startItem()},
		".>.A $ / A>.BC $ / B>.b $"},
	{"itself at the beginning", "A\nA>Aa\nA>\n", []impl.Item{startItem()},
		".>.A $ / A>.Aa $ / A>.Aa a / A>. $ / A>. a"},
	{"itself alone", "A\nA>A\n", []impl.Item{startItem()}, ".>.A $ / A>.A $"},
	{"itself behind itself", "A\nA>AA\nA>a\nA>\n", []impl.Item{startItem()},
		".>.A $ / A>.AA $ / A>.AA a / A>.a $ / A>.a a / A>. $ / A>. a"},
	{"lookaheads that come round a circle", "A\nA>Bb\nB>Cc\nC>Ad\nC>\n", []impl.Item{startItem()},
		".>.A $ / A>.Bb $ / A>.Bb d / B>.Cc b / C>.Ad c / C>. c"},
	{"a nonterminal without productions after the dot", "A\nA>Ba\nC>c\n", []impl.Item{startItem()}, ".>.A $ / A>.Ba $"},
	{"a nonterminal without productions behind", "A\nA>BC\nB>b\n", []impl.Item{startItem()}, ".>.A $ / A>.BC $"},
	{"a nonterminal behind that only derives itself", "A\nA>BCa\nB>b\nC>C\n", []impl.Item{startItem()}, ".>.A $ / A>.BCa $"},
	{"one behind that may be nothing, and one without productions", "A\nA>BCD\nB>b\nC>c\nC>\n", []impl.Item{startItem()},
		".>.A $ / A>.BCD $ / B>.b c"},
	{"Start without productions", "C\nA>a\n", []impl.Item{startItem()}, ".>.C $"},
	{"productions that are not reached", "A\nB>b\nA>a\nC>A\n", []impl.Item{startItem()}, ".>.A $ / A>.a $"},
	{"an item of a production that is not reached", "A\nB>Cd\nA>a\nC>A\n", []impl.Item{item(0, 0, "b")}, "B>.Cd b / A>.a d / C>.A d"},
	{"what is there already", "A\nA>BB\nB>b\n", []impl.Item{item(0, 0, "$"), item(0, 1, "$"), item(1, 0, "b")},
		"A>.BB $ / A>B.B $ / B>.b $ / B>.b b"},
	{"one item asked for with the lookaheads of two", "A\nA>aB\nB>b\n", []impl.Item{item(0, 1, "c"), item(0, 1, "d")},
		"A>a.B c / A>a.B d / B>.b c / B>.b d"},
}

// itemLines turns a text of closures into one of ItemsText.
func itemLines(text string) string {
	if text == "" {
		return ""
	}
	return strings.ReplaceAll(text, " / ", "\n") + "\n"
}

func TestClosuresWrittenOutByHand(t *testing.T) {
	for _, c := range closures {
		g := read(t, c.gram)
		closed := impl.ItemsClose(g, c.list)
		if got, want := impl.ItemsText(g, closed), itemLines(c.want); got != want {
			t.Errorf("%s: %q, want %q", c.why, got, want)
		}
		checkClosure(t, closingOf(g), c.list)
	}
}

// checkClosure expects the closure to contain list, to be valid and closed, and to contain nothing else.
func checkClosure(t *testing.T, c closing, list []impl.Item) {
	t.Helper()
	got := impl.ItemsClose(c.g, list)
	if !impl.ItemsOk(c.g, got) {
		t.Errorf("%q: the closure of %v is not valid: %v", c.g, list, got)
	}
	if again := impl.ItemsClose(c.g, got); !slices.Equal(again, got) {
		t.Errorf("%q: closing %v again makes %v", c.g, got, again)
	}
	for _, x := range list {
		if !slices.Contains(got, x) {
			t.Errorf("%q: the closure of %v is without %v", c.g, list, x)
		}
	}
	for _, x := range got {
		for _, y := range c.asked(x) {
			if !slices.Contains(got, y) {
				t.Errorf("%q: the closure %v is without %v", c.g, got, y)
			}
		}
	}
	if want := c.closure(list); !slices.Equal(got, want) {
		t.Errorf("%q: the closure of %v is %v, want %v", c.g, list, got, want)
	}
	if text, want := impl.ItemsText(c.g, got), wantItemsText(c.g, got); text != want {
		t.Errorf("%q: the text of %v is %q, want %q", c.g, got, text, want)
	}
}

func checkMoves(t *testing.T, c closing, list []impl.Item) {
	t.Helper()
	for _, b := range bigs + smalls {
		sign := string(b)
		if got, want := impl.ItemsMove(c.g, list, sign), c.move(list, sign); !slices.Equal(got, want) {
			t.Errorf("%q: %v moves by %s to %v, want %v", c.g, list, sign, got, want)
		}
	}
}

// wideGrams are grammars with a number of states near StateMost or above it.
func wideGrams() []impl.Gram {
	var grams []impl.Gram
	pick := picker(3)
	for len(grams) < 700 {
		lefts := bigs[:1+pick(3)]
		symbols := lefts + smalls[:2+pick(3)]
		if rules := pickRules(pick, 8, lefts, symbols); len(rules) > 3 {
			grams = append(grams, gramOf("A", rules[:4+pick(len(rules)-3)]...))
		}
	}
	return grams
}

// itemGrams are grammars of few and of many symbols, with much and with little that may be nothing.
func itemGrams() []impl.Gram {
	return slices.Concat(manyGrams(), liveGrams(), wideGrams())
}

func TestClosuresAndMovesAreThoseOfTheDefinition(t *testing.T) {
	pick := picker(5)
	for _, g := range itemGrams() {
		c, all := closingOf(g), itemsOf(g)
		for _, size := range []int{1, 1, 2, 3, 6, 12, 40} {
			list := slices.Clone(all)
			for len(list) > size {
				at := pick(len(list))
				list = slices.Delete(list, at, at+1)
			}
			checkClosure(t, c, list)
			checkMoves(t, c, list)
		}
		checkClosure(t, c, all)
		checkMoves(t, c, all)
	}
}

func TestMovesWrittenOutByHand(t *testing.T) {
	for _, c := range []struct {
		why  string
		gram string
		list []impl.Item
		sign string
		want string
	}{
		{"the document's example", "A\nA>aAb\nA>\n", []impl.Item{item(-1, 0, "$"), item(0, 0, "$"), item(1, 0, "$")}, "a", "A>.aAb b / A>a.Ab $ / A>. b"},
		{"over Start", "A\nA>aAb\nA>\n", []impl.Item{item(-1, 0, "$"), item(0, 0, "$"), item(1, 0, "$")}, "A", ".>A. $"},
		{"over a symbol that is not after a dot", "A\nA>aAb\nA>\n", []impl.Item{item(-1, 0, "$"), item(0, 0, "$"), item(1, 0, "$")}, "b", ""},
		{"over a symbol that does not occur", "A\nA>aAb\nA>\n", []impl.Item{item(-1, 0, "$"), item(0, 0, "$")}, "d", ""},
		{"of an item with the dot at the end", "A\nA>aAb\nA>\n", []impl.Item{item(-1, 1, "$"), item(0, 3, "$"), item(1, 0, "$")}, "A", ""},
		{"of no items", "A\nA>aAb\nA>\n", nil, "a", ""},
		{"the list is not closed before", "A\nA>aAb\nA>\n", []impl.Item{startItem()}, "a", ""},
		{"over a nonterminal without productions", "A\nA>BBa\n", []impl.Item{item(0, 0, "$")}, "B", "A>B.Ba $"},
		{"to the end", "A\nA>aAb\nA>\n", []impl.Item{item(0, 2, "a"), item(0, 2, "b")}, "b", "A>aAb. a / A>aAb. b"},
		{"of some items only", "A\nA>ab\nA>bb\nA>a\n", []impl.Item{item(0, 0, "c"), item(0, 1, "a"), item(1, 0, "$"), item(2, 0, "$"), item(2, 1, "a")}, "a", "A>a.b c / A>a. $"},
		{"of the same production in two places", "A\nA>aaa\n", []impl.Item{item(0, 0, "$"), item(0, 1, "$"), item(0, 2, "$")}, "a", "A>a.aa $ / A>aa.a $ / A>aaa. $"},
		{"the items behind are closed", "A\nA>aBC\nB>b\nC>\nC>c\n", []impl.Item{item(0, 0, "d")}, "a", "A>a.BC d / B>.b c / B>.b d"},
	} {
		g := read(t, c.gram)
		if got, want := impl.ItemsText(g, impl.ItemsMove(g, c.list, c.sign)), itemLines(c.want); got != want {
			t.Errorf("%s: %q, want %q", c.why, got, want)
		}
		checkMoves(t, closingOf(g), c.list)
	}
}

func TestMovesByWhatIsNoSymbol(t *testing.T) {
	g := read(t, "A\nA>aAb\nA>\nA>AbAb\nB>EdEd\n")
	all := itemsOf(g)
	signs := []string{"", "$", ".", ">", " ", "x", "e", "F", "@", "`", "aA", "aAb", "Ab", "AbAb", "EdEd", "aa", "AA", "a\x00", "a\n", "A$", "\x00", "\xff", "\xc1", "\u0430", "\u0410", strings.Repeat("a", 100000)}
	for _, sign := range signs {
		for _, list := range [][]impl.Item{nil, {startItem()}, all, impl.ItemsClose(g, all)} {
			if got := impl.ItemsMove(g, list, sign); len(got) != 0 {
				t.Errorf("%.20q is no symbol: %v", sign, got)
			}
		}
	}
	for b := range 256 {
		sign := string([]byte{byte(b)})
		got := impl.ItemsMove(g, all, sign)
		if (len(got) != 0) != oneOf(sign, "AEabd") {
			t.Errorf("ItemsMove by %q is %v", sign, got)
		}
	}
}

// stateCases are the states of grammars in order, written out by hand.
var stateCases = []struct {
	why  string
	gram string
	want []string
}{
	{"the document's example", "A\nA>aAb\nA>\n", []string{
		".>.A $ / A>.aAb $ / A>. $",
		".>A. $",
		"A>.aAb b / A>a.Ab $ / A>. b",
		"A>aA.b $",
		"A>.aAb b / A>a.Ab b / A>. b",
		"A>aAb. $",
		"A>aA.b b",
		"A>aAb. b",
	}},
	{"a move to the state itself", "A\nA>aA\nA>b\n", []string{
		".>.A $ / A>.aA $ / A>.b $",
		".>A. $",
		"A>.aA $ / A>a.A $ / A>.b $",
		"A>b. $",
		"A>aA. $",
	}},
	{"a move to a state that was found before", "A\nA>aB\nB>bA\nB>\n", []string{
		".>.A $ / A>.aB $",
		".>A. $",
		"A>a.B $ / B>.bA $ / B>. $",
		"A>aB. $",
		"A>.aB $ / B>b.A $",
		"B>bA. $",
	}},
	{"nonterminals before terminals, each in order", "C\nC>b\nC>Ba\nC>aB\nB>A\nA>\n", []string{
		".>.C $ / C>.b $ / C>.Ba $ / C>.aB $ / B>.A a / A>. a",
		"B>A. a",
		"C>B.a $",
		".>C. $",
		"C>a.B $ / B>.A $ / A>. $",
		"C>b. $",
		"C>Ba. $",
		"B>A. $",
		"C>aB. $",
	}},
	{"states that differ only in a lookahead", "A\nA>Ba\nA>aBb\nB>c\n", []string{
		".>.A $ / A>.Ba $ / A>.aBb $ / B>.c a",
		".>A. $",
		"A>B.a $",
		"A>a.Bb $ / B>.c b",
		"B>c. a",
		"A>Ba. $",
		"A>aB.b $",
		"B>c. b",
		"A>aBb. $",
	}},
	{"no productions", "E\n", []string{".>.E $", ".>E. $"}},
	{"only nothing", "A\nA>\n", []string{".>.A $ / A>. $", ".>A. $"}},
	{"only itself", "A\nA>A\n", []string{".>.A $ / A>.A $", ".>A. $ / A>A. $"}},
	{"Start without productions", "D\nA>a\nB>D\n", []string{".>.D $", ".>D. $"}},
	{"a nonterminal without productions", "A\nA>Bb\nA>b\n", []string{
		".>.A $ / A>.Bb $ / A>.b $",
		".>A. $",
		"A>B.b $",
		"A>b. $",
		"A>Bb. $",
	}},
	{"productions of the same right side", "A\nA>B\nA>C\nB>a\nC>a\n", []string{
		".>.A $ / A>.B $ / A>.C $ / B>.a $ / C>.a $",
		".>A. $",
		"A>B. $",
		"A>C. $",
		"B>a. $ / C>a. $",
	}},
}

func TestStatesWrittenOutByHand(t *testing.T) {
	for _, c := range stateCases {
		g := read(t, c.gram)
		states, ok := impl.StatesOf(g)
		if !ok || len(states) != len(c.want) {
			t.Errorf("%s: %d states, %v, want %d", c.why, len(states), ok, len(c.want))
			continue
		}
		for i, want := range c.want {
			if got := impl.ItemsText(g, states[i]); got != itemLines(want) {
				t.Errorf("%s: state %d is %q, want %q", c.why, i, got, itemLines(want))
			}
		}
	}
}

func sameStates(a, b [][]impl.Item) bool {
	return slices.EqualFunc(a, b, func(x, y []impl.Item) bool { return slices.Equal(x, y) })
}

// checkStates expects what P5 says of the states, and no others than the definition finds. It returns whether there are states.
func checkStates(t *testing.T, g impl.Gram) bool {
	t.Helper()
	got, ok := impl.StatesOf(g)
	want, few := closingOf(g).states(40)
	if ok != few || !sameStates(got, want) {
		t.Errorf("StatesOf(%q) = %d states, %v: %v, want %d, %v: %v", g, len(got), ok, got, len(want), few, want)
	}
	if !ok {
		return false
	}
	if first := impl.ItemsClose(g, []impl.Item{startItem()}); !slices.Equal(got[0], first) {
		t.Errorf("%q: state 0 is %v, want %v", g, got[0], first)
	}
	known := map[string]int{}
	for i, state := range got {
		text := wantItemsText(g, state)
		if at, found := known[text]; found {
			t.Errorf("%q: states %d and %d are equal", g, at, i)
		}
		known[text] = i
	}
	for i, state := range got {
		if again := impl.ItemsClose(g, state); !slices.Equal(again, state) {
			t.Errorf("%q: state %d is not closed: %v", g, i, state)
		}
		for _, b := range bigs + smalls {
			move := impl.ItemsMove(g, state, string(b))
			if _, found := known[wantItemsText(g, move)]; len(move) != 0 && !found {
				t.Errorf("%q: state %d moves by %c to %v, which is no state", g, i, b, move)
			}
		}
	}
	return true
}

func TestStatesAreAllReachableSetsOfItems(t *testing.T) {
	few, many := 0, 0
	for _, g := range itemGrams() {
		if checkStates(t, g) {
			few++
		} else {
			many++
		}
	}
	if few < 1000 || many < 50 {
		t.Errorf("%d grammars have states and %d have too many", few, many)
	}
}

func TestExactlyTheMostStatesAndMore(t *testing.T) {
	for _, c := range []struct {
		why   string
		gram  string
		count int
	}{
		// State 0, one behind Start, 3 or 4 in each production of A, and 4 and 2 in those of B for each of four lookaheads.
		{"one less than the most", "A\nA>aBaa\nA>bBb\nA>cBc\nA>dBd\nB>abcd\nB>dc\n", 2 + 4 + 3*3 + 4*6},
		{"exactly the most", "A\nA>aBaa\nA>bBbb\nA>cBc\nA>dBd\nB>abcd\nB>dc\n", 2 + 2*4 + 2*3 + 4*6},
		{"one more than the most", "A\nA>aBaa\nA>bBbb\nA>cBcc\nA>dBd\nB>abcd\nB>dc\n", 2 + 3*4 + 3 + 4*6},
		{"two more than the most", "A\nA>aBaa\nA>bBbb\nA>cBcc\nA>dBdd\nB>abcd\nB>dc\n", 2 + 4*4 + 4*6},
		{"exactly the most, and the last one moves to others", "A\nA>d\nA>ccAA\nA>cAcA\n", 40},
		{"one more, which only the last of the most moves to", "A\nA>aba\nA>bAAA\nA>AaAa\n", 41},
		{"many more", "A\nA>aa\nA>cbAA\nA>aAca\nA>baAa\nA>AbA\nA>b\nA>\nA>cab\n", 104},
	} {
		g := read(t, c.gram)
		if all, _ := closingOf(g).states(1000); len(all) != c.count {
			t.Errorf("%s: there are %d states", c.why, len(all))
		}
		states, ok := impl.StatesOf(g)
		if fit := c.count <= 40; ok != fit || fit && len(states) != c.count || !fit && len(states) != 0 {
			t.Errorf("%s: %d states, %v", c.why, len(states), ok)
		}
		checkStates(t, g)
	}
}

// evidence has, for each string of symbols before a dot, the items that stand there in a rightmost derivation from Start:
// where the derivation goes from head, a nonterminal and terminals to head, a Right and these terminals,
// an item of that production stands behind head and a part of its Right, with the first of the terminals as its lookahead.
type evidence map[string][]impl.Item

func (e evidence) add(before string, x impl.Item) {
	if !slices.Contains(e[before], x) {
		e[before] = append(e[before], x)
	}
}

// evidenceOf follows as many steps as limit from forms that are no longer than longest.
func evidenceOf(g impl.Gram, longest, limit int) evidence {
	e := evidence{"": {item(-1, 0, "$")}, g.Start: {item(-1, 1, "$")}}
	forms, seen := []string{g.Start}, map[string]bool{g.Start: true}
	for at := 0; at < len(forms) && at < limit; at++ {
		last := strings.LastIndexAny(forms[at], bigs)
		if last < 0 {
			continue
		}
		head, left, tail := forms[at][:last], forms[at][last:last+1], forms[at][last+1:]
		for i, r := range g.Rules {
			if r.Left != left {
				continue
			}
			for dot := range len(r.Right) + 1 {
				e.add(head+r.Right[:dot], item(i, dot, (tail + "$")[:1]))
			}
			if form := head + r.Right + tail; len(form) <= longest && !seen[form] {
				seen[form] = true
				forms = append(forms, form)
			}
		}
	}
	return e
}

// itemsBehind moves from state 0 over the symbols of before.
func itemsBehind(g impl.Gram, before string) []impl.Item {
	items := impl.ItemsClose(g, []impl.Item{startItem()})
	for i := range len(before) {
		items = impl.ItemsMove(g, items, before[i:i+1])
	}
	return items
}

func TestItemsOfDerivationsAreInTheStates(t *testing.T) {
	for _, g := range itemGrams() {
		for before, items := range evidenceOf(g, 7, 20) {
			state := itemsBehind(g, before)
			for _, x := range items {
				if !slices.Contains(state, x) {
					t.Errorf("%q: %v stands behind %q, but not in %v", g, x, before, state)
				}
			}
		}
	}
}

func TestItemsOfTheStatesAreThoseOfDerivations(t *testing.T) {
	// Without useless productions, each item of a state stands in a derivation.
	for _, gram := range []string{
		"A\nA>aAb\nA>\n",
		"A\nA>AbA\nA>a\n",
		"A\nA>AbB\nA>B\nB>a\nB>cAd\n",
		"A\nA>BCD\nB>b\nC>c\nC>\nD>d\nD>\n",
		"A\nA>BC\nB>BC\nB>b\nC>\nC>cC\n",
		"C\nC>AB\nA>aA\nA>\nB>A\nB>Cb\n",
		"A\nA>Ba\nA>bBc\nA>dc\nA>bda\nB>d\n",
		"A\nA>AA\nA>a\nA>\n",
	} {
		g := read(t, gram)
		stands := map[string][]impl.Item{}
		for before, items := range evidenceOf(g, 12, 3000) {
			state := wantItemsText(g, itemsBehind(g, before))
			stands[state] = append(stands[state], items...)
		}
		states, _ := impl.StatesOf(g)
		if len(states) < 4 || len(states) != len(stands) {
			t.Errorf("%q: %d states, derivations stand in %d", gram, len(states), len(stands))
		}
		for i, state := range states {
			items := stands[wantItemsText(g, state)]
			slices.SortFunc(items, compareItems)
			if items = slices.Compact(items); !slices.Equal(items, state) {
				t.Errorf("%q: state %d is %v, in derivations stand %v", gram, i, state, items)
			}
		}
	}
}

func TestItemsOfInvalidGrams(t *testing.T) {
	lists := [][]impl.Item{nil, {}, {startItem()}, {item(-1, 1, "$")}, {item(0, 0, "$")}, {item(-1, 0, "$"), item(0, 0, "a")}, {item(0, 1, "b")}, {item(8, 0, "$")}, {{}}}
	for why, g := range badGrams {
		for _, list := range lists {
			checkNoItems(t, g, list)
			for _, x := range list {
				if impl.ItemOk(g, x) || impl.ItemNext(g, x) != "" {
					t.Errorf("%s: %v is no item", why, x)
				}
			}
		}
		if states, ok := impl.StatesOf(g); ok || len(states) != 0 {
			t.Errorf("%s: %d states, %v", why, len(states), ok)
		}
	}
}

func TestItemsLeaveTheirArgumentsAlone(t *testing.T) {
	// The spare capacity shows a write beyond the length of an argument.
	g := read(t, "A\nA>aAb\nA>\nA>Bc\nB>b\n")
	g.Rules = append(g.Rules, rule("X", "kept"))[:4]
	list := append(make([]impl.Item, 0, 40), item(-1, 0, "$"), item(0, 1, "c"))
	for i := range list[2:cap(list)] {
		list[:cap(list)][2+i] = item(99, i, "kept")
	}
	rules, items := slices.Clone(g.Rules[:5]), slices.Clone(list[:cap(list)])
	impl.ItemOk(g, list[1])
	impl.ItemNext(g, list[1])
	impl.ItemsOk(g, list)
	impl.ItemsText(g, list)
	impl.StatesOf(g)
	for _, result := range [][]impl.Item{impl.ItemsClose(g, list), impl.ItemsMove(g, list, "A"), impl.ItemsClose(g, list[1:1])} {
		for i := range result[:cap(result)] {
			result[:cap(result)][i] = item(7, 7, "x")
		}
	}
	if g.Start != "A" || !slices.Equal(g.Rules[:5], rules) || !slices.Equal(list[:cap(list)], items) {
		t.Errorf("%q, %v", g.Rules[:5], list[:cap(list)])
	}
	if got := impl.ItemsText(g, impl.ItemsClose(g, list[:1])); got != itemLines(".>.A $ / A>.aAb $ / A>. $ / A>.Bc $ / B>.b c") {
		t.Error(got)
	}
}

func TestClosedListIsNewMemory(t *testing.T) {
	g := read(t, "A\nA>aAb\nA>\n")
	closed := impl.ItemsClose(g, []impl.Item{startItem()})
	again := impl.ItemsClose(g, closed)
	again[0] = item(7, 7, "x")
	if closed[0] != startItem() {
		t.Error("the result shares memory with the argument")
	}
}

func TestStatesAreNewMemory(t *testing.T) {
	seen := map[*impl.Item]bool{}
	for _, gram := range []string{"A\nA>aAb\nA>\n", "A\nA>AbB\nA>B\nB>a\nB>cAd\n", "A\nA>aAb\nA>\n"} {
		states, _ := impl.StatesOf(read(t, gram))
		states = append(states, impl.ItemsClose(read(t, gram), states[0]), impl.ItemsMove(read(t, gram), states[0], "A"))
		for i, state := range states {
			room := state[:cap(state)]
			for j := range room {
				if seen[&room[j]] {
					t.Errorf("%q: memory of state %d is in use elsewhere", gram, i)
				}
				seen[&room[j]] = true
			}
		}
	}
}
