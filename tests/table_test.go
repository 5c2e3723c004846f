package tests

import (
	"cmp"
	"math"
	"slices"
	"strconv"
	"strings"
	"testing"

	"loop.example/construer/impl"
)

func move(from int, sign string, to int) impl.Move {
	return impl.Move{From: from, Sign: sign, To: to}
}

func end(state int, ahead string, rule int) impl.End {
	return impl.End{State: state, Ahead: ahead, Rule: rule}
}

func clash(state int, ahead string) impl.Clash {
	return impl.Clash{State: state, Ahead: ahead}
}

func isZeroTable(x impl.Table) bool {
	return x.Many == 0 && len(x.Moves) == 0 && len(x.Ends) == 0
}

func isSameTable(a, b impl.Table) bool {
	return a.Many == b.Many && slices.Equal(a.Moves, b.Moves) && slices.Equal(a.Ends, b.Ends)
}

func copyOfTable(x impl.Table) impl.Table {
	return impl.Table{Many: x.Many, Moves: slices.Clone(x.Moves), Ends: slices.Clone(x.Ends)}
}

// textOfTable writes a Move as its state, its symbol and the state that it leads to, and an End as its state, its lookahead and its Rule.
func textOfTable(x impl.Table) string {
	words := []string{strconv.Itoa(x.Many)}
	for _, m := range x.Moves {
		words = append(words, strconv.Itoa(m.From)+m.Sign+strconv.Itoa(m.To))
	}
	words = append(words, "/")
	for _, e := range x.Ends {
		words = append(words, strconv.Itoa(e.State)+e.Ahead+strconv.Itoa(e.Rule))
	}
	return strings.Join(words, " ")
}

func textOfClashes(list []impl.Clash) string {
	var words []string
	for _, c := range list {
		words = append(words, strconv.Itoa(c.State)+c.Ahead)
	}
	return strings.Join(words, " ")
}

// The functions from here to wantClash are the document's definitions, written out.

func wantTable(g impl.Gram) (impl.Table, bool) {
	c := closingOf(g)
	states, ok := c.states(40)
	table := impl.Table{Many: len(states)}
	for from, state := range states {
		for _, b := range symbolsOf(g, bigs) + symbolsOf(g, smalls) {
			target := c.move(state, string(b))
			for to, other := range states {
				if len(target) != 0 && slices.Equal(other, target) {
					table.Moves = append(table.Moves, move(from, string(b), to))
				}
			}
		}
		for _, x := range state {
			if x.Dot == len(itemRule(g, x.Rule).Right) {
				table.Ends = append(table.Ends, end(from, x.Ahead, x.Rule))
			}
		}
	}
	return table, ok
}

// wantTableOk expects a valid grammar.
func wantTableOk(g impl.Gram, x impl.Table) bool {
	ok := x.Many >= 1 && x.Many <= 40
	for _, m := range x.Moves {
		ok = ok && m.From >= 0 && m.From <= x.Many-1 && m.To >= 0 && m.To <= x.Many-1 && oneOf(m.Sign, bigs+smalls)
	}
	for _, e := range x.Ends {
		ok = ok && e.State >= 0 && e.State <= x.Many-1 && oneOf(e.Ahead, "$"+smalls) && e.Rule >= -1 && e.Rule <= len(g.Rules)-1
	}
	return ok
}

func wantGo(x impl.Table, state int, sign string) (int, bool) {
	for _, m := range x.Moves {
		if m.From == state && m.Sign == sign {
			return m.To, true
		}
	}
	return 0, false
}

func wantEnd(x impl.Table, state int, ahead string) (int, bool) {
	for _, e := range x.Ends {
		if e.State == state && e.Ahead == ahead {
			return e.Rule, true
		}
	}
	return 0, false
}

func wantClash(x impl.Table) []impl.Clash {
	var list []impl.Clash
	for i, e := range x.Ends {
		_, earlier := wantEnd(impl.Table{Ends: x.Ends[:i]}, e.State, e.Ahead)
		_, moves := wantGo(x, e.State, e.Ahead)
		if c := clash(e.State, e.Ahead); (earlier || moves) && !slices.Contains(list, c) {
			list = append(list, c)
		}
	}
	return list
}

// tableCases are tables written out by hand as textOfTable and textOfClashes write them.
var tableCases = []struct {
	why     string
	gram    string
	table   string
	clashes string
}{
	{"chapter 5's example", "A\nA>aAb\nA>\n",
		"8 0A1 0a2 2A3 2a4 3b5 4A6 4a4 6b7 / 0$1 1$-1 2b1 4b1 5$0 7b0", ""},
	{"a move to the state itself", "A\nA>aA\nA>b\n",
		"5 0A1 0a2 0b3 2A4 2a2 2b3 / 1$-1 3$1 4$0", ""},
	{"a move back to a state that was found before", "A\nA>aB\nB>bA\nB>\n",
		"6 0A1 0a2 2B3 2b4 4A5 4a2 / 1$-1 2$2 3$0 5$1", ""},
	{"states that differ only in a lookahead", "A\nA>Ba\nA>aBb\nB>c\n",
		"9 0A1 0B2 0a3 0c4 2a5 3B6 3c7 6b8 / 1$-1 4a2 5$0 7b2 8$1", ""},
	{"no productions", "E\n", "2 0E1 / 1$-1", ""},
	{"Start without productions", "D\nA>a\nB>D\n", "2 0D1 / 1$-1", ""},
	{"a nonterminal without productions", "A\nA>Bb\nA>b\n", "5 0A1 0B2 0b3 2b4 / 1$-1 3$1 4$0", ""},
	{"only an empty right side, reduced in state 0", "A\nA>\n", "2 0A1 / 0$0 1$-1", ""},
	{"an empty right side behind a terminal", "A\nA>aBb\nB>\n", "5 0A1 0a2 2B3 3b4 / 1$-1 2b1 4$0", ""},
	{"acceptance beside a shift", "A\nA>Aa\nA>b\n", "4 0A1 0b2 1a3 / 1$-1 2$1 2a1 3$0 3a0", ""},
	{"acceptance beside a reduction", "A\nA>A\n", "2 0A1 / 1$-1 1$0", "1$"},
	{"acceptance beside two reductions", "A\nA>B\nB>A\nA>A\n", "3 0A1 0B2 / 1$-1 1$1 1$2 2$0", "1$"},
	{"acceptance beside an empty right side", "A\nA>AB\nA>a\nB>\n", "4 0A1 0a2 1B3 / 1$-1 1$2 2$1 3$0", "1$"},
	{"two reductions", "A\nA>B\nA>C\nB>a\nC>a\n", "5 0A1 0B2 0C3 0a4 / 1$-1 2$0 3$1 4$2 4$3", "4$"},
	{"three reductions", "A\nA>B\nA>C\nA>D\nB>a\nC>a\nD>a\n",
		"6 0A1 0B2 0C3 0D4 0a5 / 1$-1 2$0 3$1 4$2 5$3 5$4 5$5", "5$"},
	{"two reductions of nothing", "A\nA>B\nA>C\nB>\nC>\n", "4 0A1 0B2 0C3 / 0$2 0$3 1$-1 2$0 3$1", "0$"},
	{"two reductions with two lookaheads", "A\nA>B\nA>C\nA>Ba\nA>Ca\nB>b\nC>b\n",
		"7 0A1 0B2 0C3 0b4 2a5 3a6 / 1$-1 2$0 3$1 4$4 4a4 4$5 4a5 5$2 6$3", "4$ 4a"},
	{"two reductions with different lookaheads", "A\nA>Ba\nA>Cb\nB>c\nC>c\n",
		"7 0A1 0B2 0C3 0c4 2a5 3b6 / 1$-1 4a2 4b3 5$0 6$1", ""},
	{"a shift and a reduction", "A\nA>AbA\nA>a\n", "5 0A1 0a2 1b3 3A4 3a2 4b3 / 1$-1 2$1 2b1 4$0 4b0", "4b"},
	{"two shifts and two reductions", "A\nA>AaA\nA>AbA\nA>c\n",
		"7 0A1 0c2 1a3 1b4 3A5 3c2 4A6 4c2 5a3 5b4 6a3 6b4 / 1$-1 2$2 2a2 2b2 5$0 5a0 5b0 6$1 6a1 6b1", "5a 5b 6a 6b"},
	{"a shift and two reductions", "A\nA>Ba\nA>Ca\nA>ba\nB>b\nC>b\n",
		"8 0A1 0B2 0C3 0b4 2a5 3a6 4a7 / 1$-1 4a3 4a4 5$0 6$1 7$2", "4a"},
	{"a shift and an empty right side, of an unambiguous grammar", "A\nA>Ba\nB>\nB>a\n",
		"5 0A1 0B2 0a3 2a4 / 0a1 1$-1 3a2 4$0", "0a"},
	{"nonterminals before terminals, each in order", "C\nC>b\nC>Ba\nC>aB\nB>A\nA>\n",
		"9 0A1 0B2 0C3 0a4 0b5 2a6 4A7 4B8 / 0a4 1a3 3$-1 4$4 5$0 6$1 7$3 8$2", "0a"},
}

func TestTablesWrittenOutByHand(t *testing.T) {
	for _, c := range tableCases {
		x, ok := impl.TableOf(read(t, c.gram))
		if got := textOfTable(x); !ok || got != c.table {
			t.Errorf("%s: %s, %v, want %s", c.why, got, ok, c.table)
		}
		if got := textOfClashes(impl.TableClash(x)); got != c.clashes {
			t.Errorf("%s: conflicts %s, want %s", c.why, got, c.clashes)
		}
		checkTableOf(t, read(t, c.gram))
	}
}

func TestNumberOfConflicts(t *testing.T) {
	for _, c := range []struct {
		why     string
		gram    string
		many    int
		clashes int
	}{
		{"chapter 16's example", "A\nA>AbB\nA>B\nB>a\nB>cAd\n", 16, 0},
		{"not to be told apart with fewer states", "A\nA>aBa\nA>bCa\nA>aCb\nA>bBb\nB>c\nC>c\n", 14, 0},
		{"not to be told apart by FOLLOW sets", "A\nA>Ba\nA>bBc\nA>dc\nA>bda\nB>d\n", 11, 0},
		{"two lookaheads would be needed", "A\nA>Bab\nA>Cac\nB>d\nC>d\n", 9, 1},
	} {
		x, ok := impl.TableOf(read(t, c.gram))
		if got := len(impl.TableClash(x)); !ok || x.Many != c.many || got != c.clashes {
			t.Errorf("%s: %d states and %d conflicts, %v", c.why, x.Many, got, ok)
		}
		checkTableOf(t, read(t, c.gram))
	}
}

// checkTableOf expects the table of the definition, and what P6 needs of it. It returns whether there is a table.
func checkTableOf(t *testing.T, g impl.Gram) bool {
	t.Helper()
	got, ok := impl.TableOf(g)
	want, few := wantTable(g)
	if ok != few || !isSameTable(got, want) {
		t.Errorf("TableOf(%q) = %s, %v, want %s, %v", g, textOfTable(got), ok, textOfTable(want), few)
	}
	if !ok {
		return false
	}
	if !impl.TableOk(g, got) {
		t.Errorf("%q: the table %s is not valid", g, textOfTable(got))
	}
	if list := impl.TableClash(got); !slices.Equal(list, wantClash(want)) {
		t.Errorf("%q: conflicts %s, want %s", g, textOfClashes(list), textOfClashes(wantClash(want)))
	}
	checkMovesOfTable(t, g, got)
	checkEndsOfTable(t, g, got)
	return true
}

// checkMovesOfTable compares the Moves with what chapter 5 says of the states.
func checkMovesOfTable(t *testing.T, g impl.Gram, x impl.Table) {
	t.Helper()
	states, ok := impl.StatesOf(g)
	if !ok || x.Many != len(states) {
		t.Fatalf("%q: %d states, want %d", g, x.Many, len(states))
	}
	count := 0
	for from, state := range states {
		for _, b := range bigs + smalls {
			target := impl.ItemsMove(g, state, string(b))
			to, found := impl.TableGo(x, from, string(b))
			if found != (len(target) != 0) || found && !slices.Equal(states[to], target) {
				t.Errorf("%q: state %d goes by %c to %d, %v, want %v", g, from, b, to, found, target)
			}
			if found {
				count++
			}
		}
	}
	ordered := slices.IsSortedFunc(x.Moves, func(a, b impl.Move) int {
		return cmp.Or(cmp.Compare(a.From, b.From), strings.Compare(a.Sign, b.Sign))
	})
	if count != len(x.Moves) || !ordered {
		t.Errorf("%q: %d moves are not %d in order: %v", g, len(x.Moves), count, x.Moves)
	}
}

// checkEndsOfTable compares the Ends with what chapter 5 says of the states.
func checkEndsOfTable(t *testing.T, g impl.Gram, x impl.Table) {
	t.Helper()
	states, _ := impl.StatesOf(g)
	var ends []impl.End
	for at, state := range states {
		first := map[string]int{}
		for _, y := range state {
			if impl.ItemNext(g, y) != "" {
				continue
			}
			ends = append(ends, end(at, y.Ahead, y.Rule))
			if _, known := first[y.Ahead]; !known {
				first[y.Ahead] = y.Rule
			}
		}
		for _, b := range "$" + smalls {
			want, known := first[string(b)]
			if got, found := impl.TableEnd(x, at, string(b)); got != want || found != known {
				t.Errorf("%q: in state %d with %c ahead %d is reduced, %v, want %d, %v", g, at, b, got, found, want, known)
			}
		}
	}
	if !slices.Equal(x.Ends, ends) {
		t.Errorf("%q: the Ends are %v, want %v", g, x.Ends, ends)
	}
}

func TestTablesAreThoseOfTheStates(t *testing.T) {
	few, many, clashing := 0, 0, 0
	for _, g := range itemGrams() {
		if !checkTableOf(t, g) {
			many++
			continue
		}
		few++
		if x, _ := impl.TableOf(g); len(impl.TableClash(x)) != 0 {
			clashing++
		}
	}
	if few < 1000 || many < 50 || clashing < 300 {
		t.Errorf("%d grammars have tables, %d of them with conflicts, and %d have too many states", few, clashing, many)
	}
}

func TestActionsOfTheNamedEdges(t *testing.T) {
	for _, c := range []struct {
		why   string
		gram  string
		state int
		ahead string
		rule  int
		found bool
		to    int
		goes  bool
	}{
		{"the first of two reductions counts", "A\nA>B\nA>C\nB>a\nC>a\n", 4, "$", 2, true, 0, false},
		{"the first of three reductions counts", "A\nA>B\nA>C\nA>D\nB>a\nC>a\nD>a\n", 5, "$", 3, true, 0, false},
		{"the first by its index, not by its nonterminal", "A\nA>B\nA>C\nC>a\nB>a\n", 4, "$", 2, true, 0, false},
		{"a shift and a reduction are both there", "A\nA>AbA\nA>a\n", 4, "b", 0, true, 3, true},
		{"the same state, but the end is ahead", "A\nA>AbA\nA>a\n", 4, "$", 0, true, 0, false},
		{"acceptance", "A\nA>AbA\nA>a\n", 1, "$", -1, true, 0, false},
		{"no acceptance before the end", "A\nA>AbA\nA>a\n", 1, "b", 0, false, 3, true},
		{"acceptance counts before another reduction", "A\nA>A\n", 1, "$", -1, true, 0, false},
		{"acceptance counts before that of nothing", "A\nA>AB\nA>a\nB>\n", 1, "$", -1, true, 0, false},
		{"nothing is reduced where it is found", "A\nA>aAb\nA>\n", 0, "$", 1, true, 0, false},
		{"nothing is reduced with the terminal behind it ahead", "A\nA>aAb\nA>\n", 2, "b", 1, true, 0, false},
		{"not with another one", "A\nA>aAb\nA>\n", 2, "$", 0, false, 0, false},
	} {
		x, _ := impl.TableOf(read(t, c.gram))
		if rule, found := impl.TableEnd(x, c.state, c.ahead); rule != c.rule || found != c.found {
			t.Errorf("%s: TableEnd is %d, %v", c.why, rule, found)
		}
		if to, goes := impl.TableGo(x, c.state, c.ahead); to != c.to || goes != c.goes {
			t.Errorf("%s: TableGo is %d, %v", c.why, to, goes)
		}
	}
}

// noSigns are neither symbols nor the end of the input.
var noSigns = []string{"", " ", "$$", "$a", "a$", "aa", "ab", "aA", "Aa", "AB", "abcd", "e", "F", "@", "`", "x", ".", "\x00", "\xff", "a\x00", "a\n", "\xe1", "\u0430", strings.Repeat("a", 100000)}

func TestActionsThatAreNotThere(t *testing.T) {
	x, _ := impl.TableOf(read(t, "A\nA>aAb\nA>\n"))
	for _, state := range numbersAround(x.Many) {
		signs := append(strings.Split("$"+bigs+smalls, ""), noSigns...)
		for _, sign := range signs {
			to, goes := impl.TableGo(x, state, sign)
			if want, found := wantGo(x, state, sign); to != want || goes != found {
				t.Errorf("TableGo of %d and %.20q = %d, %v", state, sign, to, goes)
			}
			rule, ends := impl.TableEnd(x, state, sign)
			if want, found := wantEnd(x, state, sign); rule != want || ends != found {
				t.Errorf("TableEnd of %d and %.20q = %d, %v", state, sign, rule, ends)
			}
			if (goes || ends) && (state < 0 || state >= 8 || slices.Contains(noSigns, sign)) {
				t.Errorf("state %d and %.20q are not in the table", state, sign)
			}
		}
	}
	for _, state := range numbersAround(2) {
		to, goes := impl.TableGo(impl.Table{}, state, "a")
		rule, ends := impl.TableEnd(impl.Table{Many: 3}, state, "$")
		if to != 0 || goes || rule != 0 || ends {
			t.Errorf("an empty table has an action in state %d", state)
		}
	}
}

func TestActionsOfTablesOfAnyForm(t *testing.T) {
	x := impl.Table{
		Many:  -3,
		Moves: []impl.Move{move(-1, "", 7), move(-1, "ab", math.MinInt), move(5, "a", -4), move(5, "a", 6), move(5, "$", 0), move(0, "\xff", 9)},
		Ends:  []impl.End{end(-1, "", 7), end(-1, "ab", math.MaxInt), end(5, "A", -9), end(5, "A", 6), end(5, "$", 0), end(0, "\xff", -2)},
	}
	for _, c := range []struct {
		state int
		sign  string
		to    int
		goes  bool
		rule  int
		ends  bool
	}{
		{-1, "", 7, true, 7, true},
		{-1, "ab", math.MinInt, true, math.MaxInt, true},
		{-1, "a", 0, false, 0, false},
		{-2, "", 0, false, 0, false},
		{5, "a", -4, true, 0, false},
		{5, "A", 0, false, -9, true},
		{5, "$", 0, true, 0, true},
		{0, "\xff", 9, true, -2, true},
		{0, "\xfe", 0, false, 0, false},
		{0, "\ufffd", 0, false, 0, false},
		{0, "", 0, false, 0, false},
	} {
		if to, goes := impl.TableGo(x, c.state, c.sign); to != c.to || goes != c.goes {
			t.Errorf("TableGo of %d and %q = %d, %v", c.state, c.sign, to, goes)
		}
		if rule, ends := impl.TableEnd(x, c.state, c.sign); rule != c.rule || ends != c.ends {
			t.Errorf("TableEnd of %d and %q = %d, %v", c.state, c.sign, rule, ends)
		}
	}
}

func TestConflictsOfTablesOfAnyForm(t *testing.T) {
	for _, c := range []struct {
		why   string
		moves []impl.Move
		ends  []impl.End
		want  []impl.Clash
	}{
		{"an empty table", nil, nil, nil},
		{"one End", nil, []impl.End{end(0, "a", 1)}, nil},
		{"one Move", []impl.Move{move(0, "a", 1)}, nil, nil},
		{"Moves alone are none", []impl.Move{move(0, "a", 1), move(0, "a", 1), move(0, "a", 2)}, nil, nil},
		{"the same End twice", nil, []impl.End{end(0, "a", 1), end(0, "a", 1)}, []impl.Clash{clash(0, "a")}},
		{"two Ends", nil, []impl.End{end(0, "a", 1), end(0, "a", 0)}, []impl.Clash{clash(0, "a")}},
		{"five Ends are one", nil, []impl.End{end(0, "a", 1), end(0, "a", 0), end(0, "a", 3), end(0, "a", 0), end(0, "a", -1)}, []impl.Clash{clash(0, "a")}},
		{"another state", nil, []impl.End{end(0, "a", 1), end(1, "a", 1)}, nil},
		{"another lookahead", nil, []impl.End{end(0, "a", 1), end(0, "b", 1)}, nil},
		{"a Move and an End", []impl.Move{move(0, "a", 1)}, []impl.End{end(0, "a", 0)}, []impl.Clash{clash(0, "a")}},
		{"the Move's To does not count", []impl.Move{move(0, "a", 1)}, []impl.End{end(1, "a", 0)}, nil},
		{"a Move by another symbol", []impl.Move{move(0, "b", 0)}, []impl.End{end(0, "a", 0)}, nil},
		{"a Move and three Ends are one", []impl.Move{move(0, "a", 1)}, []impl.End{end(0, "a", 0), end(0, "a", 1), end(0, "a", 2)}, []impl.Clash{clash(0, "a")}},
		{"two Moves and an End", []impl.Move{move(0, "a", 1), move(0, "a", 2)}, []impl.End{end(0, "a", 0)}, []impl.Clash{clash(0, "a")}},
		{"three Moves and two Ends", []impl.Move{move(0, "a", 1), move(0, "a", 2), move(0, "a", 0)}, []impl.End{end(0, "a", 0), end(0, "a", 1)}, []impl.Clash{clash(0, "a")}},
		{"a Move by the end of the input", []impl.Move{move(0, "$", 1)}, []impl.End{end(0, "$", -1)}, []impl.Clash{clash(0, "$")}},
		{"a nonterminal ahead", []impl.Move{move(0, "A", 1)}, []impl.End{end(0, "A", 0)}, []impl.Clash{clash(0, "A")}},
		{"nothing ahead", []impl.Move{move(-1, "", 1)}, []impl.End{end(-1, "", 0)}, []impl.Clash{clash(-1, "")}},
		{"bytes that are no text", nil, []impl.End{end(0, "\xff", 0), end(0, "\xfe", 0), end(0, "\xff", 0)}, []impl.Clash{clash(0, "\xff")}},
		{"more than one terminal", nil, []impl.End{end(0, "ab", 0), end(0, "a", 0), end(0, "ab", 0)}, []impl.Clash{clash(0, "ab")}},
		{"states and lookaheads that are alike when written", nil, []impl.End{end(1, "1a", 0), end(11, "a", 0), end(-1, "a", 0)}, nil},
		{"in the order in which they are found", nil,
			[]impl.End{end(1, "a", 0), end(0, "b", 0), end(0, "a", 0), end(0, "b", 1), end(1, "a", 1), end(0, "a", 1), end(1, "a", 2)},
			[]impl.Clash{clash(0, "b"), clash(1, "a"), clash(0, "a")}},
		{"a Move makes one of the first End", []impl.Move{move(1, "a", 0)},
			[]impl.End{end(0, "b", 0), end(1, "a", 0), end(0, "b", 1), end(1, "a", 1)},
			[]impl.Clash{clash(1, "a"), clash(0, "b")}},
		{"a Move that no End needs", []impl.Move{move(1, "a", 0), move(0, "b", 0)},
			[]impl.End{end(0, "b", 0), end(1, "b", 0)}, []impl.Clash{clash(0, "b")}},
	} {
		for _, many := range []int{-1, 0, 2, 41} {
			x := impl.Table{Many: many, Moves: c.moves, Ends: c.ends}
			if got := impl.TableClash(x); !slices.Equal(got, c.want) {
				t.Errorf("%s: %v", c.why, got)
			}
			if want := wantClash(x); !slices.Equal(want, c.want) {
				t.Errorf("%s: the definition says %v", c.why, want)
			}
		}
	}
}

// anyTables returns tables of few states and symbols, most of them not valid, so that entries often meet.
func anyTables() []impl.Table {
	var tables []impl.Table
	pick := picker(17)
	signs := []string{"a", "b", "a", "b", "A", "$", "$", "", "ab", "e", "\xff"}
	for len(tables) < 4000 {
		// Half of the tables have only entries that may be valid.
		few, below := len(signs), 2
		if len(tables)%2 == 0 {
			few, below = 4, 0
		}
		x := impl.Table{Many: pick(6)}
		for range pick(7) {
			x.Moves = append(x.Moves, move(pick(3)-pick(below+1), signs[pick(few)], pick(4)-pick(below+1)))
		}
		for range pick(7) {
			x.Ends = append(x.Ends, end(pick(3)-pick(below+1), signs[pick(few)], pick(4)-pick(below+1)))
		}
		tables = append(tables, x)
	}
	return tables
}

func TestTablesOfAnyFormAreReadAsDefined(t *testing.T) {
	g := read(t, "A\nA>aAb\nA>\nA>b\n")
	valid := 0
	for _, x := range anyTables() {
		ok := wantTableOk(g, x)
		if got := impl.TableOk(g, x); got != ok {
			t.Errorf("TableOk of %.300q is %v", textOfTable(x), got)
		}
		if ok {
			valid++
		}
		if got, want := impl.TableClash(x), wantClash(x); !slices.Equal(got, want) {
			t.Errorf("TableClash of %.300q is %v, want %v", textOfTable(x), got, want)
		}
		for state := -3; state <= 4; state++ {
			for _, sign := range []string{"a", "b", "A", "$", "", "ab", "e", "\xff", "c"} {
				checkActions(t, x, state, sign)
			}
		}
	}
	if valid < 300 {
		t.Errorf("only %d of the tables are valid", valid)
	}
}

func checkActions(t *testing.T, x impl.Table, state int, sign string) {
	t.Helper()
	to, goes := impl.TableGo(x, state, sign)
	if want, found := wantGo(x, state, sign); to != want || goes != found {
		t.Errorf("TableGo of %.300q in %d by %q is %d, %v, want %d, %v", textOfTable(x), state, sign, to, goes, want, found)
	}
	rule, ends := impl.TableEnd(x, state, sign)
	if want, found := wantEnd(x, state, sign); rule != want || ends != found {
		t.Errorf("TableEnd of %.300q in %d with %q is %d, %v, want %d, %v", textOfTable(x), state, sign, rule, ends, want, found)
	}
}

func TestVeryLongTables(t *testing.T) {
	var x impl.Table
	const count = 200000
	for i := range count {
		x.Moves = append(x.Moves, move(i, "a", i))
		x.Ends = append(x.Ends, end(i, "b", i))
	}
	if got := impl.TableClash(x); len(got) != 0 {
		t.Errorf("%d conflicts", len(got))
	}
	x.Ends = append(x.Ends, end(0, "b", 0), end(count-1, "a", 0))
	if got := impl.TableClash(x); !slices.Equal(got, []impl.Clash{clash(0, "b"), clash(count-1, "a")}) {
		t.Errorf("%.10v", got)
	}
	if to, ok := impl.TableGo(x, count-1, "a"); to != count-1 || !ok {
		t.Error(to, ok)
	}
	if impl.TableOk(read(t, "A\n"), x) || !impl.TableSame(x, copyOfTable(x)) {
		t.Error("a table of too many states, equal to its copy")
	}
}

func TestValidTables(t *testing.T) {
	g := read(t, "A\nA>aAb\nA>\nB>c\n")
	moves := func(list ...impl.Move) impl.Table { return impl.Table{Many: 3, Moves: list} }
	ends := func(list ...impl.End) impl.Table { return impl.Table{Many: 3, Ends: list} }
	for _, c := range []struct {
		why   string
		table impl.Table
		ok    bool
	}{
		{"the zero value", impl.Table{}, false},
		{"no entries and one state", impl.Table{Many: 1}, true},
		{"empty slices", impl.Table{Many: 1, Moves: []impl.Move{}, Ends: []impl.End{}}, true},
		{"less than no states", impl.Table{Many: -1}, false},
		{"the most states", impl.Table{Many: 40}, true},
		{"one state more", impl.Table{Many: 41}, false},
		{"very many states", impl.Table{Many: math.MaxInt}, false},
		{"as few as possible", impl.Table{Many: math.MinInt}, false},
		{"the last of the most states", impl.Table{Many: 40, Moves: []impl.Move{move(39, "a", 39)}, Ends: []impl.End{end(39, "a", 0)}}, true},
		{"the only state", impl.Table{Many: 1, Moves: []impl.Move{move(0, "a", 0)}, Ends: []impl.End{end(0, "$", -1)}}, true},
		{"entries without a state", impl.Table{Many: 0, Moves: []impl.Move{move(0, "a", 0)}, Ends: []impl.End{end(0, "$", -1)}}, false},
		{"from the first state to the last", moves(move(0, "a", 2)), true},
		{"from the last state to the first", moves(move(2, "a", 0)), true},
		{"from state -1", moves(move(-1, "a", 0)), false},
		{"from state Many", moves(move(3, "a", 0)), false},
		{"to state -1", moves(move(0, "a", -1)), false},
		{"to state Many", moves(move(0, "a", 3)), false},
		{"by the first terminal", moves(move(0, "a", 1)), true},
		{"by the last terminal, which does not occur", moves(move(0, "d", 1)), true},
		{"by the first nonterminal", moves(move(0, "A", 1)), true},
		{"by the last nonterminal, which does not occur", moves(move(0, "E", 1)), true},
		{"by the end of the input", moves(move(0, "$", 1)), false},
		{"by nothing", moves(move(0, "", 1)), false},
		{"by two symbols", moves(move(0, "ab", 1)), false},
		{"the same Move twice", moves(move(0, "a", 1), move(0, "a", 1)), true},
		{"two Moves by one symbol, in no order", moves(move(2, "b", 1), move(0, "a", 1), move(0, "a", 2)), true},
		{"the second Move is not valid", moves(move(0, "a", 1), move(0, "a", 3)), false},
		{"the first Move is not valid", moves(move(0, "a", 3), move(0, "a", 1)), false},
		{"in state -1", ends(end(-1, "a", 0)), false},
		{"in the first state", ends(end(0, "a", 0)), true},
		{"in the last state", ends(end(2, "a", 0)), true},
		{"in state Many", ends(end(3, "a", 0)), false},
		{"the end ahead", ends(end(0, "$", 0)), true},
		{"the last terminal ahead, which does not occur", ends(end(0, "d", 0)), true},
		{"a nonterminal ahead", ends(end(0, "A", 0)), false},
		{"nothing ahead", ends(end(0, "", 0)), false},
		{"two ahead", ends(end(0, "ab", 0)), false},
		{"two ends ahead", ends(end(0, "$$", 0)), false},
		{"Rule -2", ends(end(0, "$", -2)), false},
		{"Rule -1", ends(end(0, "$", -1)), true},
		{"Rule -1 with a terminal ahead", ends(end(0, "a", -1)), true},
		{"the last production", ends(end(0, "a", 2)), true},
		{"one production more", ends(end(0, "a", 3)), false},
		{"the same End twice", ends(end(0, "a", 2), end(0, "a", 2)), true},
		{"two Ends with one lookahead, in no order", ends(end(2, "b", 2), end(0, "a", 2), end(0, "a", 1)), true},
		{"the second End is not valid", ends(end(0, "a", 2), end(0, "a", 3)), false},
		{"the first End is not valid", ends(end(0, "a", 3), end(0, "a", 2)), false},
		{"a Move and an End in one place", impl.Table{Many: 2, Moves: []impl.Move{move(0, "a", 1)}, Ends: []impl.End{end(0, "a", 0)}}, true},
	} {
		if got := impl.TableOk(g, c.table); got != c.ok {
			t.Errorf("%s: %v", c.why, got)
		}
	}
	if none := impl.TableOk(gramOf("A"), ends(end(0, "$", 0))); none {
		t.Error("a grammar without productions has no production 0")
	}
	if all := impl.TableOk(eightRules(), ends(end(0, "$", 7))); !all {
		t.Error("the last of eight productions")
	}
	if more := impl.TableOk(eightRules(), ends(end(0, "$", 8))); more {
		t.Error("one more than the last of eight productions")
	}
}

func TestTablesWithOneFieldChanged(t *testing.T) {
	g := read(t, "A\nA>AbB\nA>B\nB>a\nB>cAd\n")
	x, _ := impl.TableOf(g)
	checkChange := func(y impl.Table) {
		t.Helper()
		if got, want := impl.TableOk(g, y), wantTableOk(g, y); got != want {
			t.Errorf("TableOk of %.300q is %v", textOfTable(y), got)
		}
		if got, same := impl.TableSame(x, y), isSameTable(x, y); got != same || impl.TableSame(y, x) != same || !impl.TableSame(y, copyOfTable(y)) {
			t.Errorf("TableSame of %.300q is %v", textOfTable(y), got)
		}
	}
	numbers := numbersAround(x.Many)
	signs := append(strings.Split("$"+bigs+smalls, ""), noSigns...)
	for _, n := range append(numbers, 38, 39, 40, 41, 42) {
		y := copyOfTable(x)
		y.Many = n
		checkChange(y)
	}
	for i := range x.Moves {
		for _, n := range numbers {
			y := copyOfTable(x)
			y.Moves[i].From = n
			checkChange(y)
			y = copyOfTable(x)
			y.Moves[i].To = n
			checkChange(y)
		}
		for _, sign := range signs {
			y := copyOfTable(x)
			y.Moves[i].Sign = sign
			checkChange(y)
		}
	}
	for i := range x.Ends {
		for _, n := range numbers {
			y := copyOfTable(x)
			y.Ends[i].State = n
			checkChange(y)
			y = copyOfTable(x)
			y.Ends[i].Rule = n
			checkChange(y)
		}
		for _, sign := range signs {
			y := copyOfTable(x)
			y.Ends[i].Ahead = sign
			checkChange(y)
		}
	}
}

func TestTableSame(t *testing.T) {
	m, n := move(0, "a", 1), move(1, "B", 0)
	e, f := end(0, "$", -1), end(1, "b", 0)
	x := impl.Table{Many: 2, Moves: []impl.Move{m, n}, Ends: []impl.End{e, f}}
	for _, c := range []struct {
		why  string
		a, b impl.Table
		want bool
	}{
		{"itself", x, x, true},
		{"a copy", x, copyOfTable(x), true},
		{"zero values", impl.Table{}, impl.Table{}, true},
		{"empty beside nil", impl.Table{Many: 1, Moves: []impl.Move{}, Ends: []impl.End{}}, impl.Table{Many: 1}, true},
		{"empty with room beside nil", impl.Table{Moves: make([]impl.Move, 0, 4), Ends: make([]impl.End, 0, 4)}, impl.Table{}, true},
		{"empty Moves beside one", impl.Table{Moves: []impl.Move{}}, impl.Table{Moves: []impl.Move{{}}}, false},
		{"empty Ends beside one", impl.Table{Ends: []impl.End{}}, impl.Table{Ends: []impl.End{{}}}, false},
		{"zero entries of different numbers", impl.Table{Moves: make([]impl.Move, 2)}, impl.Table{Moves: make([]impl.Move, 3)}, false},
		{"not valid, and equal", impl.Table{Many: -5, Moves: []impl.Move{move(9, "xyz", -9)}, Ends: []impl.End{end(-1, "\xff", 99)}},
			impl.Table{Many: -5, Moves: []impl.Move{move(9, "xyz", -9)}, Ends: []impl.End{end(-1, "\xff", 99)}}, true},
		{"Many", x, impl.Table{Many: 3, Moves: x.Moves, Ends: x.Ends}, false},
		{"From", x, impl.Table{Many: 2, Moves: []impl.Move{move(1, "a", 1), n}, Ends: x.Ends}, false},
		{"Sign", x, impl.Table{Many: 2, Moves: []impl.Move{m, move(1, "b", 0)}, Ends: x.Ends}, false},
		{"To", x, impl.Table{Many: 2, Moves: []impl.Move{m, move(1, "B", 1)}, Ends: x.Ends}, false},
		{"State", x, impl.Table{Many: 2, Moves: x.Moves, Ends: []impl.End{end(1, "$", -1), f}}, false},
		{"Ahead", x, impl.Table{Many: 2, Moves: x.Moves, Ends: []impl.End{e, end(1, "$", 0)}}, false},
		{"Rule", x, impl.Table{Many: 2, Moves: x.Moves, Ends: []impl.End{e, end(1, "b", 1)}}, false},
		{"the order of the Moves", x, impl.Table{Many: 2, Moves: []impl.Move{n, m}, Ends: x.Ends}, false},
		{"the order of the Ends", x, impl.Table{Many: 2, Moves: x.Moves, Ends: []impl.End{f, e}}, false},
		{"a Move less", x, impl.Table{Many: 2, Moves: x.Moves[:1], Ends: x.Ends}, false},
		{"no Moves", x, impl.Table{Many: 2, Ends: x.Ends}, false},
		{"an End less", x, impl.Table{Many: 2, Moves: x.Moves, Ends: x.Ends[:1]}, false},
		{"no Ends", x, impl.Table{Many: 2, Moves: x.Moves}, false},
		{"a Move twice", x, impl.Table{Many: 2, Moves: []impl.Move{m, n, n}, Ends: x.Ends}, false},
		{"an End twice", x, impl.Table{Many: 2, Moves: x.Moves, Ends: []impl.End{e, f, f}}, false},
	} {
		if got, back := impl.TableSame(c.a, c.b), impl.TableSame(c.b, c.a); got != c.want || back != c.want {
			t.Errorf("%s: %v, %v", c.why, got, back)
		}
	}
	tables := anyTables()[:150]
	for i, a := range tables {
		for j, b := range tables {
			if got := impl.TableSame(a, b); got != isSameTable(a, b) || i == j && !got {
				t.Errorf("TableSame of %q and %q is %v", textOfTable(a), textOfTable(b), got)
			}
		}
	}
}

func TestTablesOfInvalidGrams(t *testing.T) {
	for why, g := range badGrams {
		if x, ok := impl.TableOf(g); ok || !isZeroTable(x) {
			t.Errorf("%s: TableOf is %s, %v", why, textOfTable(x), ok)
		}
		for _, x := range []impl.Table{{}, {Many: 1}, {Many: 2, Moves: []impl.Move{move(0, "A", 1)}, Ends: []impl.End{end(1, "$", -1)}}} {
			if impl.TableOk(g, x) {
				t.Errorf("%s: %s is no table of it", why, textOfTable(x))
			}
		}
	}
}

func TestTablesOfTheMostStatesAndMore(t *testing.T) {
	for _, c := range []struct {
		gram string
		many int
	}{
		{"A\nA>aBaa\nA>bBb\nA>cBc\nA>dBd\nB>abcd\nB>dc\n", 39},
		{"A\nA>aBaa\nA>bBbb\nA>cBc\nA>dBd\nB>abcd\nB>dc\n", 40},
		{"A\nA>d\nA>ccAA\nA>cAcA\n", 40},
		{"A\nA>aBaa\nA>bBbb\nA>cBcc\nA>dBd\nB>abcd\nB>dc\n", 0},
		{"A\nA>aba\nA>bAAA\nA>AaAa\n", 0},
		{"A\nA>aa\nA>cbAA\nA>aAca\nA>baAa\nA>AbA\nA>b\nA>\nA>cab\n", 0},
	} {
		g := read(t, c.gram)
		x, ok := impl.TableOf(g)
		if ok != (c.many != 0) || x.Many != c.many || !ok && !isZeroTable(x) {
			t.Errorf("%q: %s, %v", c.gram, textOfTable(x), ok)
		}
		if impl.TableOk(g, x) != ok || !impl.TableOk(g, impl.Table{Many: 40}) || impl.TableOk(g, impl.Table{Many: 41}) {
			t.Errorf("%q: a table is valid also if it is not that of the grammar", c.gram)
		}
		checkTableOf(t, g)
	}
}

// plainGrams returns grammars of which many have no conflict: few productions, each with a terminal of its own in front.
func plainGrams() []impl.Gram {
	var grams []impl.Gram
	pick := picker(23)
	for len(grams) < 1000 {
		lefts := bigs[:1+pick(3)]
		rules := pickRules(pick, 2+pick(5), lefts, lefts+smalls[:2+pick(3)])
		for i, r := range rules {
			if pick(4) != 0 && len(r.Right) < 4 {
				rules[i].Right = string(smalls[(i+pick(2))%4]) + r.Right
			}
		}
		if g := gramOf("A", rules...); impl.GramOk(g) {
			grams = append(grams, g)
		}
	}
	return grams
}

// conflictFree calls visit with each grammar of many whose table has no conflict.
func conflictFree(t *testing.T, visit func(g impl.Gram, x impl.Table)) {
	t.Helper()
	grams := slices.Concat(itemGrams(), plainGrams())
	for _, c := range tableCases {
		grams = append(grams, read(t, c.gram))
	}
	for _, g := range grams {
		if x, ok := impl.TableOf(g); ok && len(impl.TableClash(x)) == 0 {
			visit(g, x)
		}
	}
}

func TestWithoutConflictsNoStringHasTwoTrees(t *testing.T) {
	grams, words := 0, 0
	conflictFree(t, func(g impl.Gram, _ impl.Table) {
		if word, found := impl.AllDoubt(g, 4); found {
			t.Errorf("%q: no conflict, but %q is in doubt", g, word)
		}
		several := 0
		for _, text := range textsOver(impl.GramSmalls(g), 5) {
			switch trees := impl.AllTrees(g, text); len(trees) {
			case 0:
			case 1:
				several++
			default:
				t.Errorf("%q: no conflict, but %q has the trees %s", g, text, textOfTrees(trees))
			}
		}
		if several > 1 {
			grams++
			words += several
		}
	})
	if grams < 200 || words < 2000 {
		t.Errorf("only %d grammars without a conflict have several strings, %d in all", grams, words)
	}
}

func TestWithoutConflictsDifferentTreesHaveDifferentYields(t *testing.T) {
	// These trees are enumerated without chapter 4, and their yields may be longer than its strings.
	grams := 0
	conflictFree(t, func(g impl.Gram, _ impl.Table) {
		known := map[string]impl.Tree{}
		for _, tree := range treesOf(g, g.Start, 6, 60) {
			yield := yieldOf(tree)
			if other, found := known[yield]; found {
				t.Errorf("%q: no conflict, but %q has the trees %s", g, yield, textOfTrees([]impl.Tree{other, tree}))
			}
			known[yield] = tree
		}
		if len(known) > 5 {
			grams++
		}
	})
	if grams < 150 {
		t.Errorf("only %d grammars have several trees", grams)
	}
}

func TestAmbiguousGramsHaveConflicts(t *testing.T) {
	doubtful := 0
	for _, g := range slices.Concat(itemGrams(), plainGrams()) {
		x, ok := impl.TableOf(g)
		if !ok {
			continue
		}
		if word, found := impl.AllDoubt(g, 3); found {
			doubtful++
			if len(impl.TableClash(x)) == 0 {
				t.Errorf("%q: %q is in doubt, but there is no conflict", g, word)
			}
		}
	}
	if doubtful < 150 {
		t.Errorf("only %d grammars are ambiguous", doubtful)
	}
}

// accepts parses text with a table that has no conflict.
func accepts(g impl.Gram, x impl.Table, text string) bool {
	stack := []int{0}
	for range 1000 {
		top, ahead := stack[len(stack)-1], (text + "$")[:1]
		at, ends := impl.TableEnd(x, top, ahead)
		to, goes := impl.TableGo(x, top, ahead)
		switch {
		case ends && at == -1:
			return true
		case ends:
			stack = stack[:len(stack)-len(g.Rules[at].Right)]
			to, _ = impl.TableGo(x, stack[len(stack)-1], g.Rules[at].Left)
			stack = append(stack, to)
		case goes:
			text = text[1:]
			stack = append(stack, to)
		default:
			return false
		}
	}
	return false
}

func TestTablesWithoutConflictsAcceptWhatIsDerived(t *testing.T) {
	derived := 0
	conflictFree(t, func(g impl.Gram, x impl.Table) {
		for _, text := range textsOver(smalls, 4) {
			want := impl.AllIs(g, text)
			if got := accepts(g, x, text); got != want {
				t.Errorf("%q: %q is accepted: %v, derived: %v", g, text, got, want)
			}
			if want {
				derived++
			}
		}
	})
	if derived < 2000 {
		t.Errorf("only %d strings are derived", derived)
	}
}

func TestTableFunctionsLeaveTheirArgumentsAlone(t *testing.T) {
	// The spare capacity shows a write beyond the length of an argument.
	g := read(t, "A\nA>AbA\nA>a\n")
	g.Rules = append(g.Rules, rule("X", "kept"))[:2]
	made, _ := impl.TableOf(g)
	x := impl.Table{
		Many:  made.Many,
		Moves: append(slices.Clone(made.Moves), move(77, "kept", 77))[:len(made.Moves)],
		Ends:  append(slices.Clone(made.Ends), end(4, "b", 77), end(77, "kept", 77))[:len(made.Ends)],
	}
	rules, moves, ends := slices.Clone(g.Rules[:3]), slices.Clone(x.Moves[:len(x.Moves)+1]), slices.Clone(x.Ends[:len(x.Ends)+2])
	impl.TableOk(g, x)
	impl.TableGo(x, 0, "A")
	impl.TableEnd(x, 4, "b")
	impl.TableSame(x, made)
	clashes := impl.TableClash(x)
	for i := range clashes[:cap(clashes)] {
		clashes[:cap(clashes)][i] = clash(66, "x")
	}
	if !slices.Equal(g.Rules[:3], rules) || !slices.Equal(x.Moves[:len(moves)], moves) || !slices.Equal(x.Ends[:len(ends)], ends) {
		t.Errorf("%q, %v, %v", g.Rules[:3], x.Moves[:len(moves)], x.Ends[:len(ends)])
	}
	if got := textOfClashes(impl.TableClash(x)); got != "4b" {
		t.Error(got)
	}
}

func TestTablesAreNewMemory(t *testing.T) {
	for _, c := range tableCases {
		g := read(t, c.gram)
		first, _ := impl.TableOf(g)
		second, _ := impl.TableOf(g)
		moves, ends := first.Moves[:cap(first.Moves)], first.Ends[:cap(first.Ends)]
		for i := range moves {
			moves[i] = move(7, "x", 7)
		}
		for i := range ends {
			ends[i] = end(7, "x", 7)
		}
		again, _ := impl.TableOf(g)
		for _, x := range []impl.Table{second, again} {
			if got := textOfTable(x); got != c.table || impl.GramText(g) != c.gram {
				t.Errorf("%s: %s after the first table was overwritten", c.why, got)
			}
		}
		list := impl.TableClash(again)
		for i := range list[:cap(list)] {
			list[:cap(list)][i] = clash(7, "x")
		}
		if got := textOfTable(again); got != c.table {
			t.Errorf("%s: %s after the conflicts were overwritten", c.why, got)
		}
	}
}
