package tests

import (
	"fmt"
	"math"
	"runtime"
	"slices"
	"strings"
	"sync"
	"testing"

	"loop.example/construer/impl"
)

func editIn(at int, sign string) impl.Edit {
	return impl.Edit{Kind: 1, At: at, Sign: sign}
}

func editOut(at int) impl.Edit {
	return impl.Edit{Kind: 2, At: at}
}

func editTurn(at int, sign string) impl.Edit {
	return impl.Edit{Kind: 3, At: at, Sign: sign}
}

// editsFrom reads edits as they are written in the cases, with a comma between two of them and a number in front of equal ones.
func editsFrom(t *testing.T, text string) []impl.Edit {
	t.Helper()
	var edits []impl.Edit
	for _, part := range strings.Split(text, ",") {
		words := strings.Fields(part)
		if len(words) == 0 {
			continue
		}
		count, at := 1, 0
		if strings.HasSuffix(words[0], "x") {
			fmt.Sscanf(words[0], "%dx", &count)
			words = words[1:]
		}
		fmt.Sscanf(words[1], "%d", &at)
		kind := slices.Index([]string{"", "in", "out", "turn"}, words[0])
		e := impl.Edit{Kind: kind, At: at, Sign: strings.Join(words[2:], "")}
		if kind < 1 {
			t.Fatalf("%q are no edits", text)
		}
		edits = append(edits, slices.Repeat([]impl.Edit{e}, count)...)
	}
	return edits
}

// The functions from here to wantRun are the document's definitions, written out.

// isLong reports whether text may be edited.
func isLong(text string) bool {
	return len(text) <= 20 && within(text, smalls)
}

func wantDo(text string, e impl.Edit) (string, bool) {
	if !isLong(text) || e.At < 0 || e.At > len(text) {
		return "", false
	}
	head, tail := text[:e.At], text[e.At:]
	terminal, past := oneOf(e.Sign, smalls), tail == ""
	switch {
	case e.Kind == 1 && terminal && len(text) < 20:
		return head + e.Sign + tail, true
	case e.Kind == 2 && !past && e.Sign == "":
		return head + tail[1:], true
	case e.Kind == 3 && !past && terminal && tail[:1] != e.Sign:
		return head + e.Sign + tail[1:], true
	}
	return "", false
}

// wantBack expects an edit that can be applied.
func wantBack(text string, e impl.Edit) impl.Edit {
	switch e.Kind {
	case 1:
		return editOut(e.At)
	case 2:
		return editIn(e.At, text[e.At:e.At+1])
	}
	return editTurn(e.At, text[e.At:e.At+1])
}

func wantEditsDo(text string, edits []impl.Edit) (string, bool) {
	ok := isLong(text) && len(edits) <= 12
	for i := 0; ok && i < len(edits); i++ {
		text, ok = wantDo(text, edits[i])
	}
	if !ok {
		return "", false
	}
	return text, true
}

// apart keeps the distances of pairs of strings.
type apart map[[2]string]int

// far is the distance by what becomes of the first byte of either string.
func (known apart) far(a, b string) int {
	if a == "" || b == "" {
		return len(a) + len(b)
	}
	pair := [2]string{a, b}
	if n, found := known[pair]; found {
		return n
	}
	n := known.far(a[1:], b[1:])
	if a[0] != b[0] {
		n = 1 + min(n, known.far(a[1:], b), known.far(a, b[1:]))
	}
	known[pair] = n
	return n
}

// wordsOf returns the strings of at most a length that Start derives: each symbol has those that its productions make
// of the strings of other symbols, and this goes on until nothing is added.
func wordsOf(g impl.Gram, longest int) []string {
	words := map[rune]map[string]bool{}
	for _, b := range bigs {
		words[b] = map[string]bool{}
	}
	for _, b := range smalls {
		words[b] = map[string]bool{string(b): true}
	}
	for grown := true; grown; {
		grown = false
		for _, r := range g.Rules {
			joined := map[string]bool{"": true}
			for _, b := range r.Right {
				longer := map[string]bool{}
				for head := range joined {
					for word := range words[b] {
						if len(head+word) <= longest {
							longer[head+word] = true
						}
					}
				}
				joined = longer
			}
			for word := range joined {
				grown = grown || !words[rune(r.Left[0])][word]
				words[rune(r.Left[0])][word] = true
			}
		}
	}
	var all []string
	for word := range words[rune(g.Start[0])] {
		all = append(all, word)
	}
	slices.Sort(all)
	return all
}

// nearest returns the distance of text to the nearest of words, or -1 if there are none.
func nearest(text string, words []string) int {
	least, known := -1, apart{}
	for _, word := range words {
		if n := known.far(text, word); least == -1 || n < least {
			least = n
		}
	}
	return least
}

// never is more than any number of edits.
const never = 1 << 30

// tally holds how many edits make of text[from:to] a string that a nonterminal derives. Unlike the program's costs it is
// found by going round all productions and positions until nothing changes.
type tally [5][21][21]int

func tallyOf(g impl.Gram, text string) *tally {
	costs := &tally{}
	for i := range costs {
		for from := range costs[i] {
			for to := range costs[i][from] {
				costs[i][from][to] = never
			}
		}
	}
	for changed := true; changed; {
		changed = false
		for _, r := range g.Rules {
			for from := range len(text) + 1 {
				known := &costs[r.Left[0]-'A'][from]
				for to, n := range costs.row(text, r.Right, from) {
					if n < known[to] {
						known[to] = n
						changed = true
					}
				}
			}
		}
	}
	return costs
}

// row returns what signs cost for the substrings that begin at from, by their ends.
func (costs *tally) row(text, signs string, from int) [21]int {
	var row [21]int
	for to := range row {
		row[to] = never
		if from <= to && to <= len(text) {
			row[to] = to - from
		}
	}
	for i := range len(signs) {
		next := [21]int{}
		for to := range next {
			next[to] = never
			for middle := from; middle <= min(to, len(text)); middle++ {
				if to <= len(text) {
					next[to] = min(next[to], row[middle]+costs.of(signs[i:i+1], text, middle, to))
				}
			}
		}
		row = next
	}
	return row
}

func (costs *tally) of(sign, text string, from, to int) int {
	switch {
	case within(sign, bigs):
		return costs[sign[0]-'A'][from][to]
	case strings.Contains(text[from:to], sign):
		return to - from - 1
	}
	return max(1, to-from)
}

// tallyFar returns a function that returns the distance of a string, of any length that may be repaired, to the language.
func tallyFar(g impl.Gram) func(text string) int {
	known := map[string]int{}
	return func(text string) int {
		n, found := known[text]
		if !found {
			n = tallyOf(g, text)[g.Start[0]-'A'][0][len(text)]
			if n >= never {
				n = -1
			}
			known[text] = n
		}
		return n
	}
}

// editsInOrder returns the edits of a string in the document's order, also those that cannot be applied.
func editsInOrder(text, signs string) []impl.Edit {
	var edits []impl.Edit
	for at := range len(text) + 1 {
		edits = append(edits, editOut(at))
		for _, b := range signs {
			edits = append(edits, editTurn(at, string(b)))
		}
		for _, b := range signs {
			edits = append(edits, editIn(at, string(b)))
		}
	}
	return edits
}

func wantNext(far func(string) int, signs, text string) (impl.Edit, bool) {
	if far(text) > 0 {
		for _, e := range editsInOrder(text, signs) {
			if after, ok := wantDo(text, e); ok && far(after) < far(text) {
				return e, true
			}
		}
	}
	return impl.Edit{}, false
}

func wantRun(far func(string) int, signs, text string) ([]impl.Edit, string, bool) {
	if far(text) == -1 || far(text) > 12 {
		return nil, "", false
	}
	var edits []impl.Edit
	for far(text) > 0 {
		e, ok := wantNext(far, signs, text)
		if !ok {
			return nil, "", false
		}
		edits = append(edits, e)
		text, _ = wantDo(text, e)
	}
	return edits, text, true
}

func TestKindsOfEdits(t *testing.T) {
	if impl.EditIn != 1 || impl.EditOut != 2 || impl.EditTurn != 3 || impl.EditMost != 12 || impl.LongMost != 20 {
		t.Error(impl.EditIn, impl.EditOut, impl.EditTurn, impl.EditMost, impl.LongMost)
	}
}

// twenty has as many terminals as a string may have that is being repaired.
const twenty = "abcdabcdabcdabcdabcd"

// longForms are texts that are too long to be edited, or consist of other bytes.
var longForms = []string{
	twenty + "a", twenty + "abcd", "e", "A", "`", "$", "a ", " a", "\x00", "a\x00", "\xe1", "aa\xff", "\n", "a\n", "aAa",
	twenty[:19] + "e", "\u0430", "a\u0161", strings.Repeat("a", 100000), strings.Repeat("\x80", 20),
}

func TestEditsWrittenOutByHand(t *testing.T) {
	var none impl.Edit
	for _, c := range []struct {
		why, text string
		edit      impl.Edit
		want      string
		back      impl.Edit
	}{
		{"the given test", "abc", editOut(1), "ac", editIn(1, "b")},
		{"in at the beginning", "abc", editIn(0, "d"), "dabc", editOut(0)},
		{"in between", "abc", editIn(1, "d"), "adbc", editOut(1)},
		{"in at the last position", "abc", editIn(2, "d"), "abdc", editOut(2)},
		{"in at the length", "abc", editIn(3, "d"), "abcd", editOut(3)},
		{"in what stands there", "abc", editIn(1, "b"), "abbc", editOut(1)},
		{"in past the length", "abc", editIn(4, "d"), "", none},
		{"in at -1", "abc", editIn(-1, "d"), "", none},
		{"in of nothing", "abc", editIn(1, ""), "", none},
		{"in of a nonterminal", "abc", editIn(1, "A"), "", none},
		{"in of two", "abc", editIn(1, "ab"), "", none},
		{"in of another byte", "abc", editIn(1, "e"), "", none},
		{"in of the end", "abc", editIn(3, "$"), "", none},
		{"in of a high byte", "abc", editIn(1, "\xe1"), "", none},
		{"in of a wide rune", "abc", editIn(1, "\u0430"), "", none},
		{"in to nothing", "", editIn(0, "a"), "a", editOut(0)},
		{"in to nothing at 1", "", editIn(1, "a"), "", none},
		{"in to nothing at -1", "", editIn(-1, "a"), "", none},
		{"out at the beginning", "abc", editOut(0), "bc", editIn(0, "a")},
		{"out at the last position", "abc", editOut(2), "ab", editIn(2, "c")},
		{"out at the length", "abc", editOut(3), "", none},
		{"out past the length", "abc", editOut(4), "", none},
		{"out at -1", "abc", editOut(-1), "", none},
		{"out with its Sign", "abc", impl.Edit{Kind: 2, At: 1, Sign: "b"}, "", none},
		{"out with another Sign", "abc", impl.Edit{Kind: 2, At: 1, Sign: "a"}, "", none},
		{"out with a Sign that is none", "abc", impl.Edit{Kind: 2, At: 1, Sign: "\x00"}, "", none},
		{"out of nothing", "", editOut(0), "", none},
		{"turn at the beginning", "abc", editTurn(0, "c"), "cbc", editTurn(0, "a")},
		{"turn in between", "abc", editTurn(1, "d"), "adc", editTurn(1, "b")},
		{"turn at the last position", "abc", editTurn(2, "a"), "aba", editTurn(2, "c")},
		{"turn at the length", "abc", editTurn(3, "a"), "", none},
		{"turn past the length", "abc", editTurn(4, "a"), "", none},
		{"turn at -1", "abc", editTurn(-1, "a"), "", none},
		{"turn to what stands there", "abc", editTurn(1, "b"), "", none},
		{"turn to nothing", "abc", editTurn(1, ""), "", none},
		{"turn to a nonterminal", "abc", editTurn(1, "B"), "", none},
		{"turn to two", "abc", editTurn(1, "aa"), "", none},
		{"turn to two that begin with what stands there", "abc", editTurn(1, "bb"), "", none},
		{"turn to another byte", "abc", editTurn(1, "e"), "", none},
		{"turn of nothing", "", editTurn(0, "a"), "", none},
		{"Kind 0", "abc", impl.Edit{Kind: 0, At: 1, Sign: "a"}, "", none},
		{"Kind 0 without a Sign", "abc", none, "", none},
		{"Kind 4", "abc", impl.Edit{Kind: 4, At: 1, Sign: "a"}, "", none},
		{"Kind 4 without a Sign", "abc", impl.Edit{Kind: 4, At: 1}, "", none},
		{"Kind -1", "abc", impl.Edit{Kind: -1, At: 1, Sign: "a"}, "", none},
		{"Kind -2", "abc", impl.Edit{Kind: -2, At: 1}, "", none},
		{"Kind -3", "abc", impl.Edit{Kind: -3, At: 1, Sign: "a"}, "", none},
		{"Kind 257", "abc", impl.Edit{Kind: 257, At: 1, Sign: "a"}, "", none},
		{"in to 19", twenty[:19], editIn(19, "a"), twenty[:19] + "a", editOut(19)},
		{"in to 20", twenty, editIn(20, "a"), "", none},
		{"in to 20 at the beginning", twenty, editIn(0, "a"), "", none},
		{"out of 20", twenty, editOut(19), twenty[:19], editIn(19, "d")},
		{"turn in 20", twenty, editTurn(19, "a"), twenty[:19] + "a", editTurn(19, "d")},
		{"in to 21", twenty + "a", editIn(0, "a"), "", none},
		{"out of 21", twenty + "a", editOut(20), "", none},
		{"turn in 21", twenty + "a", editTurn(0, "b"), "", none},
		{"out of the only bad byte", "ae", editOut(1), "", none},
		{"turn of the only bad byte", "ae", editTurn(1, "a"), "", none},
		{"in beside a bad byte", "A", editIn(0, "a"), "", none},
	} {
		can := c.back != none
		if got, ok := impl.EditDo(c.text, c.edit); got != c.want || ok != can {
			t.Errorf("%s: EditDo is %q, %v", c.why, got, ok)
		}
		if got, ok := impl.EditBack(c.text, c.edit); got != c.back || ok != can {
			t.Errorf("%s: EditBack is %v, %v", c.why, got, ok)
		}
		if can {
			if got, ok := impl.EditDo(c.want, c.back); got != c.text || !ok {
				t.Errorf("%s: taken back it is %q, %v", c.why, got, ok)
			}
		}
	}
}

// checkEdit compares EditDo, EditBack and EditsDo of one edit with the definitions, and takes the edit back.
func checkEdit(t *testing.T, text string, e impl.Edit) bool {
	t.Helper()
	want, can := wantDo(text, e)
	if got, ok := impl.EditDo(text, e); got != want || ok != can {
		t.Errorf("EditDo(%.30q, %v) = %q, %v, want %q, %v", text, e, got, ok, want, can)
	}
	if got, ok := impl.EditsDo(text, []impl.Edit{e}); got != want || ok != can {
		t.Errorf("EditsDo(%.30q, %v) = %q, %v, want %q, %v", text, e, got, ok, want, can)
	}
	back, ok := impl.EditBack(text, e)
	if ok != can || !can && back != (impl.Edit{}) || can && back != wantBack(text, e) {
		t.Errorf("EditBack(%.30q, %v) = %v, %v", text, e, back, ok)
	}
	if !can {
		return false
	}
	if got, ok := impl.EditDo(want, back); got != text || !ok {
		t.Errorf("%v undoes %v of %q to %q, %v", back, e, text, got, ok)
	}
	if again, ok := impl.EditBack(want, back); again != e || !ok {
		t.Errorf("what undoes %v of %q is undone by %v, %v", e, text, again, ok)
	}
	if n := impl.EditsFar(text, want); n != 1 {
		t.Errorf("%q and %q are %d edits apart", text, want, n)
	}
	return true
}

func TestEditsOfAllForms(t *testing.T) {
	texts := append(textsOver("abd", 3), "abcdabcd", twenty[:18], twenty[1:], twenty, strings.Repeat("a", 20))
	texts = append(texts, longForms...)
	signs := []string{"", "a", "b", "c", "d", "e", "`", "A", "E", "$", " ", "aa", "ab", "\x00", "\xff", "\u0430"}
	applied := 0
	for _, text := range texts {
		numbers := append(numbersAround(1), 7, 8, 9, 17, 18, 19, 20, 21, len(text)-1, len(text), len(text)+1)
		for _, kind := range append(numbersAround(2), 255, 256, 257, 258, 259, 260) {
			for _, at := range numbers {
				for _, sign := range signs {
					if checkEdit(t, text, impl.Edit{Kind: kind, At: at, Sign: sign}) {
						applied++
					}
				}
			}
		}
	}
	if applied < 1000 {
		t.Errorf("only %d edits can be applied", applied)
	}
}

func TestEditsDoWrittenOutByHand(t *testing.T) {
	for _, c := range []struct {
		why, text, edits, want string
		ok                     bool
	}{
		{"none", "abc", "", "abc", true},
		{"none of nothing", "", "", "", true},
		{"one after the other", "abc", "out 0, out 0, out 0", "", true},
		{"each at its own time", "ab", "in 0 c, turn 0 d, out 1", "db", true},
		{"in the given order", "a", "in 0 b, in 1 c, in 3 d", "bcad", true},
		{"in another order", "a", "in 1 d, in 0 c, in 0 b", "bcad", true},
		{"the first one cannot be", "ab", "turn 0 a, out 0", "", false},
		{"the last one cannot be", "ab", "out 0, out 1", "", false},
		{"the one in the middle cannot be", "ab", "out 0, turn 0 b, in 0 a", "", false},
		{"the one in the middle is past the end", "ab", "in 2 c, in 4 c, in 0 c", "", false},
		{"the one in the middle could be at first", "ab", "out 0, out 1, in 0 a", "", false},
		{"the second one could not be at first", "", "in 0 a, turn 0 b", "b", true},
		{"the most edits", "a", "6x in 0 b, 6x out 0", "a", true},
		{"one more", "a", "6x in 0 b, 6x out 0, turn 0 b", "", false},
		{"one more that cannot be", "a", "6x in 0 b, 6x out 0, turn 0 a", "", false},
		{"the most edits, the last one of which cannot be", "a", "5x in 0 b, 6x out 0, out 0", "", false},
		{"to twenty", twenty[:8], "12x in 8 d", twenty[:8] + "dddddddddddd", true},
		{"past twenty", twenty[:19], "in 0 a, in 0 a", "", false},
		{"past twenty and back", twenty[:19], "in 0 a, in 0 a, out 0", "", false},
		{"at twenty and on", twenty, "out 0, in 0 b, turn 0 a", twenty, true},
		{"none of twenty", twenty, "", twenty, true},
		{"none of one more", twenty + "a", "", "", false},
		{"shorter by one than one more", twenty + "a", "out 0", "", false},
		{"none of another byte", "ae", "", "", false},
		{"another byte taken out", "ae", "out 1", "", false},
	} {
		edits := editsFrom(t, c.edits)
		if got, ok := impl.EditsDo(c.text, edits); got != c.want || ok != c.ok {
			t.Errorf("%s: %q, %v", c.why, got, ok)
		}
		if got, ok := wantEditsDo(c.text, edits); got != c.want || ok != c.ok {
			t.Errorf("%s: by the definition it is %q, %v", c.why, got, ok)
		}
	}
	for _, text := range longForms {
		for _, edits := range [][]impl.Edit{nil, {}, {editIn(0, "a")}, {editOut(0)}, {editTurn(0, "b")}, {{}}} {
			if got, ok := impl.EditsDo(text, edits); got != "" || ok {
				t.Errorf("EditsDo(%.30q, %v) = %q, %v", text, edits, got, ok)
			}
		}
	}
	for _, count := range []int{12, 13, 14, 24, 300000} {
		for text, e := range map[string]impl.Edit{"": editIn(0, "a"), twenty: editOut(0)} {
			edits := slices.Repeat([]impl.Edit{e}, count)
			want, can := wantEditsDo(text, edits)
			if got, ok := impl.EditsDo(text, edits); got != want || ok != can || ok != (count == 12) {
				t.Errorf("%d edits of %q: %q, %v", count, text, got, ok)
			}
		}
	}
}

func TestEditsDoOfManyEdits(t *testing.T) {
	pick, fine := picker(5), 0
	for range 20000 {
		text := twenty[pick(4):][:pick(17)]
		var edits []impl.Edit
		after := text
		for range pick(14) {
			possible := editsInOrder(after, smalls)
			e := possible[pick(len(possible))]
			if pick(12) == 0 {
				e = impl.Edit{Kind: pick(6) - 1, At: pick(22) - 1, Sign: []string{"", "a", "c", "A", "cc"}[pick(5)]}
			}
			edits = append(edits, e)
			if next, can := wantDo(after, e); can {
				after = next
			} else if pick(4) != 0 {
				edits = edits[:len(edits)-1]
			}
		}
		after, ok := wantEditsDo(text, edits)
		if got, can := impl.EditsDo(text, edits); got != after || can != ok {
			t.Fatalf("EditsDo(%q, %v) = %q, %v, want %q, %v", text, edits, got, can, after, ok)
		}
		if ok {
			fine++
			if n := impl.EditsFar(text, after); n > len(edits) {
				t.Errorf("%d edits make %q of %q, but EditsFar is %d", len(edits), after, text, n)
			}
		}
	}
	if fine < 5000 || fine > 15000 {
		t.Errorf("%d of the lists can be applied", fine)
	}
}

func TestEditsFarWrittenOutByHand(t *testing.T) {
	for _, c := range []struct {
		a, b string
		far  int
	}{
		{"", "", 0}, {"", "abc", 3}, {"a", "a", 0}, {"a", "b", 1}, {"a", "ab", 1}, {"a", "ba", 1}, {"ab", "ba", 2},
		{"abcd", "bd", 2}, {"abcd", "dcba", 4}, {"abc", "cab", 2}, {"abc", "bcd", 2}, {"aaaa", "a", 3}, {"aaaa", "bbbb", 4},
		{"ab", "bc", 2}, {"abab", "baba", 2}, {"abcabc", "bcabca", 2}, {"kitten", "sitting", 3}, {"sunday", "saturday", 3},
		{"intention", "execution", 5}, {"abcdabcd", "cdab", 4}, {"A", "a", 1}, {"a\n", "a", 1}, {"\x00", "", 1},
		{"\x00\xff", "\xff\x00", 2}, {"\xff", "\xfe", 1}, {"\u00e9", "e", 2}, {"\u00e9", "\u00e8", 1}, {"\u20ac", "", 3},
		{"\u0430", "a", 2}, {"a\x80", "a\x81", 1}, {"$A>", "A>$", 2}, {"ab cd", "abcd", 1},
	} {
		if n := impl.EditsFar(c.a, c.b); n != c.far {
			t.Errorf("EditsFar(%q, %q) = %d, want %d", c.a, c.b, n, c.far)
		}
		if n := impl.EditsFar(c.b, c.a); n != c.far {
			t.Errorf("EditsFar(%q, %q) = %d, want %d", c.b, c.a, n, c.far)
		}
	}
}

// neighbours returns what insertions, deletions and replacements of single bytes make of text.
func neighbours(text, signs string) []string {
	var all []string
	for i := range len(text) + 1 {
		for j := range len(signs) {
			all = append(all, text[:i]+signs[j:j+1]+text[i:])
			if i < len(text) {
				all = append(all, text[:i]+signs[j:j+1]+text[i+1:])
			}
		}
		if i < len(text) {
			all = append(all, text[:i]+text[i+1:])
		}
	}
	return all
}

// ringsAround returns with how many single bytes inserted, deleted or replaced each string is made of text, up to a number.
func ringsAround(text, signs string, most int) map[string]int {
	far := map[string]int{text: 0}
	ring := []string{text}
	for n := 1; n <= most; n++ {
		var next []string
		for _, s := range ring {
			for _, neighbour := range neighbours(s, signs) {
				if _, found := far[neighbour]; !found {
					far[neighbour] = n
					next = append(next, neighbour)
				}
			}
		}
		ring = next
	}
	return far
}

func TestEditsFarCountsEdits(t *testing.T) {
	signs := "\x00\xff"
	for _, a := range textsOver(signs, 4) {
		for b, want := range ringsAround(a, signs, 5) {
			if n := impl.EditsFar(a, b); n != want {
				t.Errorf("EditsFar(%q, %q) = %d, want %d", a, b, n, want)
			}
		}
	}
}

func TestEditsFarIsADistance(t *testing.T) {
	texts := textsOver("a\x00\xe1", 3)
	far := map[[2]string]int{}
	known := apart{}
	for _, a := range texts {
		for _, b := range texts {
			n := impl.EditsFar(a, b)
			far[[2]string{a, b}] = n
			if n != known.far(a, b) || n != impl.EditsFar(b, a) || (n == 0) != (a == b) {
				t.Errorf("EditsFar(%q, %q) = %d, %d the other way, want %d", a, b, n, impl.EditsFar(b, a), known.far(a, b))
			}
		}
	}
	for _, a := range texts {
		for _, b := range texts {
			for _, c := range texts {
				if far[[2]string{a, c}] > far[[2]string{a, b}]+far[[2]string{b, c}] {
					t.Errorf("from %q to %q it is nearer by %q", a, c, b)
				}
			}
		}
	}
}

func TestEditsFarOfLongerStrings(t *testing.T) {
	pick := picker(31)
	random := func(signs string) string {
		var text []byte
		for range pick(40) {
			text = append(text, signs[pick(len(signs))])
		}
		return string(text)
	}
	for _, signs := range []string{"a", "ab", "abcd", "\x00\x7f\x80\xff", "ab\u00e9\u20ac"} {
		for range 100 {
			a, b, c := random(signs), random(signs), random(signs)
			n := impl.EditsFar(a, b)
			if n != (apart{}).far(a, b) || n != impl.EditsFar(b, a) || n > impl.EditsFar(a, c)+impl.EditsFar(c, b) {
				t.Errorf("EditsFar(%q, %q) = %d, want %d", a, b, n, apart{}.far(a, b))
			}
		}
	}
	for _, c := range []struct {
		a, b string
		far  int
	}{
		{strings.Repeat("a", 1500), strings.Repeat("ab", 1000), 1000},
		{strings.Repeat("ab", 1000), strings.Repeat("ba", 1000), 2},
		{strings.Repeat("abc", 700), strings.Repeat("abc", 700), 0},
		{strings.Repeat("a", 2000), strings.Repeat("b", 1000), 2000},
		{strings.Repeat("\xff", 300000), "", 300000},
		{"x", strings.Repeat("y", 300000) + "x", 300000},
	} {
		if n, other := impl.EditsFar(c.a, c.b), impl.EditsFar(c.b, c.a); n != c.far || other != c.far {
			t.Errorf("%d and %d bytes: %d, %d, want %d", len(c.a), len(c.b), n, other, c.far)
		}
	}
}

// mendCases are repairs written out by hand.
var mendCases = []struct {
	gram  string
	text  string
	far   int
	edits string
	to    string
}{
	// The chapter's example, and the given test's texts.
	{"A\nA>aAb\nA>\n", "ab", 0, "", "ab"},
	{"A\nA>aAb\nA>\n", "", 0, "", ""},
	{"A\nA>aAb\nA>\n", "abb", 1, "in 0 a", "aabb"},
	{"A\nA>aAb\nA>\n", "a", 1, "out 0", ""},
	{"A\nA>aAb\nA>\n", "ba", 2, "out 0, out 0", ""},
	{"A\nA>aAb\nA>\n", "aabab", 1, "out 3", "aabb"},
	{"A\nA>aAb\nA>\n", "cc", 2, "out 0, out 0", ""},
	{"A\nA>aAb\nA>\n", "abab", 2, "out 0, out 0", "ab"},
	{"A\nA>aAb\nA>\n", "aaa", 2, "out 0, turn 1 b", "ab"},
	{"A\nA>aAb\nA>\n", "aaaabbbb", 0, "", "aaaabbbb"},
	{"A\nA>aAb\nA>\n", "aaabbbbb", 1, "turn 3 a", "aaaabbbb"},
	// The example of chapter 16: strings of an odd length.
	{exampleGram, "abd", 1, "turn 2 a", "aba"},
	{exampleGram, "aba", 0, "", "aba"},
	{exampleGram, "", 1, "in 0 a", "a"},
	{exampleGram, "b", 1, "turn 0 a", "a"},
	{exampleGram, "ab", 1, "out 1", "a"},
	{exampleGram, "ca", 1, "out 0", "a"},
	{exampleGram, "abbc", 2, "out 1, turn 2 a", "aba"},
	// Brackets.
	{"A\nA>AaAb\nA>\n", "abba", 2, "in 0 a, out 4", "aabb"},
	// Only the empty string.
	{"A\nA>\n", "", 0, "", ""},
	{"A\nA>\n", "a", 1, "out 0", ""},
	{"A\nA>\n", "abc", 3, "3x out 0", ""},
	{"A\nA>\n", "abcdabcd", 8, "8x out 0", ""},
	{"A\nA>BB\nB>\nC>a\n", "aa", 2, "2x out 0", ""},
	{"A\nA>A\nA>AA\nA>\n", "dd", 2, "2x out 0", ""},
	// Only one string: each kind of edit, at the beginning, in between and at the end.
	{"A\nA>a\n", "", 1, "in 0 a", "a"},
	{"A\nA>a\n", "b", 1, "turn 0 a", "a"},
	{"A\nA>a\n", "aa", 1, "out 0", "a"},
	{"A\nA>a\n", "ba", 1, "out 0", "a"},
	{"A\nA>a\n", "ab", 1, "out 1", "a"},
	{"A\nA>a\n", "bb", 2, "out 0, turn 0 a", "a"},
	{"A\nA>ab\n", "b", 1, "in 0 a", "ab"},
	{"A\nA>ab\n", "a", 1, "in 1 b", "ab"},
	{"A\nA>ab\n", "", 2, "in 0 a, in 1 b", "ab"},
	{"A\nA>ab\n", "ba", 2, "out 0, in 1 b", "ab"},
	{"A\nA>ab\n", "dd", 2, "turn 0 a, turn 1 b", "ab"},
	{"A\nA>abc\n", "ac", 1, "in 1 b", "abc"},
	{"A\nA>abc\n", "abdc", 1, "out 2", "abc"},
	{"A\nA>abc\n", "adc", 1, "turn 1 b", "abc"},
	{"A\nA>BB\nB>bbbb\n", "aaaaaaaa", 8, "turn 0 b, turn 1 b, turn 2 b, turn 3 b, turn 4 b, turn 5 b, turn 6 b, turn 7 b", "bbbbbbbb"},
	// The order: out, turn to the least terminal, in of the least terminal, and only then the next position.
	{"A\nA>ab\nA>b\n", "bb", 1, "out 0", "b"},
	{"A\nA>ac\nA>b\n", "c", 1, "turn 0 b", "b"},
	{"A\nA>b\nA>a\n", "c", 1, "turn 0 a", "a"},
	{"A\nA>bc\nA>ac\n", "c", 1, "in 0 a", "ac"},
	{"A\nA>cb\nA>acc\n", "cc", 1, "in 0 a", "acc"},
	{"A\nA>db\nA>dd\nA>da\n", "dc", 1, "turn 1 a", "da"},
	// A nonterminal that derives itself, alone and through others.
	{"A\nA>A\nA>a\n", "", 1, "in 0 a", "a"},
	{"A\nA>A\nA>a\n", "aa", 1, "out 0", "a"},
	{"A\nA>B\nB>A\nB>ab\n", "a", 1, "in 1 b", "ab"},
	{"A\nA>B\nB>C\nC>D\nD>E\nE>A\nE>c\n", "b", 1, "turn 0 c", "c"},
	{"A\nA>AA\nA>a\nA>\n", "b", 1, "out 0", ""},
	{"A\nA>AA\nA>b\n", "a", 1, "turn 0 b", "b"},
	{"A\nA>BAB\nB>\nA>a\n", "", 1, "in 0 a", "a"},
	{"A\nA>BAB\nB>\nB>AA\nA>ab\n", "abb", 1, "out 1", "ab"},
	{"A\nA>AAAA\nA>A\nA>ab\nA>B\nB>A\n", "bbab", 2, "2x out 0", "ab"},
	// What is in vain counts only by its terminals, which are of no use.
	{"A\nA>b\nA>aC\n", "", 1, "in 0 b", "b"},
	{"A\nA>b\nC>a\n", "a", 1, "turn 0 b", "b"},
	{"A\nA>aC\nC>cC\nA>d\n", "ac", 2, "out 0, turn 0 d", "d"},
	// No shorter string than nine, twelve, thirteen and twenty.
	{"A\nA>BBB\nB>aaa\n", "", 9, "9x in 0 a", "aaaaaaaaa"},
	{"A\nA>BBB\nB>aaa\n", "aaaaaaaa", 1, "in 0 a", "aaaaaaaaa"},
	{"A\nA>BBB\nB>aaa\n", "bbbbbbbb", 9, "turn 0 a, in 0 a, turn 2 a, turn 3 a, turn 4 a, turn 5 a, turn 6 a, turn 7 a, turn 8 a", "aaaaaaaaa"},
	{"A\nA>BBBB\nB>aaa\n", "", 12, "12x in 0 a", "aaaaaaaaaaaa"},
	{"A\nA>BBBC\nB>aaa\nC>aaaa\n", "a", 12, "12x in 0 a", "aaaaaaaaaaaaa"},
	{"A\nA>BBC\nB>CC\nC>aaaa\n", "aaaaaaaa", 12, "12x in 0 a", "aaaaaaaaaaaaaaaaaaaa"},
	{"A\nA>BBCC\nB>aaaa\nC>DD\nD>bbb\n", "aaaaaaaa", 12, "12x in 8 b", "aaaaaaaabbbbbbbbbbbb"},
	{"A\nA>BBCC\nB>aaaa\nC>DD\nD>bbb\n", "bbbbbbbb", 12, "8x in 0 a, 4x in 8 b", "aaaaaaaabbbbbbbbbbbb"},
}

func TestRepairsWrittenOutByHand(t *testing.T) {
	for _, c := range mendCases {
		g, edits := read(t, c.gram), editsFrom(t, c.edits)
		if n := impl.MendFar(g, c.text); n != c.far {
			t.Errorf("MendFar(%q, %q) = %d, want %d", c.gram, c.text, n, c.far)
		}
		got, to, ok := impl.MendRun(g, c.text)
		if !ok || !slices.Equal(got, edits) || to != c.to {
			t.Errorf("MendRun(%q, %q) = %v, %q, %v, want %v, %q", c.gram, c.text, got, to, ok, edits, c.to)
		}
		first, found := impl.MendNext(g, c.text)
		if found != (len(edits) > 0) || found && first != edits[0] || !found && first != (impl.Edit{}) {
			t.Errorf("MendNext(%q, %q) = %v, %v, want the first of %v", c.gram, c.text, first, found, edits)
		}
		if len(edits) != c.far {
			t.Errorf("%q: %d edits of %q, but a distance of %d", c.gram, len(edits), c.text, c.far)
		}
		checkMend(t, g, c.text, tallyFar(g))
	}
}

// checkMend compares MendFar, MendNext and MendRun with the definitions, where far is known to be the distance to the language.
// It returns the number of edits of a repair, or -1 if there is none.
func checkMend(t *testing.T, g impl.Gram, text string, far func(string) int) int {
	t.Helper()
	signs := symbolsOf(g, smalls)
	if n := impl.MendFar(g, text); n != far(text) {
		t.Errorf("MendFar(%q, %q) = %d, want %d", g, text, n, far(text))
	}
	want, can := wantNext(far, signs, text)
	if e, ok := impl.MendNext(g, text); e != want || ok != can {
		t.Errorf("MendNext(%q, %q) = %v, %v, want %v, %v", g, text, e, ok, want, can)
	}
	all, end, fine := wantRun(far, signs, text)
	edits, to, ok := impl.MendRun(g, text)
	if !slices.Equal(edits, all) || to != end || ok != fine {
		t.Errorf("MendRun(%q, %q) = %v, %q, %v, want %v, %q, %v", g, text, edits, to, ok, all, end, fine)
	}
	if !fine {
		return -1
	}
	if after, ok := impl.EditsDo(text, edits); after != to || !ok || len(edits) != far(text) || impl.EditsFar(text, to) != far(text) {
		t.Errorf("MendRun(%q, %q) = %v, %q, but these edits make %q, %v", g, text, edits, to, after, ok)
	}
	if len(to) <= 8 && !impl.AllIs(g, to) || len(to) <= 10 && !wantIs(g, to) || far(to) != 0 {
		t.Errorf("%q: %q is repaired to %q, which is not derived", g, text, to)
	}
	return len(edits)
}

// fewWords derive finitely many strings, which are all those of at most 20 terminals.
var fewWords = []string{
	"A\nA>BC\nB>ab\nB>\nC>cd\nC>a\n",
	"A\nA>BBBB\nB>aa\nB>b\n",
	"A\nA>BBB\nB>CCC\nC>a\nC>b\n",
	"A\nA>BBC\nB>CC\nC>abcd\nC>dcba\n",
	"A\nA>BCBC\nB>aab\nC>bba\nC>aaaa\n",
	"A\nA>BBBB\nB>abab\nB>b\n",
	"A\nA>BBBB\nB>abcd\n",
	"A\nA>aBd\nA>dBBa\nB>CCCC\nC>ab\nC>c\n",
	"A\nA>BCD\nB>aaaa\nC>DD\nD>bbbb\nD>\n",
	"A\nA>BBBC\nB>ddd\nC>a\nC>dadd\n",
	"A\nA>EEE\nE>DDa\nD>bC\nC>c\nC>\n",
	"A\nA>BBCC\nB>aaaa\nC>DD\nD>bbb\n",
	"A\nA>a\nA>bbbb\nA>BB\nB>cccc\n",
	"A\nA>BBBB\nB>CA\nB>\n",
	"A\nA>BBB\nB>abcd\nB>bcda\nB>dddd\nB>b\n",
}

func TestRepairsAreToTheNearestOfFewStrings(t *testing.T) {
	pick, most, lengths := picker(3), 0, map[int]int{}
	for _, gram := range fewWords {
		g := read(t, gram)
		words := wordsOf(g, 20)
		if longer := wordsOf(g, 22); len(longer) != len(words) {
			t.Fatalf("%q derives longer strings", gram)
		}
		known := map[string]int{}
		far := func(text string) int {
			n, found := known[text]
			if !found {
				n = nearest(text, words)
				known[text] = n
			}
			return n
		}
		texts := []string{"", "a", "dcba", "aaaaaaaa", "bbbbbbbb", "dddddddd", "abcdabcd"}
		for range 3 {
			texts = append(texts, randomText(pick, 9))
		}
		if len(words) > 100 {
			texts = texts[:5]
		}
		for _, text := range texts {
			most = max(most, checkMend(t, g, text, far))
			_, to, _ := impl.MendRun(g, text)
			lengths[len(to)]++
		}
	}
	if most != 12 || lengths[20] == 0 || lengths[16] == 0 || lengths[12] == 0 {
		t.Errorf("at most %d edits; lengths %v", most, lengths)
	}
}

// randomText returns a string of less than a number of terminals.
func randomText(pick func(int) int, below int) string {
	var text []byte
	for range pick(below) {
		text = append(text, smalls[pick(4)])
	}
	return string(text)
}

func TestDistancesAreTheLeastToAnyString(t *testing.T) {
	exact, kinds := 0, map[int]int{}
	for i, g := range slices.Concat(liveGrams(), someGrams()) {
		signs := symbolsOf(g, smalls)
		longest := map[int]int{0: 1, 1: 10, 2: 6, 3: 5, 4: 4}[len(signs)]
		if i%5 != 0 {
			longest--
		}
		words := wordsOf(g, longest)
		for _, text := range append(textsOver(signs, 2), "aba", "bab", "dac") {
			n, made := impl.MendFar(g, text), within(g.Start, wantMade(g))
			if !made && n != -1 || made && n < 0 {
				t.Errorf("MendFar(%q, %q) = %d, but Start is productive: %v", g, text, n, made)
			}
			// Longer strings than these are further from the text than this.
			beyond, want := longest-len(text), nearest(text, words)
			switch {
			case !made:
				kinds[-1]++
			case len(words) > 0 && want <= beyond+1:
				exact++
				kinds[want]++
				if n != want {
					t.Errorf("MendFar(%q, %q) = %d, want %d", g, text, n, want)
				}
			case n <= beyond || len(words) > 0 && n > want:
				t.Errorf("MendFar(%q, %q) = %d, but not before %d, and at most %d", g, text, n, beyond+1, want)
			}
		}
	}
	if exact < 3000 || kinds[-1] < 500 || kinds[0] < 400 || kinds[1] < 500 || kinds[2] < 200 {
		t.Errorf("%d distances: %v", exact, kinds)
	}
}

func TestDistancesCountEdits(t *testing.T) {
	kinds := map[int]int{}
	for _, g := range liveGrams()[:60] {
		signs := symbolsOf(g, smalls)
		if len(signs) > 2 || !within(g.Start, wantMade(g)) {
			continue
		}
		words := wordsOf(g, 7)
		for _, text := range append(textsOver("ab", 3), "c", "ca") {
			want := 5
			for made, n := range ringsAround(text, signs, 4) {
				if n < want && slices.Contains(words, made) {
					want = n
				}
			}
			kinds[want]++
			if n := impl.MendFar(g, text); n != want && (want < 5 || n < 5) {
				t.Errorf("MendFar(%q, %q) = %d, want %d", g, text, n, want)
			}
		}
	}
	if kinds[0] < 80 || kinds[1] < 100 || kinds[2] < 100 || kinds[3] < 50 {
		t.Error(kinds)
	}
}

// slowGrams derive only strings that are not short.
func slowGrams() []impl.Gram {
	var grams []impl.Gram
	pick := picker(41)
	for len(grams) < 150 {
		lefts := bigs[:2+pick(3)]
		rules := pickRules(pick, 2+pick(7), lefts, lefts+lefts+smalls)
		for i := range rules {
			for len(rules[i].Right) < 3 {
				rules[i].Right += string(smalls[pick(4)])
			}
		}
		g := gramOf("A", rules...)
		if impl.GramOk(g) && within("A", wantMade(g)) {
			grams = append(grams, g)
		}
	}
	return grams
}

func TestRepairsOfManyGrams(t *testing.T) {
	pick, count := picker(17), map[int]int{}
	for _, g := range slices.Concat(liveGrams()[:100], someGrams(), slowGrams()) {
		far := tallyFar(g)
		for _, text := range []string{"", randomText(pick, 5), randomText(pick, 9)} {
			count[checkMend(t, g, text, far)]++
		}
	}
	for n := range 9 {
		if count[n] < 10 {
			t.Errorf("only %d repairs of %d edits", count[n], n)
		}
	}
	if count[-1] < 100 {
		t.Errorf("%d texts cannot be repaired", count[-1])
	}
}

func TestRepairsOfTheLongestTexts(t *testing.T) {
	pick := picker(29)
	for _, gram := range runGrams {
		g := read(t, gram)
		far := tallyFar(g)
		for range 4 {
			text := ""
			for len(text) < 8 {
				text += string(smalls[pick(4)])
			}
			if checkMend(t, g, text, far) == -1 {
				t.Errorf("%q: %q is not repaired", gram, text)
			}
			// One terminal more is too many, also where the string is derived.
			checkNotMended(t, g, text+"a")
		}
	}
	for _, gram := range []string{"A\nA>aA\nA>\n", "A\nA>BBB\nB>aaa\n"} {
		g, nine := read(t, gram), "aaaaaaaaa"
		if !wantIs(g, nine) {
			t.Fatal(gram)
		}
		checkNotMended(t, g, nine)
		checkMend(t, g, nine[:8], tallyFar(g))
	}
}

// checkNotMended expects the results for invalid arguments.
func checkNotMended(t *testing.T, g impl.Gram, text string) {
	t.Helper()
	if n := impl.MendFar(g, text); n != -1 {
		t.Errorf("MendFar(%q, %.30q) = %d", g, text, n)
	}
	if e, ok := impl.MendNext(g, text); ok || e != (impl.Edit{}) {
		t.Errorf("MendNext(%q, %.30q) = %v, %v", g, text, e, ok)
	}
	if edits, to, ok := impl.MendRun(g, text); ok || len(edits) != 0 || to != "" {
		t.Errorf("MendRun(%q, %.30q) = %v, %q, %v", g, text, edits, to, ok)
	}
}

func TestMendOfInvalidArguments(t *testing.T) {
	for _, g := range badGrams {
		for _, text := range append([]string{"", "a", "aa", "abcd", "abcdabcd"}, badForms...) {
			checkNotMended(t, g, text)
		}
	}
	for _, gram := range []string{"A\nA>aA\nA>bA\nA>cA\nA>dA\nA>\n", "A\nA>\n", "A\nA>BBB\nB>aaa\n", "A\n"} {
		for _, text := range append(badForms, longForms...) {
			checkNotMended(t, read(t, gram), text)
		}
	}
}

func TestMendWhereNothingIsDerived(t *testing.T) {
	for _, gram := range []string{
		"A\n", "E\n", "A\nA>A\n", "A\nA>aA\n", "A\nA>B\nB>A\n", "A\nA>Ba\nB>B\n", "B\nA>a\n", "A\nB>\nC>a\n", "A\nA>BC\nB>b\n", "D\nD>DD\nA>D\n",
		"A\nA>B\nB>C\nC>D\nD>E\nE>A\n", "A\nA>aBCD\nB>b\nC>c\nD>dE\nA>bE\n",
	} {
		g := read(t, gram)
		for _, text := range append(textsOver("ab", 2), "c", "d", "abcdabcd", "aaaaaaaa") {
			checkNotMended(t, g, text)
		}
	}
}

func TestDistancesOfVeryLongStrings(t *testing.T) {
	for _, c := range []struct {
		gram, text string
		far        int
		next       string
	}{
		{"A\nA>BBBC\nB>aaa\nC>aaaa\n", "", 13, "in 0 a"},
		{"A\nA>BBC\nB>CC\nC>aaaa\n", "", 20, "in 0 a"},
		{"A\nA>BBC\nB>CC\nC>aaaa\n", "aaaaaaa", 13, "in 0 a"},
		{"A\nA>BBCa\nB>CC\nC>aaaa\n", "aaaaaaaa", 13, "in 0 a"},
		{"A\nA>BBCa\nB>CC\nC>aaaa\n", "bbbbbbbb", 21, "turn 0 a"},
		{"A\nA>BBCa\nB>CC\nC>aaaa\n", "baaaaaaa", 14, "turn 0 a"},
		{"A\nA>BBCa\nB>CC\nC>aaaa\n", "aaaaaaab", 14, "in 0 a"},
		{"A\nA>BBB\nB>CCCC\nC>abcd\n", "dcba", 44, "in 0 a"},
		{"A\nA>BBBB\nB>CCCC\nC>DDDD\nD>EEEE\nE>aaaa\n", "", 1024, "in 0 a"},
		{"A\nA>BBBB\nB>CCCC\nC>DDDD\nD>EEEE\nE>aaaa\n", "aaaaaaaa", 1016, "in 0 a"},
		{"A\nA>BBBB\nB>CCCC\nC>DDDD\nD>EEEE\nE>aaaa\n", "bbbbbbbb", 1024, "turn 0 a"},
		{"A\nA>BBBB\nB>CCCC\nC>DDDD\nD>EEEE\nE>aaaa\nE>EEEE\nA>AAAA\n", "abababab", 1020, "in 0 a"},
		{"A\nA>BBBB\nB>CCCC\nC>DDDD\nD>EEEE\nE>aaaa\nA>aaaA\nA>AA\n", "b", 1024, "turn 0 a"},
		{"A\nA>BBBB\nB>CCCC\nC>DDDD\nD>EEEE\nE>abcd\n", "abcdabcd", 1016, "in 0 a"},
	} {
		g := read(t, c.gram)
		if n := impl.MendFar(g, c.text); n != c.far {
			t.Errorf("MendFar(%q, %q) = %d, want %d", c.gram, c.text, n, c.far)
		}
		want := editsFrom(t, c.next)[0]
		if e, ok := impl.MendNext(g, c.text); e != want || !ok {
			t.Errorf("MendNext(%q, %q) = %v, %v, want %v", c.gram, c.text, e, ok, want)
		}
		if edits, to, ok := impl.MendRun(g, c.text); ok || len(edits) != 0 || to != "" {
			t.Errorf("MendRun(%q, %q) = %v, %q, %v", c.gram, c.text, edits, to, ok)
		}
		checkMend(t, g, c.text, tallyFar(g))
	}
}

func TestNeighboursAreAsFarButForOne(t *testing.T) {
	pick, changes := picker(53), map[int]int{}
	for _, g := range slices.Concat(liveGrams(), someGrams(), slowGrams()) {
		text := randomText(pick, 8)
		far := impl.MendFar(g, text)
		if (far == 0) != impl.AllIs(g, text) {
			t.Errorf("MendFar(%q, %q) = %d, but that it is derived is %v", g, text, far, impl.AllIs(g, text))
		}
		for _, neighbour := range neighbours(text, smalls) {
			n := impl.MendFar(g, neighbour)
			changes[n-far]++
			if (n == -1) != (far == -1) || n-far < -1 || n-far > 1 {
				t.Errorf("%q: %q is %d edits away, and %q is %d", g, text, far, neighbour, n)
			}
		}
	}
	if changes[-1] < 1000 || changes[0] < 1000 || changes[1] < 1000 {
		t.Error(changes)
	}
}

func TestMendLeavesItsArgumentsAlone(t *testing.T) {
	// The spare capacity shows a write beyond the length of an argument.
	g := read(t, exampleGram)
	g.Rules = append(g.Rules, rule("X", "kept"))[:4]
	edits := append(editsFrom(t, "in 0 a, out 1, turn 0 b"), impl.Edit{Kind: 77, At: 77}, impl.Edit{Kind: 78})[:3]
	rules, listed := slices.Clone(g.Rules[:5]), slices.Clone(edits[:5])
	impl.MendFar(g, "abcd")
	impl.MendNext(g, "abcd")
	impl.MendRun(g, "abcd")
	impl.EditsDo("abcd", edits)
	impl.EditsDo("", edits)
	if g.Start != "A" || !slices.Equal(g.Rules[:5], rules) || !slices.Equal(edits[:5], listed) {
		t.Errorf("%q, %v", g.Rules[:5], edits[:5])
	}
}

func TestRepairsAreNewMemory(t *testing.T) {
	for _, c := range mendCases {
		g, want := read(t, c.gram), editsFrom(t, c.edits)
		one, _, _ := impl.MendRun(g, c.text)
		two, _, _ := impl.MendRun(g, c.text)
		room := one[:cap(one)]
		for i := range room {
			room[i] = impl.Edit{Kind: 77, At: math.MinInt, Sign: "x"}
		}
		three, _, _ := impl.MendRun(g, c.text)
		if !slices.Equal(two, want) || !slices.Equal(three, want) {
			t.Errorf("%q: %v, %v after the first edits were overwritten", c.gram, two, three)
		}
	}
}

func TestRepairsAreTheSameAtEachCall(t *testing.T) {
	// In each of these, several edits reduce the distance, so that an order of goroutines might decide between them.
	before := runtime.NumGoroutine()
	var calls sync.WaitGroup
	for _, c := range []struct{ gram, text, next string }{
		{"A\nA>aA\nA>bA\nA>c\n", "aabbaabb", "turn 7 c"},
		{"A\nA>AA\nA>a\nA>b\n", "ccaabbdd", "out 0"},
		{"A\nA>AaAb\nA>\n", "bbbbbbbb", "turn 0 a"},
		{"A\nA>BBB\nB>aaa\n", "aaaabbbb", "in 0 a"},
		{"A\nA>aBB\nB>bCC\nC>cD\nD>dd\n", "ddddbbbb", "in 0 a"},
		{"A\nA>BBCC\nB>aaaa\nC>DD\nD>bbb\n", "aaaaaaaa", "in 8 b"},
	} {
		g, want := read(t, c.gram), editsFrom(t, c.next)[0]
		all, end, _ := impl.MendRun(g, c.text)
		for range 4 {
			calls.Go(func() {
				for range 30 {
					if e, ok := impl.MendNext(g, c.text); e != want || !ok {
						t.Errorf("MendNext(%q, %q) = %v, %v, want %v", c.gram, c.text, e, ok, want)
					}
					if edits, to, _ := impl.MendRun(g, c.text); !slices.Equal(edits, all) || to != end {
						t.Errorf("MendRun(%q, %q) = %v, %q, and at first %v, %q", c.gram, c.text, edits, to, all, end)
					}
				}
			})
		}
	}
	calls.Wait()
	// A goroutine that has done its work may still be there for a moment.
	for range 100000 {
		if runtime.NumGoroutine() <= before {
			return
		}
		runtime.Gosched()
	}
	t.Errorf("%d goroutines, and %d before", runtime.NumGoroutine(), before)
}
