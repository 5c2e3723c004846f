package impl

import (
	"slices"
	"strings"
)

// Rule is a production: the nonterminal Left may be replaced by the symbols of Right.
type Rule struct {
	Left  string
	Right string
}

// Gram is a grammar; its productions are identified by their indices.
type Gram struct {
	Start string
	Rules []Rule
}

// Bounds of grammars.
const (
	RuleMost  = 8
	RightMost = 4
)

const (
	firstBig   = 'A'
	lastBig    = 'E'
	firstSmall = 'a'
	lastSmall  = 'd'
)

// symbol is a byte, not a rune, because a string may contain arbitrary bytes and its length is counted in them.
type symbol byte

func (s symbol) isBig() bool {
	return firstBig <= s && s <= lastBig
}

func (s symbol) isSmall() bool {
	return firstSmall <= s && s <= lastSmall
}

// SignBig reports whether s is a nonterminal.
func SignBig(s string) bool {
	return len(s) == 1 && symbol(s[0]).isBig()
}

// SignSmall reports whether s is a terminal.
func SignSmall(s string) bool {
	return len(s) == 1 && symbol(s[0]).isSmall()
}

// GramOk reports whether g is valid.
func GramOk(g Gram) bool {
	if !SignBig(g.Start) || len(g.Rules) > RuleMost {
		return false
	}
	for i, r := range g.Rules {
		if !ruleOk(r) || slices.Contains(g.Rules[:i], r) {
			return false
		}
	}
	return true
}

func ruleOk(r Rule) bool {
	return SignBig(r.Left) && len(r.Right) <= RightMost && allSymbols(r.Right)
}

func allSymbols(signs string) bool {
	for i := range len(signs) {
		s := symbol(signs[i])
		if !s.isBig() && !s.isSmall() {
			return false
		}
	}
	return true
}

// GramText writes g as the text that GramRead reads.
func GramText(g Gram) string {
	if !GramOk(g) {
		return ""
	}
	var text strings.Builder
	text.WriteString(g.Start + "\n")
	for _, r := range g.Rules {
		text.WriteString(r.Left + ">" + r.Right + "\n")
	}
	return text.String()
}

// GramRead returns the valid grammar whose GramText is text.
func GramRead(text string) (Gram, bool) {
	nextLine := lineScanner(text)
	start, _ := nextLine()
	g := Gram{Start: start}
	// One production too many is enough to see that the grammar is not valid.
	for len(g.Rules) <= RuleMost {
		line, found := nextLine()
		if !found {
			break
		}
		left, right, _ := strings.Cut(line, ">")
		g.Rules = append(g.Rules, Rule{Left: left, Right: right})
	}
	// The lines are cut without checks; writing the grammar again shows whether anything was missing or left over.
	if !GramOk(g) || GramText(g) != text {
		return Gram{}, false
	}
	return g, true
}

// lineScanner returns a function that returns the next line of text at each call, and false once no newline is left.
func lineScanner(text string) func() (string, bool) {
	rest := text
	return func() (string, bool) {
		line, after, found := strings.Cut(rest, "\n")
		if !found {
			return "", false
		}
		rest = after
		return line, true
	}
}

// GramSame reports whether a and b are equal, valid or not.
func GramSame(a Gram, b Gram) bool {
	return a.Start == b.Start && slices.Equal(a.Rules, b.Rules)
}

// GramFor returns the indices of the productions of left.
func GramFor(g Gram, left string) []int {
	if !GramOk(g) {
		return nil
	}
	return rulesByLeft(g)[left]
}

func rulesByLeft(g Gram) map[string][]int {
	byLeft := map[string][]int{}
	for i, r := range g.Rules {
		byLeft[r.Left] = append(byLeft[r.Left], i)
	}
	return byLeft
}

// GramBigs returns the nonterminals that occur in g.
func GramBigs(g Gram) string {
	return symbolsBetween(g, firstBig, lastBig)
}

// GramSmalls returns the terminals that occur in g.
func GramSmalls(g Gram) string {
	return symbolsBetween(g, firstSmall, lastSmall)
}

// symbolsBetween looks into GramText because that holds every symbol of g, and nothing if g is not valid.
func symbolsBetween(g Gram, first byte, last byte) string {
	text := GramText(g)
	var found []byte
	for b := first; b <= last; b++ {
		if strings.IndexByte(text, b) >= 0 {
			found = append(found, b)
		}
	}
	return string(found)
}

// GramOnly returns g with only the productions whose indices occur in at.
func GramOnly(g Gram, at []int) Gram {
	if !GramOk(g) {
		return Gram{}
	}
	only := Gram{Start: g.Start}
	for i, r := range g.Rules {
		if slices.Contains(at, i) {
			only.Rules = append(only.Rules, r)
		}
	}
	return only
}
