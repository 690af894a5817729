package tests

import (
	"fmt"
	"math/rand"
	"reflect"
	"slices"
	"strings"
	"testing"

	"loop.example/g00828/impl"
)

// mostTokens is the most tokens of a right text.
const mostTokens = 12

// saidCase is a Gram, and of some texts, tokens with a blank between, what is
// told of them.
type saidCase struct {
	gram string
	yes  []string          // the start comes to these
	at   map[string]int64  // these it does not come to, and how much is viable
	span map[string]string // of a head, and behind a colon a text: the pieces as i-k
}

// spanNumbers is the numbers of pieces, each as i-k.
func spanNumbers(pieces string) []int64 {
	var out []int64
	for _, p := range words(pieces) {
		var i, k int64
		fmt.Sscanf(p, "%d-%d", &i, &k)
		out = append(out, 13*i+k)
	}
	return out
}

// checkSaid fails the test where something else is told.
func checkSaid(t *testing.T, c saidCase) {
	t.Helper()
	g := read(t, c.gram)
	for _, text := range c.yes {
		w := words(text)
		same(t, fmt.Sprintf("Derives %q by %s", text, c.gram), impl.Derives(g, w), true)
		same(t, fmt.Sprintf("Viable %q by %s", text, c.gram), impl.Viable(g, w), int64(len(w)))
	}
	for text, want := range c.at {
		same(t, fmt.Sprintf("Derives %q by %s", text, c.gram), impl.Derives(g, words(text)), false)
		same(t, fmt.Sprintf("Viable %q by %s", text, c.gram), impl.Viable(g, words(text)), want)
	}
	for key, want := range c.span {
		head, text, _ := strings.Cut(key, ":")
		got := impl.Spans(g, words(text), head)
		sameDeep(t, fmt.Sprintf("Spans of %q by %s", key, c.gram), got, spanNumbers(want))
	}
}

func checkAllSaid(t *testing.T, cases []saidCase) {
	t.Helper()
	for _, c := range cases {
		checkSaid(t, c)
	}
}

// Promise 5.

func TestSaidByOrdinaryGrams(t *testing.T) {
	checkAllSaid(t, []saidCase{
		{
			gram: "E -> E p T\nE -> T\nT -> n\n",
			yes:  []string{"n", "n p n", "n p n p n"},
			at:   map[string]int64{"": 0, "p": 0, "n p": 2, "n n": 1, "n n p": 1, "n p p n": 2, "n p n n": 3, "x": 0, "n x": 1},
			span: map[string]string{"E:n p n": "0-1 0-3 2-3", "T:n p n": "0-1 2-3", "E:": "", "T:p": "", "E:n p n p n": "0-1 0-3 0-5 2-3 2-5 4-5"},
		},
		{
			gram: "S -> a S b\nS -> a b\n",
			yes:  []string{"a b", "a a b b", "a a a a a a b b b b b b"},
			at:   map[string]int64{"": 0, "a": 1, "a a b": 3, "a b b": 2, "a a b b b": 4, "a b a b": 2, "b": 0, "a a a a a a a b b b b b": 12},
			span: map[string]string{"S:a a b b": "0-4 1-3", "S:a b a b": "0-2 2-4"},
		},
		{
			gram: "S -> A B\nA -> a\nA -> a a\nB -> a b\nB -> b\n",
			yes:  []string{"a b", "a a b", "a a a b"},
			at:   map[string]int64{"a": 1, "a a": 2, "a a a": 3, "a a a a": 3, "a a a a b": 3, "a b b": 2, "b": 0},
			span: map[string]string{"S:a a b": "0-3 1-3", "A:a a b": "0-1 0-2 1-2", "B:a a b": "1-3 2-3"},
		},
		// Tokens and heads of several bytes, some of which begin others.
		{
			gram: "LIST -> item more\nLIST -> LIST AND it\nAND -> and\n",
			yes:  []string{"item more", "item more and it", "item more and it and it"},
			at:   map[string]int64{"item": 1, "ite more": 0, "it": 0, "item mor": 1, "item more and item": 3, "i": 0},
			span: map[string]string{"LIST:item more and it": "0-2 0-4", "AND:item more and it": "2-3", "AN:and": "", "LIS:item more": ""},
		},
		// The first Rule tells the start, though it is named like no other.
		{gram: "B -> A b\nA -> a\n", yes: []string{"a b"}, at: map[string]int64{"a": 1, "b": 0}},
	})
}

func TestSaidOfNothing(t *testing.T) {
	checkAllSaid(t, []saidCase{
		{
			gram: "S -> ~\n", yes: []string{""}, at: map[string]int64{"a": 0, "a a": 0},
			span: map[string]string{"S:": "0-0", "S:a b": "0-0 1-1 2-2"},
		},
		// All of a Body, and some of it, come to nothing.
		{
			gram: "S -> A B A\nA -> ~\nA -> a\nB -> A A\nB -> b\n",
			yes:  []string{"", "a", "b", "a a", "a b", "b a", "a b a", "a a a", "a a a a"},
			at:   map[string]int64{"a a b": 2, "b b": 1, "a b b": 2, "a b a a": 3, "a a a a a": 4, "b a b": 2},
			span: map[string]string{"B:a b": "0-0 0-1 1-1 1-2 2-2", "A:a b": "0-0 0-1 1-1 2-2", "S:b": "0-0 0-1 1-1"},
		},
		{
			gram: "S -> N a N b N\nN -> ~\nN -> M M\nM -> N\n",
			yes:  []string{"a b"}, at: map[string]int64{"": 0, "a": 1, "b": 0, "a b a": 2},
			span: map[string]string{"N:a b": "0-0 1-1 2-2", "M:a b": "0-0 1-1 2-2", "S:a b a b": "0-2 2-4"},
		},
		// Nothing is found to be nothing only by way of the others.
		{
			gram: "S -> A A A A A\nA -> B B\nB -> C\nC -> D D D\nD -> ~\n",
			yes:  []string{""}, at: map[string]int64{"d": 0}, span: map[string]string{"A:d": "0-0 1-1", "D:d": "0-0 1-1"},
		},
		// Five that may come to nothing, and one that asks for all five.
		{
			gram: "S -> A A A A A\nA -> ~\nA -> a\nT -> a a a a a\n",
			yes:  []string{"", "a", "a a a a a"}, at: map[string]int64{"a a a a a a": 5},
			span: map[string]string{"T:a a a a a a": "0-5 1-6", "A:a": "0-0 0-1 1-1"},
		},
	})
}

// A start that comes to no tokens whatever, and not to nothing neither.
func TestSaidByAStartThatComesToNothingAtAll(t *testing.T) {
	for _, text := range []string{
		"S -> S\n", "S -> S a\n", "S -> a S\n", "S -> Q\n", "S -> a Q\n", "S -> Q a\n", "S -> A\nA -> S\n", "S -> A S\nA -> a\n",
		"S -> a b c S\nA -> a\n", "S -> S S\nA -> ~\n", "S -> A Q\nA -> ~\n", "S -> Q\nS -> S\nS -> a T\nT -> T\nA -> a\n",
	} {
		c := saidCase{gram: text, at: map[string]int64{}, span: map[string]string{"Q:a": ""}}
		for _, w := range []string{"", "a", "a b c", "a b c a b c a b c a b c", "b"} {
			c.at[w] = -1
			c.span["S:"+w] = ""
		}
		checkSaid(t, c)
	}
}

func TestSaidInSeveralWays(t *testing.T) {
	checkAllSaid(t, []saidCase{
		{
			gram: "S -> S S\nS -> a\nS -> a\n", yes: []string{"a", "a a", "a a a a a a a a a a a a"},
			at:   map[string]int64{"": 0, "a b a": 1},
			span: map[string]string{"S:a a a": "0-1 0-2 0-3 1-2 1-3 2-3", "S:a b a": "0-1 2-3"},
		},
		{
			gram: "S -> A B\nS -> B A\nA -> a\nA -> a a\nB -> a\nB -> a a\n", yes: []string{"a a", "a a a", "a a a a"},
			at:   map[string]int64{"a": 1, "a a a a a": 4},
			span: map[string]string{"S:a a a": "0-2 0-3 1-3"},
		},
		// In ways without end.
		{
			gram: "S -> S S\nS -> ~\nS -> a\n", yes: []string{"", "a", "a a a a"}, at: map[string]int64{"b": 0, "a b": 1},
			span: map[string]string{"S:a b": "0-0 0-1 1-1 2-2"},
		},
	})
}

func TestSaidByWhatComesBackToItself(t *testing.T) {
	checkAllSaid(t, []saidCase{
		// To itself alone.
		{
			gram: "S -> S\nS -> a\n", yes: []string{"a"}, at: map[string]int64{"": 0, "a a": 1},
			span: map[string]string{"S:a a": "0-1 1-2"},
		},
		{
			gram: "S -> A\nA -> B\nB -> S\nB -> b\nA -> a S\n", yes: []string{"b", "a b", "a a b"}, at: map[string]int64{"a": 1, "b b": 1},
			span: map[string]string{"S:a b": "0-2 1-2", "A:a b": "0-2 1-2", "B:a b": "0-2 1-2"},
		},
		{gram: "S -> N S N\nN -> ~\nS -> s\nN -> n S\n", yes: []string{"s", "n s s", "s n s"}, at: map[string]int64{"n": 1, "n s": 2, "s s": 1}},
		// At its left end, also behind what comes to nothing, and by way of others.
		{gram: "S -> S a\nS -> b\n", yes: []string{"b", "b a a a a a a a a a a a"}, at: map[string]int64{"a": 0, "b a b": 2}},
		{gram: "S -> S a\nS -> ~\n", yes: []string{"", "a", "a a a"}, at: map[string]int64{"b": 0, "a b": 1}},
		{gram: "S -> N S a\nS -> b\nN -> ~\nN -> n\n", yes: []string{"b", "n b a", "n n b a a", "b a"}, at: map[string]int64{"n": 1, "n b": 2, "n b a b": 3}},
		{gram: "S -> A a\nA -> B b\nB -> S\nB -> c\n", yes: []string{"c b a", "c b a b a"}, at: map[string]int64{"c b": 2, "c b a b": 4, "c b a a": 3, "b": 0}},
		// At its right end, likewise.
		{gram: "S -> a S\nS -> b\n", yes: []string{"b", "a a a a a a a a a a a b"}, at: map[string]int64{"a": 1, "a a a a a a a a a a a a": 12, "b a": 1}},
		{gram: "S -> a S\nS -> ~\n", yes: []string{"", "a", "a a a"}, at: map[string]int64{"b": 0, "a b": 1}},
		{gram: "S -> a S N\nS -> b\nN -> ~\nN -> n\n", yes: []string{"b", "a b n", "a a b n n", "a b"}, at: map[string]int64{"a b n n": 3, "b n": 1}},
		// At both.
		{gram: "S -> S a S\nS -> b\n", yes: []string{"b", "b a b", "b a b a b"}, at: map[string]int64{"b a": 2, "b b": 1, "a": 0}},
	})
}

// What goes on only by a Rule that never comes to tokens is no beginning.
func TestBeginningsThatComeToNoTokens(t *testing.T) {
	checkAllSaid(t, []saidCase{
		{
			gram: "S -> a b\nS -> a c Q\n", yes: []string{"a b"}, at: map[string]int64{"a c": 1, "c": 0, "a": 1},
			span: map[string]string{"Q:a": ""},
		},
		{
			gram: "S -> a b\nS -> a a L\nL -> l L\nL -> L\n", yes: []string{"a b"}, at: map[string]int64{"a a": 1, "a a l": 1},
			span: map[string]string{"L:l l": "", "S:a b": "0-2"},
		},
		// The Rule itself has good beginnings of several steps.
		{
			gram: "S -> a\nS -> A L\nA -> a a a\nL -> a L\n", yes: []string{"a"}, at: map[string]int64{"a a": 1, "a a a": 1, "a a a a": 1},
			span: map[string]string{"A:a a a a": "0-3 1-4", "L:a": ""},
		},
		// Deep within, and what stands ahead of it comes to nothing.
		{
			gram: "S -> T b\nS -> s\nT -> N c N U\nT -> t\nN -> ~\nU -> U u\n", yes: []string{"s", "t b"}, at: map[string]int64{"c": 0, "t": 1, "t c": 1},
			span: map[string]string{"T:t": "0-1", "N:t": "0-0 1-1", "U:u": ""},
		},
		// A head has fruitful Rules, too.
		{
			gram: "S -> A b\nA -> a Q\nA -> a c\nA -> d Q\n", yes: []string{"a c b"}, at: map[string]int64{"a": 1, "d": 0, "a c c": 2},
			span: map[string]string{"A:a c b": "0-2"},
		},
	})
}

func TestSpans(t *testing.T) {
	text := "S -> A b\nA -> a\nA -> ~\nU -> U a\nU -> V\nV -> b\nV -> N\nN -> ~\n"
	checkSaid(t, saidCase{gram: text, span: map[string]string{
		"S:a b": "0-2 1-2",
		"A:a b": "0-0 0-1 1-1 2-2",
		// Of what is not reached.
		"U:a b": "0-0 0-1 1-1 1-2 2-2",
		"U:b a": "0-0 0-1 0-2 1-1 1-2 2-2",
		"V:a b": "0-0 1-1 1-2 2-2",
		// Empty pieces, at every place.
		"N:":                        "0-0",
		"N:a":                       "0-0 1-1",
		"N:x y z":                   "0-0 1-1 2-2 3-3",
		"N:a a a a a a a a a a a a": "0-0 1-1 2-2 3-3 4-4 5-5 6-6 7-7 8-8 9-9 10-10 11-11 12-12",
		// No Rule, and no heads.
		"Q:a b": "", "ZZZZ:a b": "", "a:a b": "", "b:a b": "", "s:a b": "", ":a b": "", ":": "",
		"s:": "", "S :a b": "", " S:a b": "", "S+:a b": "", "~:a b": "", "ABCDE:a b": "", "\xff:a b": "", "Ab:a b": "",
	}})
	g := read(t, "S -> S S\nS -> S\nS -> ~\nS -> S a\n")
	var all []int64
	for i := range int64(mostTokens + 1) {
		for k := i; k <= mostTokens; k++ {
			all = append(all, 13*i+k)
		}
	}
	sameDeep(t, "all pieces", impl.Spans(g, many("a", mostTokens), "S"), all)
	for _, n := range []int{impl.MaxBytes, impl.MaxBytes + 1} {
		sameDeep(t, "Spans of a long text", impl.Spans(g, words("a"), strings.Repeat("S", n)), []int64{})
	}
}

// A head that stands in a Body, but has no Rule, comes to nothing anywhere.
func TestSpansOfAHeadWithoutRule(t *testing.T) {
	checkSaid(t, saidCase{gram: "S -> Q\nS -> a\nT -> Q a\n", yes: []string{"a"}, span: map[string]string{"Q:a": "", "Q:": "", "T:a": "", "S:a": "0-1"}})
}

// many is a list of that many that are alike.
func many(symbol string, n int) []string {
	return words(strings.Repeat(symbol+" ", n))
}

func TestTextsOfMostTokens(t *testing.T) {
	g := read(t, "S -> a S\nS -> ~\nT -> b\n")
	for n := range mostTokens + 1 {
		same(t, fmt.Sprint("Derives ", n), impl.Derives(g, many("a", n)), true)
		same(t, fmt.Sprint("Viable ", n), impl.Viable(g, many("a", n)), int64(n))
		same(t, fmt.Sprint("Spans ", n), len(impl.Spans(g, many("a", n), "S")), (n+1)*(n+2)/2)
	}
	for _, n := range []int{mostTokens + 1, mostTokens + 2, 100, impl.MaxList, impl.MaxList + 1, 5000} {
		checkRefused(t, fmt.Sprint(n, " tokens"), g, many("a", n))
	}
	// A beginning goes on behind the text's end, however far.
	long := read(t, "S -> A A A\nA -> a a a a a\n")
	same(t, "Viable of a part", impl.Viable(long, many("a", mostTokens)), mostTokens)
	same(t, "Derives a part", impl.Derives(long, many("a", mostTokens)), false)
}

// checkRefused fails the test if something is told of this Gram and text.
func checkRefused(t *testing.T, what string, g impl.Gram, w []string) {
	t.Helper()
	same(t, "Derives, "+what, impl.Derives(g, w), false)
	same(t, "Viable, "+what, impl.Viable(g, w), -1)
	for _, head := range []string{"S", "T", "B", "", "a"} {
		sameDeep(t, "Spans of "+head+", "+what, impl.Spans(g, w, head), []int64{})
	}
}

func TestTextsThatAreNotRight(t *testing.T) {
	g := read(t, "S -> S S\nS -> a\nS -> ~\nB -> ~\nT -> a\n")
	wrong := []string{
		"", "A", "S", "T", "B", "AB", "Ab", "aB", "abcde", "a1", "1", "~", "->", "a ", " a", "a b", "a\n", "\u00e4", "\xff", "a\x00", "S+",
		strings.Repeat("a", impl.MaxBytes), strings.Repeat("a", impl.MaxBytes+1),
	}
	for _, x := range wrong {
		what := fmt.Sprintf("with %.9q", x)
		checkRefused(t, what, g, []string{x})
		for at := range mostTokens {
			w := many("a", mostTokens)
			w[at] = x
			checkRefused(t, what+fmt.Sprint(" at ", at), g, w)
		}
		// Behind a token with which nothing goes on.
		checkRefused(t, what+" behind b", g, []string{"b", x})
	}
	checkRefused(t, "many of no token", g, make([]string, impl.MaxList+1))
}

func TestSaidByWrongGrams(t *testing.T) {
	for what, g := range wrongGrams() {
		for _, w := range [][]string{nil, {"a"}, {"b"}, {"A"}, many("a", mostTokens), many("a", impl.MaxList+1)} {
			checkRefused(t, what, g, w)
			if len(g.Rules) > 0 {
				sameDeep(t, "Spans of its first Head, "+what, impl.Spans(g, w, g.Rules[0].Head), []int64{})
			}
		}
	}
}

// Grams of as many Rules, and of Bodies as long, as may be.
func TestSaidByLargeGrams(t *testing.T) {
	var g impl.Gram
	for i := range impl.MaxRules - 2 {
		g.Rules = append(g.Rules, rule("S", many("S", i%impl.MaxBody+1)...))
	}
	g.Rules = append(g.Rules, rule("S", "a"), rule("S"))
	w := many("a", mostTokens)
	same(t, "Derives", impl.Derives(g, w), true)
	same(t, "Viable", impl.Viable(g, w), mostTokens)
	same(t, "Spans", len(impl.Spans(g, w, "S")), 91)
	w[mostTokens-1] = "b"
	same(t, "Derives with b", impl.Derives(g, w), false)
	same(t, "Viable with b", impl.Viable(g, w), mostTokens-1)

	for what, g := range map[string]impl.Gram{"left": chain(nil, many("b", 4), "a"), "right": chain(many("b", 4), nil, "a"), "alone": chain(nil, nil, "a")} {
		w, end := many("b", mostTokens), chainHead(impl.MaxRules-1)
		if what != "right" {
			w[0] = "a"
		}
		same(t, "Derives, "+what, impl.Derives(g, w), false)
		same(t, "Derives a, "+what, impl.Derives(g, words("a")), what == "alone")
		same(t, "Viable, "+what, impl.Viable(g, w), map[string]int64{"left": 12, "right": 12, "alone": 1}[what])
		same(t, "Spans of the last, "+what, len(impl.Spans(g, w, end)), map[string]int{"left": 1, "right": 0, "alone": 1}[what])
	}
	nothing := chain(nil, nil)
	same(t, "Derives nothing", impl.Derives(nothing, nil), true)
	same(t, "Spans of nothing", len(impl.Spans(nothing, w, chainHead(0))), mostTokens+1)
}

// table is what chapter 5 says, told of Rules by filling in the pieces of a
// text till nothing changes: in each round, all ways to cut are tried. Rules
// are of whatever symbols: what has no Rule is a token.
type table struct {
	rules []impl.Rule
	w     []string
	comes map[string]bool
}

func pieceKey(head string, i int, k int) string {
	return fmt.Sprint(head, " ", i, " ", k)
}

func newTable(rules []impl.Rule, w []string) table {
	b := table{rules, w, map[string]bool{}}
	for i, token := range w {
		b.comes[pieceKey(token, i, i+1)] = true
	}
	for grown := true; grown; {
		grown = false
		for _, r := range rules {
			for i := range len(w) + 1 {
				for k := i; k <= len(w); k++ {
					key := pieceKey(r.Head, i, k)
					if !b.comes[key] && b.cuts(r.Body, i, k) {
						b.comes[key] = true
						grown = true
					}
				}
			}
		}
	}
	return b
}

// cuts tells whether a piece can be cut into those of a Body.
func (b table) cuts(body []string, i int, k int) bool {
	if len(body) == 0 {
		return i == k
	}
	for m := i; m <= k; m++ {
		if b.comes[pieceKey(body[0], i, m)] && b.cuts(body[1:], m, k) {
			return true
		}
	}
	return false
}

// beginnings is Rules that say, of each symbol with a ' behind, all that is
// the beginning of something that it comes to. A Rule of which something
// comes to no tokens has none.
func beginnings(g impl.Gram) []impl.Rule {
	rules := slices.Clone(g.Rules)
	told := toldBy{g, map[string]bool{}}
	for _, token := range impl.Tokens(g) {
		rules = append(rules, rule(token+"'", token), rule(token+"'"))
	}
	for _, r := range g.Rules {
		if !told.comes(r.Body, true) {
			continue
		}
		rules = append(rules, rule(r.Head+"'"))
		for k, x := range r.Body {
			rules = append(rules, rule(r.Head+"'", append(slices.Clone(r.Body[:k]), x+"'")...))
		}
	}
	return rules
}

// viableBy is how much of a text is a beginning, as those Rules have it.
func viableBy(g impl.Gram, w []string) int64 {
	b := newTable(beginnings(g), w)
	for n := len(w); n >= 0; n-- {
		if b.comes[pieceKey(g.Rules[0].Head+"'", 0, n)] {
			return int64(n)
		}
	}
	return -1
}

// grown is something that a head comes to, by trees no deeper than that, or
// false if none was met with.
func grown(r *rand.Rand, g impl.Gram, head string, deep int) ([]string, bool) {
	var rules []impl.Rule
	for _, one := range g.Rules {
		if one.Head == head {
			rules = append(rules, one)
		}
	}
	if len(rules) == 0 || deep == 0 {
		return nil, false
	}
	var out []string
	for _, x := range rules[r.Intn(len(rules))].Body {
		if x[0] >= 'a' {
			out = append(out, x)
			continue
		}
		part, ok := grown(r, g, x, deep-1)
		if !ok || len(out)+len(part) > 60 {
			return nil, false
		}
		out = append(out, part...)
	}
	return out, true
}

// saidText is a text near what the start comes to, or just some tokens.
func saidText(r *rand.Rand, g impl.Gram, most int) []string {
	var w []string
	for range 6 {
		if said, ok := grown(r, g, g.Rules[0].Head, 7); ok && len(said) > 0 {
			w = said
			break
		}
	}
	if len(w) == 0 || r.Intn(5) == 0 {
		w = nil
		for range r.Intn(most + 1) {
			w = append(w, []string{"a", "b"}[r.Intn(2)])
		}
	}
	w = w[:min(len(w), most)]
	for len(w) > 0 && r.Intn(3) == 0 {
		w[r.Intn(len(w))] = []string{"a", "b", "c"}[r.Intn(3)]
	}
	return w
}

func TestSaidIsAsTold(t *testing.T) {
	r := rand.New(rand.NewSource(11))
	count := map[string]int{}
	const all = 3000
	for i := range all {
		if t.Failed() {
			return
		}
		g, most := smallGram(r), 6
		if i%20 == 0 {
			g, most = someGram(r), 4
		}
		w := saidText(r, g, most)
		what := fmt.Sprintf(" %q by %s", w, impl.GramText(g))
		b := newTable(g.Rules, w)
		said := b.comes[pieceKey(g.Rules[0].Head, 0, len(w))]
		same(t, "Derives"+what, impl.Derives(g, w), said)
		same(t, "Viable"+what, impl.Viable(g, w), viableBy(g, w))
		for _, head := range append(impl.Heads(g), "F", "QQ") {
			var want []int64
			for n := range int64(13 * 13) {
				if b.comes[pieceKey(head, int(n/13), int(n%13))] {
					want = append(want, n)
				}
			}
			sameDeep(t, "Spans of "+head+what, impl.Spans(g, w, head), want)
		}
		countSaid(count, said, impl.Viable(g, w), len(w))
	}
	for _, what := range []string{"said", "begun", "broken", "without start"} {
		if count[what] < all/20 {
			t.Errorf("of %d texts %d are %s: too few", all, count[what], what)
		}
	}
}

// countSaid counts of which kind a text is.
func countSaid(count map[string]int, said bool, viable int64, n int) {
	switch {
	case said && n > 0:
		count["said"]++
	case viable == -1:
		count["without start"]++
	case viable == int64(n):
		count["begun"]++
	default:
		count["broken"]++
	}
}

// What trees come to is said, and each beginning of it is one, also of what is
// too long to be asked as a whole.
func TestWhatGrowsIsSaid(t *testing.T) {
	r := rand.New(rand.NewSource(12))
	long, short := 0, 0
	for i := range 6000 {
		if t.Failed() {
			return
		}
		g := smallGram(r)
		if i%2 == 0 {
			g = someGram(r)
		}
		w, ok := grown(r, g, g.Rules[0].Head, 9)
		if !ok {
			continue
		}
		what := fmt.Sprintf(" %q by %s", w, impl.GramText(g))
		if len(w) > mostTokens {
			long++
			w = w[:mostTokens]
		} else {
			short++
			same(t, "Derives"+what, impl.Derives(g, w), true)
			spans := impl.Spans(g, w, g.Rules[0].Head)
			same(t, "Spans"+what, slices.Contains(spans, int64(len(w))), true)
		}
		for n := range len(w) + 1 {
			same(t, "Viable"+what, impl.Viable(g, w[:n]), int64(n))
		}
	}
	if long < 20 || short < 500 {
		t.Errorf("%d long texts and %d short ones: too few of one kind", long, short)
	}
}

func TestWhatIsSaidHoldsTogether(t *testing.T) {
	r := rand.New(rand.NewSource(13))
	for range 3000 {
		if t.Failed() {
			return
		}
		g := smallGram(r)
		w := saidText(r, g, mostTokens)
		what := fmt.Sprintf(" %q by %s", w, impl.GramText(g))
		start := g.Rules[0].Head
		viable := impl.Viable(g, w)
		if impl.Derives(g, w) {
			same(t, "said is viable,"+what, viable, int64(len(w)))
		}
		same(t, "no start,"+what, viable == -1, !slices.Contains(impl.Productive(g), start))
		spans := impl.Spans(g, w, start)
		for n := range len(w) + 1 {
			want := min(viable, int64(n))
			same(t, fmt.Sprint("Viable of the first ", n, what), impl.Viable(g, w[:n]), want)
			same(t, fmt.Sprint("Derives the first ", n, what), impl.Derives(g, w[:n]), slices.Contains(spans, int64(n)))
		}
		for _, head := range impl.Heads(g) {
			spans := impl.Spans(g, w, head)
			for i := range len(w) + 1 {
				empty := slices.Contains(spans, int64(14*i))
				same(t, fmt.Sprint("nothing of ", head, " at ", i, what), empty, slices.Contains(impl.Nullable(g), head))
			}
		}
	}
}

// The numbers rise, whatever the order in which pieces are found.
func TestSpansRise(t *testing.T) {
	r := rand.New(rand.NewSource(14))
	for range 2000 {
		g := smallGram(r)
		w := saidText(r, g, mostTokens)
		for _, head := range impl.Heads(g) {
			spans := impl.Spans(g, w, head)
			for n, x := range spans {
				i, k := x/13, x%13
				if n > 0 && x <= spans[n-1] || x < 0 || i > k || k > int64(len(w)) {
					t.Fatalf("Spans of %s by %s: %v", head, impl.GramText(g), spans)
				}
			}
		}
	}
}

// What is handed in stays as it was, the room behind it too; what is handed
// back can be changed without changing that, and the next answer is the same.
func TestSaidStaysAsItWas(t *testing.T) {
	r := rand.New(rand.NewSource(15))
	for range 1000 {
		if t.Failed() {
			return
		}
		g := smallGram(r)
		w := append(saidText(r, g, mostTokens), "behind", "b")
		wasGram, wasText := copyGram(g), slices.Clone(w)
		head, asked := g.Rules[0].Head, w[:len(w)-2]
		all := func() []any {
			return []any{impl.Derives(g, asked), impl.Viable(g, asked), impl.Spans(g, asked, head)}
		}
		first, second := all(), all()
		spans := first[2].([]int64)
		spans = spans[:cap(spans)]
		for i := range spans {
			spans[i] = -1
		}
		if !reflect.DeepEqual(g, wasGram) || !slices.Equal(w, wasText) {
			t.Fatalf("changed: %+v was %+v, %q was %q", g, wasGram, w, wasText)
		}
		sameDeep(t, "asked before", second, all())
	}
}
