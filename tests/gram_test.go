package tests

import (
	"fmt"
	"math/rand"
	"reflect"
	"regexp"
	"slices"
	"strings"
	"testing"

	"loop.example/g00828/impl"
)

// sameDeep fails the test if an answer is not the one that is wanted; an
// empty list and none are the same.
func sameDeep(t *testing.T, what string, got any, want any) {
	t.Helper()
	if g, w := fmt.Sprintf("%+q", got), fmt.Sprintf("%+q", want); g != w {
		t.Errorf("%s: got %s, want %s", what, g, w)
	}
}

// rule is a Rule of its words.
func rule(head string, body ...string) impl.Rule {
	return impl.Rule{Head: head, Body: body}
}

// gram is a Gram of its Rules.
func gram(rules ...impl.Rule) impl.Gram {
	return impl.Gram{Rules: rules}
}

// copyGram is a Gram in memory of its own.
func copyGram(g impl.Gram) impl.Gram {
	out := impl.Gram{Rules: slices.Clone(g.Rules)}
	for i := range out.Rules {
		out.Rules[i].Body = slices.Clone(out.Rules[i].Body)
	}
	return out
}

// someSymbol is 1 to 4 letters from that one on.
func someSymbol(r *rand.Rand, first byte) string {
	out := make([]byte, 1+r.Intn(4))
	for i := range out {
		out[i] = first + byte(r.Intn(26))
	}
	return string(out)
}

// someGram is a right Gram. Few of its symbols differ, so that heads and
// tokens, and now and then whole Rules, stand in it more than once.
func someGram(r *rand.Rand) impl.Gram {
	var symbols []string
	heads := 1 + r.Intn(5)
	for range heads {
		symbols = append(symbols, someSymbol(r, 'A'))
	}
	for range r.Intn(5) {
		symbols = append(symbols, someSymbol(r, 'a'))
	}
	var g impl.Gram
	for range 1 + r.Intn(impl.MaxRules) {
		one := rule(symbols[r.Intn(heads)])
		for range r.Intn(impl.MaxBody + 1) {
			one.Body = append(one.Body, symbols[r.Intn(len(symbols))])
		}
		g.Rules = append(g.Rules, one)
	}
	return g
}

// manyRules is that many Rules that are alike.
func manyRules(n int) impl.Gram {
	var g impl.Gram
	for range n {
		g.Rules = append(g.Rules, rule("S", "a"))
	}
	return g
}

// wrongGrams holds Grams that are not right, by what is wrong with them.
func wrongGrams() map[string]impl.Gram {
	right := rule("S", "a", "B")
	long := strings.Repeat("a", impl.MaxBytes+1)
	return map[string]impl.Gram{
		"no Rules":             {},
		"a Rule of nothing":    gram(impl.Rule{}),
		"one Rule too many":    manyRules(impl.MaxRules + 1),
		"far too many Rules":   manyRules(impl.MaxList + 1),
		"no Head":              gram(rule("", "a")),
		"Head is a token":      gram(rule("s", "a")),
		"Head of five":         gram(rule("ABCDE", "a")),
		"Head of mixed":        gram(rule("Ab", "a")),
		"Head with +":          gram(rule("S+", "a")),
		"Head is ~":            gram(rule("~", "a")),
		"Head no UTF-8":        gram(rule("S\xff", "a")),
		"Body too long":        gram(rule("S", "a", "b", "c", "d", "e", "f")),
		"Body far too long":    gram(impl.Rule{Head: "S", Body: make([]string, impl.MaxList+1)}),
		"nothing in Body":      gram(rule("S", "a", "")),
		"mixed in Body":        gram(rule("S", "aB")),
		"five in Body":         gram(rule("S", "abcde")),
		"~ in Body":            gram(rule("S", "~")),
		"arrow in Body":        gram(rule("S", "->")),
		"blank in Body":        gram(rule("S", "a b")),
		"line feed in Body":    gram(rule("S", "a\n")),
		"no letter in Body":    gram(rule("S", "\u00e4")),
		"no UTF-8 in Body":     gram(rule("S", "\xc3")),
		"long text in Body":    gram(rule("S", long)),
		"the last Rule wrong":  gram(right, right, rule("T", "a", "1")),
		"the first Rule wrong": gram(rule("T", "a", "1"), right, right),
	}
}

// Promise 3.

func TestSymbols(t *testing.T) {
	for _, x := range []string{"A", "Z", "AB", "ABC", "AZZA", "MMMM"} {
		same(t, "head "+x, impl.IsHead(x), true)
		same(t, "no token "+x, impl.IsToken(x), false)
		low := strings.ToLower(x)
		same(t, "token "+low, impl.IsToken(low), true)
		same(t, "no head "+low, impl.IsHead(low), false)
	}
	neither := []string{
		"", "ABCDE", "abcde", "Ab", "aB", "ABc", "abcD", "A1", "a1", "A+", "A ", " a", "a\n", "~", "->", "_", "$",
		"\u00c4", "\u00e4", "A\u00c4", "a\u00e4", "\uff21", "\uff41", "\xff", "A\xff", "a\xc3", "\x00", "A\x00",
		strings.Repeat("A", impl.MaxBytes+1), strings.Repeat("a", impl.MaxBytes+1),
	}
	for _, x := range neither {
		same(t, fmt.Sprintf("IsHead of %.9q", x), impl.IsHead(x), false)
		same(t, fmt.Sprintf("IsToken of %.9q", x), impl.IsToken(x), false)
	}
}

// Each byte, in each place of one to four.
func TestSymbolBytes(t *testing.T) {
	for b := range 256 {
		up := b >= 'A' && b <= 'Z'
		low := b >= 'a' && b <= 'z'
		for n := 1; n <= 4; n++ {
			for at := range n {
				x := []byte(strings.Repeat("Q", n))
				x[at] = byte(b)
				same(t, fmt.Sprintf("IsHead of %q", x), impl.IsHead(string(x)), up)
				x = []byte(strings.Repeat("q", n))
				x[at] = byte(b)
				same(t, fmt.Sprintf("IsToken of %q", x), impl.IsToken(string(x)), low)
			}
		}
	}
}

func TestGramRight(t *testing.T) {
	right := map[string]impl.Gram{
		"one Rule":         gram(rule("S", "a")),
		"no Body":          gram(rule("S")),
		"an empty Body":    gram(impl.Rule{Head: "S", Body: []string{}}),
		"the longest Body": gram(rule("S", "a", "B", "c", "D", "e")),
		"long symbols":     gram(rule("ABCD", "abcd", "ZZZZ")),
		"undefined":        gram(rule("S", "T")),
		"itself":           gram(rule("S", "S")),
		"two alike":        gram(rule("S", "a"), rule("S", "a")),
		"the most Rules":   manyRules(impl.MaxRules),
	}
	for what, g := range right {
		same(t, what, impl.GramRight(g), true)
	}
	for what, g := range wrongGrams() {
		same(t, what, impl.GramRight(g), false)
	}
}

func TestGramText(t *testing.T) {
	cases := []struct {
		g    impl.Gram
		want string
	}{
		{gram(rule("S", "a")), "S -> a\n"},
		{gram(rule("S")), "S -> ~\n"},
		{gram(impl.Rule{Head: "S", Body: []string{}}), "S -> ~\n"},
		{gram(rule("S", "A", "b"), rule("A"), rule("A", "a", "A")), "S -> A b\nA -> ~\nA -> a A\n"},
		{gram(rule("S"), rule("S")), "S -> ~\nS -> ~\n"},
		{gram(rule("ABCD", "a", "bb", "ccc", "dddd", "EEEE")), "ABCD -> a bb ccc dddd EEEE\n"},
		{manyRules(impl.MaxRules), strings.Repeat("S -> a\n", impl.MaxRules)},
	}
	for _, c := range cases {
		same(t, "GramText", impl.GramText(c.g), c.want)
		out := impl.GramRead(c.want)
		sameDeep(t, "GramRead of "+c.want, out, impl.GramOut{Gram: c.g})
	}
}

func TestWrongGramsTellNothing(t *testing.T) {
	for what, g := range wrongGrams() {
		same(t, "GramText, "+what, impl.GramText(g), "")
		same(t, "Heads, "+what, len(impl.Heads(g)), 0)
		same(t, "Tokens, "+what, len(impl.Tokens(g)), 0)
	}
}

func TestGramComesBack(t *testing.T) {
	r := rand.New(rand.NewSource(3))
	for range 3000 {
		if t.Failed() {
			return
		}
		g := someGram(r)
		same(t, "right", impl.GramRight(g), true)
		text := impl.GramText(g)
		out := impl.GramRead(text)
		sameDeep(t, "back", out, impl.GramOut{Gram: g})
		same(t, "text again", impl.GramText(out.Gram), text)
	}
}

func TestGramReadFaults(t *testing.T) {
	cases := map[string]string{
		"empty":                     "",
		"a line feed":               "\n",
		"last line feed missing":    "S -> a",
		"second lacks line feed":    "S -> a\nS -> b",
		"an empty line first":       "\nS -> a\n",
		"an empty line amid":        "S -> a\n\nS -> b\n",
		"an empty line last":        "S -> a\n\n",
		"a blank for a line":        "S -> a\n \n",
		"carriage return":           "S -> a\r\n",
		"blank ahead":               " S -> a\n",
		"two blanks ahead of arrow": "S  -> a\n",
		"two blanks behind arrow":   "S ->  a\n",
		"two blanks in Body":        "S -> a  b\n",
		"blank at the end":          "S -> a \n",
		"blank behind ~":            "S -> ~ \n",
		"no blank ahead of arrow":   "S-> a\n",
		"no blank behind arrow":     "S ->a\n",
		"no blank at all":           "S->a\n",
		"a tab":                     "S\t-> a\n",
		"no Body":                   "S ->\n",
		"no Body, but a blank":      "S -> \n",
		"no arrow":                  "S\n",
		"Body without arrow":        "S a\n",
		"two words":                 "S a b\n",
		"another arrow":             "S => a\n",
		"two arrows":                "S -> -> a\n",
		"no Head":                   "-> a\n",
		"no Head, but a blank":      " -> a\n",
		"Head is a token":           "s -> a\n",
		"Head is ~":                 "~ -> a\n",
		"Head of five":              "ABCDE -> a\n",
		"Head of mixed":             "Sa -> a\n",
		"token of five":             "S -> abcde\n",
		"symbol of mixed":           "S -> aB\n",
		"~ behind others":           "S -> a ~\n",
		"~ ahead of others":         "S -> ~ a\n",
		"~ twice":                   "S -> ~ ~\n",
		"~ within":                  "S -> a~\n",
		"six in Body":               "S -> a b c d e f\n",
		"six heads in Body":         "S -> A B C D E F\n",
		"one Rule too many":         strings.Repeat("S -> a\n", impl.MaxRules+1),
		"digit":                     "S -> a1\n",
		"letter that is none":       "S -> \u00e4\n",
		"no UTF-8 in Head":          "S\xff -> a\n",
		"no UTF-8 in Body":          "S -> \xc3\n",
		"no UTF-8 for a blank":      "S -> a\xe2b\n",
		"no UTF-8 for line feed":    "S -> a\xff",
		"half a letter, line feed":  "S -> a\xe2\x80\n",
		"the sign of no UTF-8":      "S -> \ufffd\n",
		"a byte of 0":               "S -> a\x00\n",
		"behind a right line":       "S -> a\nx\n",
		"ahead of a right line":     "x\nS -> a\n",
		"most bytes of one word":    strings.Repeat("S", impl.MaxBytes),
		"most bytes of line feeds":  strings.Repeat("\n", impl.MaxBytes),
	}
	for what, text := range cases {
		sameDeep(t, what, impl.GramRead(text), impl.GramOut{Code: impl.ErrSyntax})
	}
}

func TestGramReadSize(t *testing.T) {
	for _, text := range []string{"S -> a\n", "\n", "x"} {
		n := impl.MaxBytes/len(text) + 1
		long := strings.Repeat(text, n)
		most := long[len(long)-impl.MaxBytes:]
		sameDeep(t, "most", impl.GramRead(most), impl.GramOut{Code: impl.ErrSyntax})
		sameDeep(t, "one more", impl.GramRead("S"+most), impl.GramOut{Code: impl.ErrSize})
	}
}

// turnText is a text with one byte put in, left out or turned.
func turnText(r *rand.Rand, text string) string {
	const puts = "AZaz  \n\n~->1\x00\xc3"
	at := r.Intn(len(text))
	k := r.Intn(len(puts))
	b := puts[k : k+1]
	switch r.Intn(3) {
	case 0:
		return text[:at] + b + text[at:]
	case 1:
		return text[:at] + text[at+1:]
	}
	return text[:at] + b + text[at+1:]
}

// Texts next to right ones: what is read is just what looks like a Gram, and
// its text is the one that was read.
func TestGramReadTakesOneSpelling(t *testing.T) {
	symbol := "( [A-Z]{1,4}| [a-z]{1,4})"
	looks := regexp.MustCompile(`\A([A-Z]{1,4} ->( ~|` + symbol + `{1,5})\n){1,20}\z`)
	r := rand.New(rand.NewSource(4))
	read := 0
	for range 20000 {
		if t.Failed() {
			return
		}
		text := impl.GramText(someGram(r))
		for range 1 + r.Intn(3) {
			text = turnText(r, text)
			if text == "" {
				break
			}
		}
		out := impl.GramRead(text)
		if looks.MatchString(text) {
			read++
			same(t, "code", out.Code, impl.OK)
			same(t, "text", impl.GramText(out.Gram), text)
			continue
		}
		sameDeep(t, fmt.Sprintf("refused %q", text), out, impl.GramOut{Code: impl.ErrSyntax})
	}
	if read < 1000 || read > 19000 {
		t.Errorf("of 20000 texts %d are right ones: too few of one kind", read)
	}
}

func TestHeadsAndTokens(t *testing.T) {
	cases := []struct {
		text   string
		heads  []string
		tokens []string
	}{
		{"S -> ~\n", []string{"S"}, nil},
		{"S -> A b\nA -> ~\nA -> a A\n", []string{"S", "A"}, []string{"b", "a"}},
		{"S -> T U\n", []string{"S"}, nil},
		{"B -> a\nA -> B\nB -> c\nA -> a\nAA -> b\n", []string{"B", "A", "AA"}, []string{"a", "c", "b"}},
		{"Z -> z y z x y\nZ -> x w\n", []string{"Z"}, []string{"z", "y", "x", "w"}},
		{"S -> S\nS -> S\n", []string{"S"}, nil},
		{"B -> ab AB\nAB -> a b ab\n", []string{"B", "AB"}, []string{"ab", "a", "b"}},
	}
	for _, c := range cases {
		g := impl.GramRead(c.text).Gram
		sameDeep(t, "Heads of "+c.text, impl.Heads(g), c.heads)
		sameDeep(t, "Tokens of "+c.text, impl.Tokens(g), c.tokens)
	}
}

// firstOnes is a list with the first one of each alone.
func firstOnes(l []string) []string {
	var out []string
	for _, x := range l {
		if !slices.Contains(out, x) {
			out = append(out, x)
		}
	}
	return out
}

func TestHeadsAndTokensOfAll(t *testing.T) {
	r := rand.New(rand.NewSource(5))
	grams := []impl.Gram{{}, {}}
	for i := range impl.MaxRules {
		head := string(rune('T' - i))
		grams[0].Rules = append(grams[0].Rules, rule(head, "a"))
		one := rule("S")
		for k := range impl.MaxBody {
			one.Body = append(one.Body, string([]byte{byte('z' - i), byte('a' + k)}))
		}
		grams[1].Rules = append(grams[1].Rules, one)
	}
	for range 2000 {
		grams = append(grams, someGram(r))
	}
	for _, g := range grams {
		if t.Failed() {
			return
		}
		var heads, tokens []string
		for _, one := range g.Rules {
			heads = append(heads, one.Head)
			for _, x := range one.Body {
				if x[0] >= 'a' {
					tokens = append(tokens, x)
				}
			}
		}
		sameDeep(t, "Heads", impl.Heads(g), firstOnes(heads))
		sameDeep(t, "Tokens", impl.Tokens(g), firstOnes(tokens))
	}
}

// What is handed in stays as it was, and what is handed back can be changed
// without changing that.
func TestGramsStayAsTheyWere(t *testing.T) {
	r := rand.New(rand.NewSource(6))
	for range 500 {
		g := someGram(r)
		was := copyGram(g)
		impl.GramRight(g)
		impl.GramText(g)
		for _, list := range [][]string{impl.Heads(g), impl.Tokens(g)} {
			spoil(list)
		}
		if !reflect.DeepEqual(g, was) {
			t.Fatalf("changed: %+v was %+v", g, was)
		}
	}
}

// spoil writes over all that a list holds, and over the room behind it.
func spoil(list []string) {
	list = list[:cap(list)]
	for i := range list {
		list[i] = "spoilt"
	}
}

// No two Bodies of what was read share memory, nor do two answers.
func TestReadBodiesAreApart(t *testing.T) {
	r := rand.New(rand.NewSource(7))
	for range 300 {
		if t.Failed() {
			return
		}
		want := someGram(r)
		text := impl.GramText(want)
		g, other := impl.GramRead(text).Gram, impl.GramRead(text).Gram
		for i := range g.Rules {
			got := copyGram(g)
			sameDeep(t, "Rules not yet spoilt", got.Rules[i:], want.Rules[i:])
			spoil(g.Rules[i].Body)
		}
		sameDeep(t, "the other answer", other, want)
	}
}
