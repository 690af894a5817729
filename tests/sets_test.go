package tests

import (
	"fmt"
	"math/rand"
	"reflect"
	"slices"
	"strings"
	"testing"

	"loop.example/g00828/impl"
)

// read is the Gram of a text that is one.
func read(t *testing.T, text string) impl.Gram {
	t.Helper()
	out := impl.GramRead(text)
	if out.Code != impl.OK {
		t.Fatalf("no text of a Gram: %q", text)
	}
	return out.Gram
}

// words is the words of a text.
func words(text string) []string {
	return strings.Fields(text)
}

// smallGram is a right Gram of few Rules, so that often heads come to nothing,
// to no tokens, or are not reached. F is a Head only now and then.
func smallGram(r *rand.Rand) impl.Gram {
	heads := []string{"A", "B", "C", "DD", "E", "F"}
	r.Shuffle(len(heads)-1, func(i, k int) { heads[i], heads[k] = heads[k], heads[i] })
	symbols := append([]string{"a", "b"}, heads...)
	var g impl.Gram
	for range 1 + r.Intn(9) {
		one := rule(heads[r.Intn(5)])
		if r.Intn(20) == 0 {
			one.Head = "F"
		}
		for range r.Intn(4) {
			k := r.Intn(len(symbols))
			if symbols[k] == "F" && r.Intn(4) > 0 {
				k = r.Intn(2)
			}
			one.Body = append(one.Body, symbols[k])
		}
		g.Rules = append(g.Rules, one)
	}
	return g
}

// chain is MaxRules Rules of as many heads: each comes to the next one, with
// what stands around it, and the last one to its Body.
func chain(ahead []string, behind []string, last ...string) impl.Gram {
	var g impl.Gram
	for i := range impl.MaxRules {
		body := slices.Concat(ahead, []string{chainHead(i + 1)}, behind)
		if i == impl.MaxRules-1 {
			body = last
		}
		g.Rules = append(g.Rules, rule(chainHead(i), body...))
	}
	return g
}

// chainHead is the name of a head of a chain. The order of the names is not
// that of the numbers.
func chainHead(i int) string {
	return "H" + string([]byte{byte('A' + i*7%26)})
}

// chainHeads is the heads of a chain from one on.
func chainHeads(from int) []string {
	var out []string
	for i := from; i < impl.MaxRules; i++ {
		out = append(out, chainHead(i))
	}
	return out
}

// setsCase is a Gram, and what is told of it, heads with a blank between. Left
// has some heads, and the LeftOf of each.
type setsCase struct {
	text       string
	nullable   string
	productive string
	reachable  string
	undefined  string
	useful     []int64
	cycle      string
	left       map[string]string
}

// checkSets fails the test where something else is told.
func checkSets(t *testing.T, g impl.Gram, c setsCase) {
	t.Helper()
	sameDeep(t, "Nullable of "+c.text, impl.Nullable(g), words(c.nullable))
	sameDeep(t, "Productive of "+c.text, impl.Productive(g), words(c.productive))
	sameDeep(t, "Reachable of "+c.text, impl.Reachable(g), words(c.reachable))
	same(t, "Undefined of "+c.text, impl.Undefined(g), c.undefined)
	sameDeep(t, "Useful of "+c.text, impl.Useful(g), c.useful)
	same(t, "Cycle of "+c.text, impl.Cycle(g), c.cycle)
	for head, want := range c.left {
		sameDeep(t, "LeftOf "+head+" of "+c.text, impl.LeftOf(g, head), words(want))
	}
}

// Promise 4.

func TestSetsOfOrdinaryGrams(t *testing.T) {
	cases := []setsCase{
		{text: "S -> a\n", productive: "S", reachable: "S", useful: []int64{0}, left: map[string]string{"S": ""}},
		{
			text: "E -> E p T\nE -> T\nT -> n\n", productive: "E T", reachable: "E T", useful: []int64{0, 1, 2},
			left: map[string]string{"E": "E T", "T": ""},
		},
		{
			text:       "S -> A B a\nA -> ~\nB -> A A\nB -> S b\nC -> C\nD -> d\nS -> C\n",
			nullable:   "A B",
			productive: "S A B D",
			reachable:  "S A B C",
			useful:     []int64{0, 1, 2, 3},
			left:       map[string]string{"S": "S A B C", "A": "", "B": "S A B C", "C": "C", "D": ""},
		},
		{
			text: "Z -> Y a\nB -> b\nY -> X\nX -> B c\nX -> ~\n", nullable: "Y X", productive: "Z B Y X",
			reachable: "Z B Y X", useful: []int64{0, 1, 2, 3, 4},
			left: map[string]string{"Z": "B Y X", "Y": "B X", "X": "B", "B": ""},
		},
	}
	for _, c := range cases {
		checkSets(t, read(t, c.text), c)
	}
}

func TestSetsOfNothing(t *testing.T) {
	cases := []setsCase{
		{text: "S -> ~\n", nullable: "S", productive: "S", reachable: "S", useful: []int64{0}, left: map[string]string{"S": ""}},
		// S comes to nothing only by way of the others, told from the last on.
		{
			text: "S -> A B A\nA -> B B\nB -> C\nC -> ~\nC -> S c\n", nullable: "S A B C", productive: "S A B C",
			reachable: "S A B C", useful: []int64{0, 1, 2, 3, 4},
			left: map[string]string{"S": "S A B C", "A": "S A B C", "B": "S A B C", "C": "S A B C"},
		},
		// A token, or a head that is not Nullable, keeps a Body from it.
		{
			text: "S -> A a\nS -> A B\nA -> ~\nB -> A b\n", nullable: "A", productive: "S A B", reachable: "S A B",
			useful: []int64{0, 1, 2, 3}, left: map[string]string{"S": "A B", "B": "A"},
		},
		// Only itself is needed: that is no way to nothing.
		{text: "S -> S\n", reachable: "S", left: map[string]string{"S": "S"}},
		{text: "S -> A\nA -> S\n", reachable: "S A", left: map[string]string{"S": "S A", "A": "S A"}},
		// What no Rule tells comes to nothing neither.
		{text: "S -> Q\n", reachable: "S", undefined: "Q", left: map[string]string{"S": "", "Q": ""}},
	}
	for _, c := range cases {
		checkSets(t, read(t, c.text), c)
	}
}

func TestUndefined(t *testing.T) {
	cases := map[string]string{
		"S -> A\nA -> Q\n":                 "Q",
		"S -> a Z b Q\nZ -> X\n":           "Q",
		"S -> T\nT -> ~\n":                 "",
		"S -> S\n":                         "",
		"S -> a b c\n":                     "",
		"S -> U T\nU -> W\nT -> V\n":       "W",
		"S -> U T\nT -> V\nU -> W\n":       "V",
		"S -> SS\n":                        "SS",
		"SS -> S\n":                        "S",
		"S -> s\nX -> S x s Y X\nA -> Z\n": "Y",
	}
	for text, want := range cases {
		same(t, "Undefined of "+text, impl.Undefined(read(t, text)), want)
	}
}

func TestUseful(t *testing.T) {
	cases := []setsCase{
		// C comes to no tokens at all, and A is reached only by a Rule with it.
		{
			text: "S -> A C\nS -> a\nA -> a\nC -> c C\nB -> A\n", productive: "S A B", reachable: "S A C",
			useful: []int64{1}, left: map[string]string{"S": "A", "C": "", "B": "A"},
		},
		// Likewise with a head that is none's Head, and two steps behind it.
		{
			text: "S -> a\nS -> A Q\nA -> B b\nB -> b\n", productive: "S A B", reachable: "S A B",
			undefined: "Q", useful: []int64{0}, left: map[string]string{"S": "A B", "A": "B", "B": "", "Q": ""},
		},
		// A is reached by a useful Rule, too.
		{
			text: "S -> A Q\nA -> a\nS -> b A\n", productive: "S A", reachable: "S A", undefined: "Q",
			useful: []int64{1, 2}, left: map[string]string{"S": "A"},
		},
		// The start comes to no tokens: then nothing is useful.
		{text: "S -> A S\nA -> a\nA -> ~\n", nullable: "A", productive: "A", reachable: "S A", left: map[string]string{"S": "S A"}},
		// What is not reached is not useful, though it reaches the start.
		{
			text: "S -> a\nT -> S\nT -> T b\n", productive: "S T", reachable: "S",
			useful: []int64{0}, left: map[string]string{"S": "", "T": "S T"},
		},
		// A Rule that is there twice is useful twice.
		{text: "S -> A\nA -> a\nA -> a\nS -> A\n", productive: "S A", reachable: "S A", useful: []int64{0, 1, 2, 3}},
	}
	for _, c := range cases {
		checkSets(t, read(t, c.text), c)
	}
}

func TestCycle(t *testing.T) {
	cases := map[string]string{
		// By one step, by several, and with others around it.
		"S -> S\nS -> a\n":                                         "S",
		"A -> B\nB -> A\nA -> a\n":                                 "A",
		"S -> A\nA -> B\nB -> C\nC -> A\nC -> c\n":                 "A",
		"S -> N S N\nS -> a\nN -> ~\nN -> n\n":                     "S",
		"S -> a A\nA -> N M B\nB -> A N\nB -> b\nN -> M\nM -> ~\n": "A",
		"S -> S S\nS -> a\nS -> ~\n":                               "S",
		"S -> N N\nN -> S\nN -> ~\nN -> n\n":                       "S",
		// What stands around it is not Nullable.
		"S -> S S\nS -> a\n":                   "",
		"S -> S a\nS -> ~\n":                   "",
		"S -> a S\nS -> ~\n":                   "",
		"S -> N S M\nS -> a\nN -> ~\nM -> m\n": "",
		"S -> M S N\nS -> a\nN -> ~\nM -> m\n": "",
		"E -> E p T\nE -> T\nT -> n\n":         "",
		"S -> A\nA -> B\nB -> b\n":             "",
		"S -> ~\n":                             "",
		"S -> N N\nN -> ~\n":                   "",
		// By Rules that are not useful alone.
		"S -> S\n":                           "",
		"S -> a\nT -> T\nT -> t\n":           "",
		"S -> a\nS -> S Q\n":                 "",
		"S -> a\nS -> T Q\nT -> T\nT -> t\n": "",
		"S -> a\nS -> A\nA -> B\nB -> A\n":   "",
		// The first one as Heads has them, not as they are come to, nor by name.
		"S -> C\nB -> C\nC -> B\nC -> c\n":             "B",
		"S -> a Z A\nZ -> Z\nZ -> z\nA -> A\nA -> a\n": "Z",
		"S -> A T\nA -> a\nT -> T\nT -> t\n":           "T",
	}
	for text, want := range cases {
		same(t, "Cycle of "+text, impl.Cycle(read(t, text)), want)
	}
}

func TestLeftOf(t *testing.T) {
	text := "S -> N M A b B\nN -> ~\nM -> N\nA -> A a\nA -> Q\nB -> C\nC -> S\nC -> c X\nU -> V\nV -> U V\n"
	c := map[string]string{
		// Behind heads that are Nullable, and no further.
		"S": "N M A",
		"N": "",
		"M": "N",
		"A": "A",
		"B": "S N M A C",
		"C": "S N M A",
		// Not useful, and not reached.
		"U": "U V",
		"V": "U V",
		// Q, at an end, and X stand in a Body alone; the others nowhere.
		"Q": "", "X": "", "T": "", "ZZZZ": "",
		// No heads.
		"": "", "a": "", "b": "", "c": "", "s": "", "SA": "", "S ": "", " S": "", "S+": "", "~": "", "->": "", "ABCDE": "", "\xff": "",
	}
	g := read(t, text)
	for head, want := range c {
		sameDeep(t, fmt.Sprintf("LeftOf %q", head), impl.LeftOf(g, head), words(want))
	}
	for _, n := range []int{impl.MaxBytes, impl.MaxBytes + 1} {
		sameDeep(t, "LeftOf of a long text", impl.LeftOf(g, strings.Repeat("S", n)), []string{})
	}
}

func TestSetsOfAsManyHeadsAsRules(t *testing.T) {
	all := strings.Join(chainHeads(0), " ")
	var rules []int64
	for i := range impl.MaxRules {
		rules = append(rules, int64(i))
	}
	first, last := chainHead(0), chainHead(impl.MaxRules-1)
	behind := strings.Join(chainHeads(1), " ")
	cases := map[string]struct {
		g impl.Gram
		c setsCase
	}{
		"to nothing":  {chain(nil, nil), setsCase{nullable: all, productive: all, reachable: all, useful: rules, left: map[string]string{first: behind, last: ""}}},
		"to a token":  {chain(nil, nil, "a"), setsCase{productive: all, reachable: all, useful: rules, left: map[string]string{first: behind, last: ""}}},
		"round":       {chain(nil, nil, first), setsCase{reachable: all, left: map[string]string{first: all, last: all}}},
		"to none":     {chain(nil, nil, "Q"), setsCase{reachable: all, undefined: "Q", left: map[string]string{first: behind, last: ""}}},
		"behind some": {chain(words("a"), nil, "a"), setsCase{productive: all, reachable: all, useful: rules, left: map[string]string{first: ""}}},
	}
	for what, one := range cases {
		one.c.text = what
		checkSets(t, one.g, one.c)
	}
	// A head that comes to itself by useful Rules has two of them, so here is
	// one head less.
	for k := range impl.MaxRules - 1 {
		g := chain(nil, nil)
		end := chainHead(impl.MaxRules - 2)
		g.Rules[impl.MaxRules-2] = rule(end, "a")
		g.Rules[impl.MaxRules-1] = rule(end, chainHead(k))
		same(t, "the first one of the way round", impl.Cycle(g), chainHead(k))
	}
}

func TestSetsOfWrongGrams(t *testing.T) {
	for what, g := range wrongGrams() {
		checkSets(t, g, setsCase{text: what, left: map[string]string{"S": "", "T": "", "B": "", "": "", "a": ""}})
		if len(g.Rules) > 0 {
			sameDeep(t, "LeftOf its first Head, "+what, impl.LeftOf(g, g.Rules[0].Head), []string{})
		}
	}
}

// toldBy is what chapter 4 says of a Gram, told step by step: heads come to
// something within that many steps, and are gone through path by path.
type toldBy struct {
	g     impl.Gram
	known map[string]bool
}

// within tells whether a head comes to tokens (or, without these, to nothing)
// by trees no deeper than that. A least one has no head twice on a path.
func (b toldBy) within(head string, tokens bool, deep int) bool {
	if deep == 0 {
		return false
	}
	key := fmt.Sprint(head, tokens, deep)
	if is, there := b.known[key]; there {
		return is
	}
	for _, r := range b.g.Rules {
		if r.Head == head && b.allWithin(r.Body, tokens, deep-1) {
			b.known[key] = true
			return true
		}
	}
	b.known[key] = false
	return false
}

func (b toldBy) allWithin(body []string, tokens bool, deep int) bool {
	for _, x := range body {
		if x[0] >= 'a' && !tokens || x[0] < 'a' && !b.within(x, tokens, deep) {
			return false
		}
	}
	return true
}

func (b toldBy) comes(body []string, tokens bool) bool {
	return b.allWithin(body, tokens, len(b.g.Rules))
}

// pathTo tells whether one goes from one head to another by one step or more,
// each head once; a step goes from the Head of a Rule to those told of it.
func (b toldBy) pathTo(from string, to string, seen []string, step func(i int, r impl.Rule) []string) bool {
	for i, r := range b.g.Rules {
		if r.Head != from {
			continue
		}
		for _, x := range step(i, r) {
			if x == to {
				return true
			}
			if !slices.Contains(seen, x) && b.pathTo(x, to, append(slices.Clone(seen), x), step) {
				return true
			}
		}
	}
	return false
}

// reached tells whether a head is the start, or come to from it by Rules of
// which that is true.
func (b toldBy) reached(head string, by func(r impl.Rule) bool) bool {
	start := b.g.Rules[0].Head
	return head == start || b.pathTo(start, head, nil, func(_ int, r impl.Rule) []string {
		if !by(r) {
			return nil
		}
		return r.Body
	})
}

// chosen is the Heads of which that is true.
func (b toldBy) chosen(is func(head string) bool) []string {
	var out []string
	for _, head := range impl.Heads(b.g) {
		if is(head) {
			out = append(out, head)
		}
	}
	return out
}

func (b toldBy) useful() []int64 {
	productive := func(r impl.Rule) bool { return b.comes(r.Body, true) }
	var out []int64
	for i, r := range b.g.Rules {
		if productive(r) && b.comes([]string{r.Head}, true) && b.reached(r.Head, productive) {
			out = append(out, int64(i))
		}
	}
	return out
}

func (b toldBy) cycle() string {
	useful := b.useful()
	alone := func(i int, r impl.Rule) []string {
		var out []string
		for k, x := range r.Body {
			rest := slices.Concat(r.Body[:k], r.Body[k+1:])
			if slices.Contains(useful, int64(i)) && b.comes(rest, false) {
				out = append(out, x)
			}
		}
		return out
	}
	for _, head := range impl.Heads(b.g) {
		if b.pathTo(head, head, nil, alone) {
			return head
		}
	}
	return ""
}

func (b toldBy) leftOf(head string) []string {
	left := func(_ int, r impl.Rule) []string {
		var out []string
		for k, x := range r.Body {
			if b.comes(r.Body[:k], false) {
				out = append(out, x)
			}
		}
		return out
	}
	return b.chosen(func(x string) bool { return b.pathTo(head, x, nil, left) })
}

func TestSetsAreAsTold(t *testing.T) {
	r := rand.New(rand.NewSource(8))
	count := map[string]int{}
	for i := range 6000 {
		if t.Failed() {
			return
		}
		g := smallGram(r)
		if i%10 == 0 {
			g = someGram(r)
		}
		b := toldBy{g, map[string]bool{}}
		text := impl.GramText(g)
		sameDeep(t, "Nullable of "+text, impl.Nullable(g), b.chosen(func(x string) bool { return b.comes([]string{x}, false) }))
		sameDeep(t, "Productive of "+text, impl.Productive(g), b.chosen(func(x string) bool { return b.comes([]string{x}, true) }))
		sameDeep(t, "Reachable of "+text, impl.Reachable(g), b.chosen(func(x string) bool {
			return b.reached(x, func(impl.Rule) bool { return true })
		}))
		sameDeep(t, "Useful of "+text, impl.Useful(g), b.useful())
		same(t, "Cycle of "+text, impl.Cycle(g), b.cycle())
		for _, head := range []string{"A", "B", "C", "DD", "E", "F", g.Rules[0].Head} {
			sameDeep(t, "LeftOf "+head+" of "+text, impl.LeftOf(g, head), b.leftOf(head))
		}
		countSets(count, g)
	}
	for _, what := range []string{"nullable", "not productive", "not reachable", "undefined", "useful", "not useful", "cycle"} {
		if count[what] < 300 || count[what] > 5700 {
			t.Errorf("of 6000 Grams %d are %s: too few of one kind", count[what], what)
		}
	}
}

// countSets counts of which kinds a Gram is.
func countSets(count map[string]int, g impl.Gram) {
	kinds := map[string]bool{
		"nullable":       len(impl.Nullable(g)) > 0,
		"not productive": len(impl.Productive(g)) < len(impl.Heads(g)),
		"not reachable":  len(impl.Reachable(g)) < len(impl.Heads(g)),
		"undefined":      impl.Undefined(g) != "",
		"useful":         len(impl.Useful(g)) > 0,
		"not useful":     len(impl.Useful(g)) < len(g.Rules),
		"cycle":          impl.Cycle(g) != "",
	}
	for what, is := range kinds {
		if is {
			count[what]++
		}
	}
}

// onlyUseful is the Gram of the useful Rules, those of the start first, so
// that it is the start still.
func onlyUseful(g impl.Gram) impl.Gram {
	var first, rest []impl.Rule
	for _, i := range impl.Useful(g) {
		if r := g.Rules[i]; r.Head == g.Rules[0].Head {
			first = append(first, r)
		} else {
			rest = append(rest, r)
		}
	}
	return gram(append(first, rest...)...)
}

func TestWhatIsToldHoldsTogether(t *testing.T) {
	r := rand.New(rand.NewSource(9))
	for range 6000 {
		if t.Failed() {
			return
		}
		g := smallGram(r)
		text := impl.GramText(g)
		productive := impl.Productive(g)
		for _, head := range impl.Nullable(g) {
			same(t, "Nullable "+head+" is Productive in "+text, slices.Contains(productive, head), true)
		}
		useful := impl.Useful(g)
		same(t, "useful if the start is Productive, "+text, len(useful) > 0, slices.Contains(productive, g.Rules[0].Head))
		if head := impl.Cycle(g); head != "" {
			same(t, "itself at the left of "+head+" in "+text, slices.Contains(impl.LeftOf(g, head), head), true)
		}
		if len(useful) == 0 {
			same(t, "Cycle without useful Rules, "+text, impl.Cycle(g), "")
			continue
		}
		u := onlyUseful(g)
		heads := impl.Heads(u)
		same(t, "Undefined of useful Rules of "+text, impl.Undefined(u), "")
		sameDeep(t, "Productive of useful Rules of "+text, impl.Productive(u), heads)
		sameDeep(t, "Reachable of useful Rules of "+text, impl.Reachable(u), heads)
		same(t, "Useful of useful Rules of "+text, len(impl.Useful(u)), len(u.Rules))
		same(t, "Cycle of useful Rules of "+text, impl.Cycle(u) == "", impl.Cycle(g) == "")
	}
}

// What is handed in stays as it was, what is handed back can be changed
// without changing that, and the next answer is the same again.
func TestSetsStayAsTheyWere(t *testing.T) {
	r := rand.New(rand.NewSource(10))
	for range 1000 {
		if t.Failed() {
			return
		}
		g := smallGram(r)
		was := copyGram(g)
		head := g.Rules[0].Head
		all := func() []any {
			return []any{
				impl.Nullable(g), impl.Productive(g), impl.Reachable(g), impl.LeftOf(g, head),
				impl.Useful(g), impl.Undefined(g), impl.Cycle(g),
			}
		}
		first, second := all(), all()
		for _, list := range first[:4] {
			spoil(list.([]string))
		}
		for i := range first[4].([]int64) {
			first[4].([]int64)[i] = -1
		}
		if !reflect.DeepEqual(g, was) {
			t.Fatalf("changed: %+v was %+v", g, was)
		}
		sameDeep(t, "asked before", second, all())
	}
}
