package tests

import (
	"fmt"
	"math"
	"math/rand"
	"reflect"
	"runtime/debug"
	"slices"
	"strings"
	"testing"

	"loop.example/g00828/impl"
)

// What chapter 10 says, read plainly.

// compileBy makes a Gram ready by the plain readings of chapters 8 and 9.
func compileBy(g impl.Gram) impl.CompOut {
	if !impl.GramRight(g) {
		return impl.CompOut{Code: impl.ErrForm}
	}
	if head := impl.Undefined(g); head != "" {
		return impl.CompOut{What: head, Code: impl.ErrNone}
	}
	start := g.Rules[0].Head
	if !slices.Contains(impl.Productive(g), start) {
		return impl.CompOut{What: start, Code: impl.ErrRange}
	}
	if head := impl.Cycle(g); head != "" {
		return impl.CompOut{What: head, Code: impl.ErrState}
	}
	out := straightAllBy(noUnitBy(noEmptyBy(g), start))
	if out.Code != impl.OK {
		return impl.CompOut{Code: out.Code}
	}
	null, has := nullsBy(g)[start]
	return impl.CompOut{Comp: impl.Comp{Gram: g, Rules: out.Mades, Has: has, Null: null}}
}

// compText is a text of all that a Comp holds. An empty list and none are the
// same.
func compText(c impl.Comp) string {
	return fmt.Sprintf("%q\n%s%v %v", c.Gram.Rules, allOf(c.Rules), c.Has, c.Null)
}

// outText is a text of all that is answered.
func outText(out impl.CompOut) string {
	return fmt.Sprintf("code %d at %q\n%s", out.Code, out.What, compText(out.Comp))
}

// checkCompiled fails the test if a Gram is not made ready as is wanted.
func checkCompiled(t *testing.T, g impl.Gram, want impl.CompOut) impl.CompOut {
	t.Helper()
	got := impl.Compile(g)
	if outText(got) != outText(want) {
		t.Errorf("Compile of %.600s: got %.900s, want %.900s", impl.GramText(g), outText(got), outText(want))
	}
	return got
}

// Compile.

func TestCompile(t *testing.T) {
	for _, c := range []struct {
		text, rules, null string
	}{
		{"S -> a\n", "S -> a : (0 $0)\n", ""},
		{"E -> E p T\nE -> T\nT -> n\n",
			"E -> n : (1 (2 $0))\nE -> n E+ : <$1 (1 (2 $0))>\nE+ -> p T : (0 [] $0 $1)\nE+ -> p T E+ : <$2 (0 [] $0 $1)>\nT -> n : (2 $0)\n", ""},
		// The start may come to nothing, by a Rule without Body.
		{"S -> ~\n", "", "(0)"},
		{"S -> a\nS -> ~\n", "S -> a : (0 $0)\n", "(1)"},
		{"S -> ~\nS -> a\nS -> ~\n", "S -> a : (1 $0)\n", "(0)"},
		{"S -> S a\nS -> ~\n", "S -> a : (0 (1) $0)\nS -> a S+ : <$1 (0 (1) $0)>\nS+ -> a : (0 [] $0)\nS+ -> a S+ : <$1 (0 [] $0)>\n", "(1)"},
		// By others.
		{"S -> A\nA -> ~\n", "", "(0 (1))"},
		{"S -> A B\nA -> a\nA -> ~\nB -> A\n",
			"S -> A B : (0 $0 $1)\nS -> a : (0 (1 $0) (3 (2)))\nA -> a : (1 $0)\nB -> a : (3 (1 $0))\n", "(0 (2) (3 (2)))"},
		{"S -> b S\nS -> A A\nA -> ~\n", "S -> b S : (0 $0 $1)\nS -> b : (0 $0 (1 (2) (2)))\n", "(1 (2) (2))"},
		// It may not, though another one may.
		{"S -> a A\nA -> ~\n", "S -> a : (0 $0 (1))\n", ""},
		{"S -> A a\nA -> S b\nA -> ~\n",
			"S -> A a : (0 $0 $1)\nS -> a : (0 (2) $0)\nA -> a b : (1 (0 (2) $0) $1)\nA -> a b A+ : <$2 (1 (0 (2) $0) $1)>\nA+ -> a b : (1 (0 [] $0) $1)\nA+ -> a b A+ : <$2 (1 (0 [] $0) $1)>\n", ""},
		{"S -> T\nT -> t\nU -> ~\n", "S -> t : (0 (1 $0))\n", ""},
		// Round by heads that are not the start, and by several.
		{"S -> x A\nA -> B y\nB -> A z\nB -> b\n",
			"S -> x A : (0 $0 $1)\nA -> B y : (1 $0 $1)\n" +
				"B -> b : (3 $0)\nB -> b B+ : <$1 (3 $0)>\nB+ -> y z : (2 (1 [] $0) $1)\nB+ -> y z B+ : <$2 (2 (1 [] $0) $1)>\n", ""},
		// Behind what may be nothing one may stand at one's own left end, too.
		{"S -> A S b\nS -> c\nA -> ~\nA -> a\n",
			"S -> A S b : (0 $0 $1 $2)\nS -> A S b S+ : <$3 (0 $0 $1 $2)>\nS -> c : (1 $0)\nS -> c S+ : <$1 (1 $0)>\n" +
				"S+ -> b : (0 (2) [] $0)\nS+ -> b S+ : <$1 (0 (2) [] $0)>\nA -> a : (3 $0)\n", ""},
		// What is not useful is not asked, but whether it is defined.
		{"S -> a\nT -> T\nU -> U u\n", "S -> a : (0 $0)\n", ""},
		{"S -> U\nS -> a\nU -> U u\n", "S -> a : (1 $0)\n", ""},
		// Each Rule twice.
		{"S -> S a\nS -> S a\nS -> b\nS -> b\n", "S -> b : (2 $0)\nS -> b S+ : <$1 (2 $0)>\nS+ -> a : (0 [] $0)\nS+ -> a S+ : <$1 (0 [] $0)>\n", ""},
	} {
		g := read(t, c.text)
		want := impl.Comp{Gram: g, Rules: mades(c.rules)}
		if c.null != "" {
			want.Has, want.Null = true, term(c.null)
		}
		checkCompiled(t, g, impl.CompOut{Comp: want})
		checkCompiled(t, g, compileBy(g))
	}
}

// checkFault fails the test if a Gram is not refused with that code and What,
// and nothing else.
func checkFault(t *testing.T, what string, g impl.Gram, code int64, at string) {
	t.Helper()
	got := impl.Compile(g)
	same(t, "Code, "+what, got.Code, code)
	same(t, "What, "+what, got.What, at)
	same(t, "all else zero, "+what, reflect.DeepEqual(got, impl.CompOut{What: at, Code: code}), true)
}

// Each fault, and several at once: the first one that is named is told.
func TestCompileFaults(t *testing.T) {
	for text, c := range map[string]struct {
		code int64
		what string
	}{
		// A head that is the Head of none.
		"S -> A\n":                     {impl.ErrNone, "A"},
		"S -> a\nS -> b Q R\nQ -> P\n": {impl.ErrNone, "R"},
		// Also in what is not useful.
		"S -> a\nT -> Q\n":   {impl.ErrNone, "Q"},
		"S -> a\nS -> T Q\n": {impl.ErrNone, "T"},
		// And the start comes to no tokens, or one comes to itself alone, or both.
		"S -> S Q\n":                         {impl.ErrNone, "Q"},
		"S -> S\nT -> Q\n":                   {impl.ErrNone, "Q"},
		"S -> S\nS -> a\nS -> Q\n":           {impl.ErrNone, "Q"},
		"S -> a\nS -> T\nT -> S\nU -> Q U\n": {impl.ErrNone, "Q"},
		// The start comes to no tokens.
		"S -> S a\n":         {impl.ErrRange, "S"},
		"STAR -> STAR\n":     {impl.ErrRange, "STAR"},
		"S -> T\nT -> S t\n": {impl.ErrRange, "S"},
		// And one comes to itself alone.
		"S -> S\n":                         {impl.ErrRange, "S"},
		"S -> T S\nT -> T\nT -> t\n":       {impl.ErrRange, "S"},
		"S -> A\nA -> B\nB -> A\n":         {impl.ErrRange, "S"},
		"S -> S a\nA -> A\nA -> a\n":       {impl.ErrRange, "S"},
		"A -> B\nB -> A\nB -> A B\nC -> ~": {impl.ErrRange, "A"},
		// One comes to itself alone.
		"A -> B\nB -> A\nA -> a\n":                   {impl.ErrState, "A"},
		"S -> x T\nT -> N T N\nT -> t\nN -> ~\n":     {impl.ErrState, "T"},
		"S -> U T\nT -> T\nT -> t\nU -> U\nU -> u\n": {impl.ErrState, "T"},
		// It comes round only by what is not useful: that is no fault.
		"S -> a\nT -> T\nT -> t\n": {impl.OK, ""},
		"S -> a\nS -> S T\nT -> T": {impl.OK, ""},
	} {
		g := read(t, strings.TrimSuffix(text, "\n")+"\n")
		if c.code == impl.OK {
			same(t, "Code of "+text, impl.Compile(g).Code, c.code)
			same(t, "What of "+text, impl.Compile(g).What, c.what)
			continue
		}
		checkFault(t, text, g, c.code, c.what)
	}
}

func TestCompileOfWrongGrams(t *testing.T) {
	for what, g := range wrongGrams() {
		checkFault(t, what, g, impl.ErrForm, "")
	}
	// Whatever else is wrong with it.
	for what, r := range map[string]impl.Rule{
		"a head that is the Head of none": rule("S", "Q"), "no tokens": rule("S", "S", "a"), "a head that comes to itself": rule("S", "S"),
	} {
		checkFault(t, what, gram(r, rule("t", "a")), impl.ErrForm, "")
		checkFault(t, what, gram(rule("S", "a", "1"), r), impl.ErrForm, "")
		checkFault(t, what, gram(slices.Repeat([]impl.Rule{r}, impl.MaxRules+1)...), impl.ErrForm, "")
	}
}

// What is made may be too much. Any other fault is named ahead of that.
func TestCompileOfTooMuch(t *testing.T) {
	for what, c := range map[string]struct {
		g    impl.Gram
		much bool
	}{
		"MaxMades Mades":                  {manySaid(), false},
		"one more":                        {manySaid(rule("S", "q")), true},
		"a Body of 12":                    {read(t, "A -> a a a a a\nB -> A b b b b\nC -> B c c c\nA -> x C\n"), false},
		"a Body of 13":                    {read(t, "A -> a a a a a\nB -> A b b b b\nC -> B c c c c\nA -> x C\n"), true},
		"a Body of 13 with a head with +": {read(t, "A -> a a a a a\nB -> A b b b b\nC -> B c c c\nA -> x C\nC -> C d\n"), true},
		"a Term of MaxTree terms":         {read(t, "S -> a N\n"+nullOf198), false},
		"a Term of one more":              {read(t, "S -> a a N\n"+nullOf198), true},
		"a Term of far more":              {wideNulls(6, 5), true},
		"a Term that no memory holds":     {wideNulls(impl.MaxRules-1, impl.MaxBody), true},
		"more than MaxList of NoEmpty":    {longEmpties(), true},
		"more than MaxList of NoUnit":     {longUnits(t), true},
	} {
		if !c.much {
			same(t, "Code, "+what, checkCompiled(t, c.g, compileBy(c.g)).Code, impl.OK)
			continue
		}
		checkFault(t, what, c.g, impl.ErrFull, "")
		if len(c.g.Rules) == impl.MaxRules {
			c.g.Rules = c.g.Rules[:impl.MaxRules-1]
		}
		start := c.g.Rules[0].Head
		checkFault(t, what+", undefined, too", gram(append(slices.Clone(c.g.Rules), rule("ZZ", "ZZZ"))...), impl.ErrNone, "ZZZ")
		checkFault(t, what+", round, too", gram(append(slices.Clone(c.g.Rules), rule(start, start))...), impl.ErrState, start)
	}
	same(t, "how many", len(impl.Compile(manySaid()).Comp.Rules), impl.MaxMades)
}

// manySaid is a Gram of MaxMades Mades, and some Rules more.
func manySaid(more ...impl.Rule) impl.Gram {
	g := gram(rule("S", "y", "A"), rule("S", "z", "A"), rule("A"), rule("A", "a"), rule("B", "A"), rule("C", "A"), rule("D", "A"))
	for i := range 12 {
		g.Rules = append(g.Rules, rule("S", string([]byte{byte('a' + i)}), "A", "B", "C", "D"))
	}
	return gram(append(g.Rules, more...)...)
}

// nullOf198 is Rules by which N comes to nothing, by a tree of 198 nodes.
const nullOf198 = "N -> H G F E X\nE -> ~\nF -> E E E E E\nG -> F F F F F\nH -> G G G G G\nX -> E E\n"

// unitsText is Rules of a start, with more of them behind it: it comes to a
// line of heads, each of which comes to the next one alone, and the last one to
// many texts.
func unitsText(more string) string {
	return "S -> HA\n" + more + "HA -> HB\nHB -> HC\nHC -> HD\nHD -> HE\nHE -> HF\nHF -> L\n" +
		"A -> ~\nA -> a\nB -> A\nC -> A\nD -> A\n" +
		"L -> p A B C D\nL -> q A B C D\nL -> r A B C D\nL -> s A B C D\nL -> t A B C D\n"
}

// longUnits is a Gram of at most MaxList Mades of NoEmpty, and more of NoUnit.
func longUnits(t *testing.T) impl.Gram {
	g := read(t, unitsText("S -> x HA HB HC HD\n"))
	g.Rules[0].Body = words("HA HB HC HD HE")
	return g
}

// longEmpties is a Gram of more than MaxList Mades of NoEmpty. No head of it
// comes to itself.
func longEmpties() impl.Gram {
	const last = 12
	g := gram(rule(chainHead(0), "A", "B", "C", "D", chainHead(1)))
	for i := range last {
		g.Rules = append(g.Rules, rule(chainHead(i), chainHead(i+1), "A", "B", "C", "D"))
	}
	g.Rules = append(g.Rules, rule(chainHead(last), "A", "B", "C", "D"))
	return gram(append(g.Rules, rule("A"), rule("A", "a"), rule("B", "A"), rule("C", "A"), rule("D", "A"), rule(chainHead(0), "A", chainHead(1), "B", "C", "D"))...)
}

// However many Mades are laid on the way, it is asked alone what is made in the
// end.
func TestCompileByMoreThanMaxList(t *testing.T) {
	// NoEmpty lays so many, and none stays, or one.
	g := emptyGram()
	same(t, "none stays", len(checkCompiled(t, g, compileBy(g)).Comp.Rules), 0)
	same(t, "it may be nothing", impl.Compile(g).Comp.Has, true)
	g.Rules[0].Body[0] = "a"
	same(t, "one stays", impl.MadesText(checkCompiled(t, g, compileBy(g)).Comp.Rules), "S -> a : (0 $0 (16) (17) (18) (19))\n")
	// NoUnit lays so many, and few stay: but for the start and the last heads
	// none is come to any more.
	g = read(t, unitsText(""))
	got := checkCompiled(t, g, compileBy(g))
	same(t, "Code", got.Code, impl.OK)
	same(t, "how many stay", len(got.Comp.Rules), 5*16+4)
	// Too long a list may not be handed in, but here none is: what is told of it
	// is that it is too much.
	g = longEmpties()
	same(t, "more than MaxList of NoEmpty", len(impl.NoEmpty(g)) > impl.MaxList, true)
	same(t, "how many if that were none", len(impl.NoUnit(impl.NoEmpty(g), g.Rules[0].Head)), 0)
	checkFault(t, "more than MaxList of NoEmpty", g, impl.ErrFull, "")
	g = longUnits(t)
	l := impl.NoEmpty(g)
	same(t, "no more of NoEmpty", len(l) <= impl.MaxList, true)
	same(t, "more than MaxList of NoUnit", len(impl.NoUnit(l, "S")) > impl.MaxList, true)
	same(t, "Straight of so many", impl.Straight(impl.NoUnit(l, "S")).Code, impl.ErrSize)
	checkFault(t, "more than MaxList of NoUnit", g, impl.ErrFull, "")
}

// The empty tree is told however large it is.
func TestCompileOfLargeNulls(t *testing.T) {
	for _, c := range []struct{ heads, many int }{{3, 5}, {5, 3}, {5, 5}, {9, 5}, {16, 2}, {18, 1}} {
		// The heads come to nothing alone, so no Made has their Nulls put in.
		g := wideNulls(c.heads, c.many)
		g.Rules[c.heads] = rule(g.Rules[0].Head, "a")
		what := fmt.Sprint(" of ", c.heads, " heads by ", c.many)
		got := impl.Compile(g)
		same(t, "Code"+what, got.Code, impl.OK)
		same(t, "Has"+what, got.Comp.Has, true)
		same(t, "Null"+what, nullIs(got.Comp.Null, 0, c.heads, c.many), true)
		sameMades(t, "Rules"+what, got.Comp.Rules, []impl.Made{{Head: g.Rules[0].Head, Body: words("a"), Term: tmNode(int64(c.heads), tmVar(0))}})
		again := impl.Compile(g)
		same(t, "the same"+what, impl.CompSame(got.Comp, again.Comp), true)
		// The last one of all its terms is another one.
		end := &again.Comp.Null
		for len(end.Kids) > 0 {
			end = &end.Kids[len(end.Kids)-1]
		}
		end.N++
		same(t, "not the same"+what, impl.CompSame(got.Comp, again.Comp), false)
	}
	// In the place of one that no memory holds there is the zero Term.
	g := wideNulls(impl.MaxRules-1, impl.MaxBody)
	g.Rules[impl.MaxRules-1] = rule(g.Rules[0].Head, "a")
	rules := []impl.Made{{Head: g.Rules[0].Head, Body: words("a"), Term: tmNode(impl.MaxRules-1, tmVar(0))}}
	checkCompiled(t, g, impl.CompOut{Comp: impl.Comp{Gram: g, Rules: rules, Has: true}})
}

// CompSame.

// fullComp is a Comp in which all fields hold something, in memory of its own.
func fullComp() impl.Comp {
	return impl.Comp{
		Gram: gram(rule("S", "A", "b"), rule("S"), rule("A", "a", "A")),
		Rules: []impl.Made{
			made("S -> A b : (0 $0 $1)"), made("S -> b : <(1 [] (2 (3) $4)) $1>"), made("A+ -> a A+ : (2 $0 <$1 []>)"),
		},
		Has:  true,
		Null: term("(5 (6) (7 (8) $9))"),
	}
}

// turns is ways to turn one field of a fullComp, by where it is.
func turns() map[string]func(c *impl.Comp) {
	return map[string]func(c *impl.Comp){
		"Has":                          func(c *impl.Comp) { c.Has = false },
		"Null, Kind":                   func(c *impl.Comp) { c.Null.Kind = impl.TmPlug },
		"Null, N":                      func(c *impl.Comp) { c.Null.N = 6 },
		"Null, N below 0":              func(c *impl.Comp) { c.Null.N = math.MinInt64 },
		"Null, N far off":              func(c *impl.Comp) { c.Null.N += 1 << 32 },
		"Null, a Kid less":             func(c *impl.Comp) { c.Null.Kids = c.Null.Kids[:1] },
		"Null, a Kid more":             func(c *impl.Comp) { c.Null.Kids = append(c.Null.Kids, tmBox()) },
		"Null, none":                   func(c *impl.Comp) { c.Null.Kids = nil },
		"Null, the other way round":    func(c *impl.Comp) { slices.Reverse(c.Null.Kids) },
		"Null, deep, Kind":             func(c *impl.Comp) { c.Null.Kids[1].Kids[1].Kind = impl.TmNode },
		"Null, deep, N":                func(c *impl.Comp) { c.Null.Kids[1].Kids[0].N = 9 },
		"Null, deep, a Kid more":       func(c *impl.Comp) { c.Null.Kids[1].Kids[1].Kids = []impl.Term{{}} },
		"Null, deep, a Kid elsewhere":  func(c *impl.Comp) { c.Null = term("(5 (6 (8)) (7 $9))") },
		"Null, zero":                   func(c *impl.Comp) { c.Null = impl.Term{} },
		"Rules, none":                  func(c *impl.Comp) { c.Rules = nil },
		"Rules, one less":              func(c *impl.Comp) { c.Rules = c.Rules[:2] },
		"Rules, one more":              func(c *impl.Comp) { c.Rules = append(c.Rules, impl.Made{}) },
		"Rules, the other way round":   func(c *impl.Comp) { slices.Reverse(c.Rules) },
		"Rules, Head":                  func(c *impl.Comp) { c.Rules[2].Head = "A" },
		"Rules, Head, bytes":           func(c *impl.Comp) { c.Rules[0].Head = "S\xff" },
		"Rules, Body":                  func(c *impl.Comp) { c.Rules[0].Body[1] = "c" },
		"Rules, Body, one less":        func(c *impl.Comp) { c.Rules[0].Body = c.Rules[0].Body[:1] },
		"Rules, Body, one more":        func(c *impl.Comp) { c.Rules[1].Body = words("b b") },
		"Rules, Body, one of nothing":  func(c *impl.Comp) { c.Rules[1].Body = []string{"b", ""} },
		"Rules, Body, none":            func(c *impl.Comp) { c.Rules[1].Body = nil },
		"Rules, Body, cut elsewhere":   func(c *impl.Comp) { c.Rules[2].Body = []string{"aA", "+"} },
		"Rules, Body, not the Head":    func(c *impl.Comp) { c.Rules[2].Head, c.Rules[2].Body[0] = "A", "+a" },
		"Rules, Term, Kind":            func(c *impl.Comp) { c.Rules[0].Term.Kind = 0 },
		"Rules, Term, N":               func(c *impl.Comp) { c.Rules[0].Term.N = -1 },
		"Rules, Term, deep, Kind":      func(c *impl.Comp) { c.Rules[1].Term.Kids[0].Kids[1].Kids[1].Kind = impl.TmBox },
		"Rules, Term, deep, N":         func(c *impl.Comp) { c.Rules[1].Term.Kids[0].Kids[1].Kids[1].N = 5 },
		"Rules, Term, deep, Kids":      func(c *impl.Comp) { c.Rules[1].Term.Kids[0].Kids[1].Kids[0].Kids = []impl.Term{tmBox()} },
		"Rules, the last Term, deep":   func(c *impl.Comp) { c.Rules[2].Term.Kids[1].Kids[1].N = 1 },
		"Rules, two Terms swapped":     func(c *impl.Comp) { c.Rules[0].Term, c.Rules[1].Term = c.Rules[1].Term, c.Rules[0].Term },
		"Rules, a Term and the Null":   func(c *impl.Comp) { c.Rules[0].Term, c.Null = c.Null, c.Rules[0].Term },
		"Rules, Term, zero":            func(c *impl.Comp) { c.Rules[2].Term = impl.Term{} },
		"Gram, none":                   func(c *impl.Comp) { c.Gram = impl.Gram{} },
		"Gram, a Rule less":            func(c *impl.Comp) { c.Gram.Rules = c.Gram.Rules[:2] },
		"Gram, a Rule more":            func(c *impl.Comp) { c.Gram.Rules = append(c.Gram.Rules, impl.Rule{}) },
		"Gram, the other way round":    func(c *impl.Comp) { slices.Reverse(c.Gram.Rules) },
		"Gram, Head":                   func(c *impl.Comp) { c.Gram.Rules[2].Head = "S" },
		"Gram, Body":                   func(c *impl.Comp) { c.Gram.Rules[2].Body[1] = "B" },
		"Gram, Body, one less":         func(c *impl.Comp) { c.Gram.Rules[0].Body = words("A") },
		"Gram, Body, one more":         func(c *impl.Comp) { c.Gram.Rules[1].Body = words("a") },
		"Gram, Body, the other round":  func(c *impl.Comp) { slices.Reverse(c.Gram.Rules[0].Body) },
		"Gram, Body, one of no bytes":  func(c *impl.Comp) { c.Gram.Rules[1].Body = []string{""} },
		"Gram, Body, longer than that": func(c *impl.Comp) { c.Gram.Rules[0].Body = many("b", impl.MaxList+1) },
		"all zero":                     func(c *impl.Comp) { *c = impl.Comp{} },
	}
}

// checkSame fails the test if it is not told of two Comps, either way round,
// whether they are the same.
func checkSame(t *testing.T, what string, a impl.Comp, b impl.Comp, want bool) {
	t.Helper()
	same(t, "CompSame, "+what, impl.CompSame(a, b), want)
	same(t, "CompSame the other way round, "+what, impl.CompSame(b, a), want)
}

func TestCompSame(t *testing.T) {
	checkSame(t, "itself", fullComp(), fullComp(), true)
	checkSame(t, "none", impl.Comp{}, impl.Comp{}, true)
	one := fullComp()
	checkSame(t, "of the same memory", one, one, true)
	for what, turn := range turns() {
		turned, again := fullComp(), fullComp()
		turn(&turned)
		turn(&again)
		checkSame(t, what, fullComp(), turned, false)
		checkSame(t, what+", both", turned, again, true)
		for other, turn := range turns() {
			if other != what {
				two := fullComp()
				turn(&two)
				checkSame(t, what+" and "+other, turned, two, compText(turned) == compText(two))
			}
		}
	}
	for text, other := range map[string]string{"S -> a\n": "S -> b\n", "S -> a\nS -> ~\n": "S -> a\n", "S -> S a\nS -> b\n": "S -> b\nS -> S a\n"} {
		a, b := impl.Compile(read(t, text)).Comp, impl.Compile(read(t, other)).Comp
		checkSame(t, text+" and "+other, a, b, false)
		checkSame(t, text, a, impl.Compile(read(t, text)).Comp, true)
	}
}

// An empty list and none are the same, wherever they stand.
func TestCompSameOfEmptyLists(t *testing.T) {
	none := fullComp()
	none.Gram.Rules[1].Body, none.Rules[0].Body = nil, nil
	empty := fullComp()
	empty.Gram.Rules[1].Body, empty.Rules[0].Body = []string{}, make([]string, 0, 5)
	empty.Null.Kids[0].Kids = []impl.Term{}
	empty.Rules[0].Term.Kids[1].Kids = make([]impl.Term, 0, 3)
	empty.Rules[1].Term.Kids[0].Kids[0].Kids = []impl.Term{}
	checkSame(t, "within", none, empty, true)
	checkSame(t, "all", impl.Comp{}, impl.Comp{Gram: impl.Gram{Rules: []impl.Rule{}}, Rules: []impl.Made{}, Null: impl.Term{Kids: []impl.Term{}}}, true)
	checkSame(t, "one of nothing", impl.Comp{}, impl.Comp{Gram: impl.Gram{Rules: []impl.Rule{{}}}}, false)
	checkSame(t, "a Made of nothing", impl.Comp{}, impl.Comp{Rules: []impl.Made{{}}}, false)
	checkSame(t, "a term of nothing", impl.Comp{}, impl.Comp{Null: impl.Term{Kids: []impl.Term{{}}}}, false)
}

// Each call answers, whatever Comps are handed in: with more Rules than may be,
// and with Terms that are very deep, share memory, or have no end.
func TestCompSameOfWhateverComps(t *testing.T) {
	defer debug.SetMaxStack(debug.SetMaxStack(4 << 20))
	long := func(n int) impl.Comp {
		return impl.Comp{Gram: gram(slices.Repeat([]impl.Rule{rule("S", many("a", n)...)}, n)...), Rules: manyMades(n)}
	}
	checkSame(t, "long lists", long(impl.MaxList+1), long(impl.MaxList+1), true)
	checkSame(t, "one longer", long(impl.MaxList+1), long(impl.MaxList+2), false)
	bytes := strings.Repeat("a", impl.MaxBytes)
	checkSame(t, "long texts", impl.Comp{Gram: gram(rule(bytes + "a"))}, impl.Comp{Gram: gram(rule(bytes + "a"))}, true)
	checkSame(t, "other long texts", impl.Comp{Gram: gram(rule(bytes + "a"))}, impl.Comp{Gram: gram(rule(bytes + "b"))}, false)
	// Terms that come round after as many steps.
	ring := func(steps int, last int64) impl.Term {
		lists := make([][1]impl.Term, steps)
		for i := range lists {
			lists[i][0] = impl.Term{Kind: impl.TmNode, Kids: lists[(i+1)%steps][:]}
		}
		lists[steps-1][0].N = last
		return lists[0][0]
	}
	endless := func(numbers ...int64) impl.Term {
		kids := make([]impl.Term, len(numbers))
		for i, n := range numbers {
			kids[i] = tmNode(n)
		}
		kids[len(kids)-1].Kids = kids
		return tmNode(0, kids...)
	}
	const deep, far = 300000, 30000
	for what, c := range map[string]struct {
		a, b impl.Term
		want bool
	}{
		"deep":                 {deepTerm(deep, inNode, tmVar(0)), deepTerm(deep, inNode, tmVar(0)), true},
		"deep, and another":    {deepTerm(deep, inNode, tmVar(0)), deepTerm(deep, inNode, tmVar(1)), false},
		"deep, and deeper":     {deepTerm(deep, inNode, tmVar(0)), deepTerm(deep+1, inNode, tmVar(0)), false},
		"doubled":              {doubledTerm(300), doubledTerm(300), true},
		"doubled, and more":    {doubledTerm(300), doubledTerm(301), false},
		"without end":          {endless(0), endless(0), true},
		"without end, turned":  {endless(0), endless(1), false},
		"without end, of two":  {endless(1, 0), endless(1, 0), true},
		"of two, turned":       {endless(1, 0), endless(2, 0), false},
		"without end, a step":  {endless(0), endless(0).Kids[0], true},
		"without end, and one": {endless(0), deepTerm(50, inNode, tmNode(0)), false},
		"rings":                {ring(far, 0), ring(far-1, 0), true},
		"rings, one turned":    {ring(far, 1), ring(far-1, 0), false},
		"rings, both turned":   {ring(far, 1), ring(far-1, 1), false},
		"rings, one in two":    {ring(far, 1), ring(far, 1), true},
		"rings, small":         {ring(3, 1), ring(6, 1), false},
	} {
		checkSame(t, "Null, "+what, impl.Comp{Null: c.a}, impl.Comp{Null: c.b}, c.want)
		a, b := fullComp(), fullComp()
		a.Rules[1].Term.Kids[0], b.Rules[1].Term.Kids[0] = c.a, c.b
		checkSame(t, "Rules, "+what, a, b, c.want)
		a.Null, b.Null = c.a, c.a
		checkSame(t, "Rules and Null, "+what, a, b, c.want)
	}
}

// turnComp is a Comp with something in it turned, or not.
func turnComp(r *rand.Rand, c impl.Comp) impl.Comp {
	c.Gram, c.Null = copyGram(c.Gram), copyTerm(c.Null)
	c.Rules = slices.Clone(c.Rules)
	for i := range c.Rules {
		c.Rules[i].Body, c.Rules[i].Term = slices.Clone(c.Rules[i].Body), copyTerm(c.Rules[i].Term)
	}
	if len(c.Rules) == 0 || len(c.Gram.Rules) == 0 {
		return c
	}
	i, k := r.Intn(len(c.Rules)), r.Intn(len(c.Gram.Rules))
	switch r.Intn(9) {
	case 0:
		c.Rules[i].Term = turnTerm(r, c.Rules[i].Term)
	case 1:
		c.Null = turnTerm(r, c.Null)
	case 2:
		c.Rules[i].Body = append(c.Rules[i].Body, words("a A")[:r.Intn(3)]...)
	case 3:
		c.Rules[i].Head = words("S A S+ B")[r.Intn(4)]
	case 4:
		c.Gram.Rules[k].Body = c.Gram.Rules[k].Body[:r.Intn(len(c.Gram.Rules[k].Body)+1)]
	case 5:
		c.Gram.Rules[k].Head = words("S A B C")[r.Intn(4)]
	case 6:
		c.Rules[0], c.Rules[i] = c.Rules[i], c.Rules[0]
	case 7:
		c.Has = r.Intn(2) == 0
	}
	return c
}

// Promise 9, and the chapter.

// compGram is a right Gram of which often something stands at its own left end.
func compGram(t *testing.T, r *rand.Rand) impl.Gram {
	switch r.Intn(8) {
	case 0:
		return someGram(r)
	case 1, 2:
		return read(t, roundGrams[r.Intn(len(roundGrams))])
	case 3, 4:
		return madeGram(r)
	}
	symbols := words("S A B a b c")
	var g impl.Gram
	for _, head := range words("S A B") {
		for range 1 + r.Intn(3) {
			one := rule(head)
			for i := range []int{1, 2, 2, 2, 3, 3, 4, 5}[r.Intn(8)] {
				k := 3 + r.Intn(3)
				if r.Intn(3) < 2-min(i, 1) {
					k = r.Intn(len(symbols))
				}
				one.Body = append(one.Body, symbols[k])
			}
			g.Rules = append(g.Rules, one)
		}
		if r.Intn(6) == 0 {
			g.Rules = append(g.Rules, rule(head))
		}
	}
	r.Shuffle(len(g.Rules), func(i, k int) { g.Rules[i], g.Rules[k] = g.Rules[k], g.Rules[i] })
	return g
}

// checkReady fails the test if a Comp does not hold what is promised of it. It
// tells whether a tree was met with that it tells.
func checkReady(t *testing.T, r *rand.Rand, g impl.Gram, c impl.Comp) bool {
	t.Helper()
	text, start := impl.GramText(g), g.Rules[0].Head
	same(t, "promise 9, "+text, impl.LeftFree(c.Rules), true)
	same(t, "promise 9, plainly, "+text, leftFreeBy(c.Rules), true)
	checkPlain(t, "Rules of "+text, c.Rules, false)
	same(t, "Gram of "+text, impl.GramText(c.Gram), text)
	same(t, "Has of "+text, c.Has, impl.Derives(g, nil))
	for _, x := range impl.Nulls(g) {
		if x.Head == start {
			sameTerm(t, "Null of "+text, c.Null, x.Term)
		}
	}
	if c.Has && impl.TermRight(c.Null) {
		same(t, "Null says nothing, "+text, impl.Says(g, nil, impl.Build(c.Null, nil)), true)
	}
	if !c.Has {
		sameTerm(t, "no Null of "+text, c.Null, impl.Term{})
	}
	return checkGrown(t, r, g, c.Rules)
}

func TestWhatIsMadeReady(t *testing.T) {
	r := rand.New(rand.NewSource(31))
	count := map[string]int{}
	for range 8000 {
		if t.Failed() {
			return
		}
		g := compGram(t, r)
		text := impl.GramText(g)
		got := checkCompiled(t, g, compileBy(g))
		count[fmt.Sprint("code ", got.Code)]++
		if got.Code != impl.OK {
			same(t, "zero, "+text, reflect.DeepEqual(got, impl.CompOut{What: got.What, Code: got.Code}), true)
			continue
		}
		count[fmt.Sprint("has ", got.Comp.Has)]++
		count[fmt.Sprint("free ", impl.LeftFree(impl.Given(g)))]++
		if checkReady(t, r, g, got.Comp) {
			count["told"]++
		}
		if w := saidText(r, g, 5); len(w) > 0 && len(got.Comp.Rules) < 60 {
			said := impl.Derives(g, w)
			same(t, fmt.Sprint("the Rules say ", w, " as ", text), saysBy(got.Comp.Rules, g.Rules[0].Head, w), said)
			count[fmt.Sprint("said ", said)]++
		}
		turned := turnComp(r, got.Comp)
		alike := compText(turned) == compText(got.Comp)
		checkSame(t, "turned, "+text, got.Comp, turned, alike)
		count[fmt.Sprint("same ", alike)]++
	}
	enough(t, count, map[string]int{
		"code 0": 2000, "code 6": 300, "code 8": 100, "code 10": 300, "code 9": 30, "has true": 300, "has false": 500,
		"free true": 300, "free false": 500, "told": 300, "said true": 200, "said false": 200, "same true": 200, "same false": 500,
	})
}

// Chapter 1.

// gramWithRoom is a Gram with room behind each of its lists, in which something
// stands.
func gramWithRoom(g impl.Gram) impl.Gram {
	rules := append(make([]impl.Rule, 0, len(g.Rules)+2), g.Rules...)
	for i, one := range rules {
		rules[i].Body = append(append(make([]string, 0, len(one.Body)+2), one.Body...), "behind", "all")[:len(one.Body)]
	}
	return impl.Gram{Rules: append(rules, rule("BEHI", "nd"))[:len(rules)]}
}

// wholeGram is a text of all in a Gram, and of what stands in the room behind.
func wholeGram(g impl.Gram) string {
	var out strings.Builder
	for _, one := range g.Rules[:cap(g.Rules)] {
		fmt.Fprintf(&out, "%q %d %q\n", one.Head, len(one.Body), one.Body[:cap(one.Body)])
	}
	return out.String()
}

// meetComp tells whether no place of a list of a Comp was met with before, and
// spoils the Comp.
func meetComp(m memory, rules map[*impl.Rule]bool, c impl.Comp) bool {
	out := m.meet(nil, c.Null)
	for i := range c.Gram.Rules[:cap(c.Gram.Rules)] {
		place := &c.Gram.Rules[:cap(c.Gram.Rules)][i]
		out = out && !rules[place]
		rules[place] = true
		out = m.meet(place.Body, impl.Term{}) && out
	}
	out = m.meetMades(c.Rules, true) && out
	spoilTerm(&c.Null)
	for i := range c.Gram.Rules {
		spoil(c.Gram.Rules[i].Body)
		c.Gram.Rules[i].Head = "spoilt"
	}
	return out
}

// What is handed in stays as it was, the room behind it too; no two lists of
// an answer share memory, nor do they with what was handed in or with another
// answer, and the next answer is the same.
func TestGramsStayAsTheyWereCompiled(t *testing.T) {
	r := rand.New(rand.NewSource(32))
	ready := 0
	for range 3000 {
		if t.Failed() {
			return
		}
		g := compGram(t, r)
		// What is handed in may share lists.
		if len(g.Rules) > 1 {
			g.Rules[0].Body = g.Rules[1].Body
		}
		g = gramWithRoom(g)
		was := wholeGram(g)
		met, rules := newMemory(), map[*impl.Rule]bool{}
		for i := range g.Rules {
			rules[&g.Rules[i]] = true
			met.meet(g.Rules[i].Body, impl.Term{})
		}
		first, second := impl.Compile(g), impl.Compile(g)
		text := outText(first)
		same(t, "asked twice", outText(second), text)
		same(t, "memory of the answer to "+was, meetComp(met, rules, first.Comp), true)
		same(t, "memory of the next answer to "+was, meetComp(met, rules, second.Comp), true)
		same(t, "changed", wholeGram(g), was)
		same(t, "asked again", outText(impl.Compile(g)), text)
		if first.Code == impl.OK {
			ready++
		}
	}
	if ready < 500 {
		t.Errorf("%d were made ready: too few", ready)
	}
}

func TestCompsStayAsTheyWere(t *testing.T) {
	whole := func(c impl.Comp) string {
		return wholeGram(c.Gram) + wholeMades(c.Rules) + fmt.Sprint(c.Has) + wholeTerm(c.Null)
	}
	withRoom := func(c impl.Comp) impl.Comp {
		return impl.Comp{Gram: gramWithRoom(c.Gram), Rules: madesWithRoom(c.Rules), Has: c.Has, Null: termWithRoom(c.Null)}
	}
	for what, turn := range turns() {
		b := fullComp()
		turn(&b)
		a, b := withRoom(fullComp()), withRoom(b)
		wasA, wasB := whole(a), whole(b)
		checkSame(t, what, a, b, false)
		checkSame(t, what+", itself", b, b, true)
		same(t, "changed, "+what, whole(a)+whole(b), wasA+wasB)
	}
}
