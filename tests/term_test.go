package tests

import (
	"fmt"
	"math"
	"math/rand"
	"reflect"
	"runtime/debug"
	"slices"
	"strconv"
	"strings"
	"testing"

	"loop.example/g00828/impl"
)

// mostDeep is how deep a right term may be.
const mostDeep = 30

func tmNode(n int64, kids ...impl.Term) impl.Term {
	return impl.Term{Kind: impl.TmNode, N: n, Kids: kids}
}

func tmVar(n int64) impl.Term {
	return impl.Term{Kind: impl.TmVar, N: n}
}

func tmBox() impl.Term {
	return impl.Term{Kind: impl.TmBox}
}

func tmPlug(kids ...impl.Term) impl.Term {
	return impl.Term{Kind: impl.TmPlug, Kids: kids}
}

// box is the tree of a box.
func box() impl.Tree {
	return node(-2)
}

// term is the term of a text as TermText gives it.
func term(text string) impl.Term {
	for _, mark := range []string{"(", ")", "<", ">"} {
		text = strings.ReplaceAll(text, mark, " "+mark+" ")
	}
	out, _ := readTerm(strings.Fields(text))
	return out
}

// readTerm is the term at the beginning of some words, and what is left.
func readTerm(l []string) (impl.Term, []string) {
	number := func(digits string) int64 {
		n, err := strconv.ParseInt(digits, 10, 64)
		if err != nil {
			panic(err)
		}
		return n
	}
	switch l[0] {
	case "[]":
		return tmBox(), l[1:]
	case "(":
		return readTermKids(tmNode(number(l[1])), l[2:])
	case "<":
		return readTermKids(tmPlug(), l[1:])
	}
	return tmVar(number(l[0][1:])), l[1:]
}

func readTermKids(out impl.Term, l []string) (impl.Term, []string) {
	for l[0] != ")" && l[0] != ">" {
		var kid impl.Term
		kid, l = readTerm(l)
		out.Kids = append(out.Kids, kid)
	}
	return out, l[1:]
}

// trees is a list of trees, with a comma between the texts of which each is
// the tree.
func trees(text string) []impl.Tree {
	var out []impl.Tree
	for _, one := range strings.Split(text, ",") {
		if one != "" {
			out = append(out, tree(strings.ReplaceAll(strings.ReplaceAll(one, "(", "( "), ")", " )")))
		}
	}
	return out
}

// copyTerm is a term in memory of its own.
func copyTerm(x impl.Term) impl.Term {
	x.Kids = slices.Clone(x.Kids)
	for i := range x.Kids {
		x.Kids[i] = copyTerm(x.Kids[i])
	}
	return x
}

// deepTerm is a term of that many others, one below the other, with one at
// the end.
func deepTerm(n int, around func(impl.Term) impl.Term, end impl.Term) impl.Term {
	for range n {
		end = around(end)
	}
	return end
}

func inNode(x impl.Term) impl.Term       { return tmNode(0, x) }
func inNodeFirst(x impl.Term) impl.Term  { return tmNode(3, x, tmVar(1)) }
func inNodeLast(x impl.Term) impl.Term   { return tmNode(3, tmBox(), tmVar(1), x) }
func inPlugFirst(x impl.Term) impl.Term  { return tmPlug(x, tmVar(0)) }
func inPlugSecond(x impl.Term) impl.Term { return tmPlug(tmBox(), x) }

// wideTerm is a TmNode with that many of a term.
func wideTerm(n int, kid impl.Term) impl.Term {
	return tmNode(7, slices.Repeat([]impl.Term{kid}, n)...)
}

// What chapter 7 says, read plainly.

func termSizeBy(x impl.Term) int {
	out := 1
	for _, kid := range x.Kids {
		out += termSizeBy(kid)
	}
	return out
}

func termDeepBy(x impl.Term) int {
	out := 0
	for _, kid := range x.Kids {
		out = max(out, termDeepBy(kid))
	}
	return out + 1
}

func termSuchBy(x impl.Term) bool {
	for _, kid := range x.Kids {
		if !termSuchBy(kid) {
			return false
		}
	}
	switch x.Kind {
	case impl.TmNode:
		return x.N >= 0
	case impl.TmVar:
		return x.N >= 0 && len(x.Kids) == 0
	case impl.TmBox:
		return x.N == 0 && len(x.Kids) == 0
	case impl.TmPlug:
		return x.N == 0 && len(x.Kids) == 2
	}
	return false
}

func termRightBy(x impl.Term) bool {
	return termSuchBy(x) && termDeepBy(x) <= mostDeep && termSizeBy(x) <= impl.MaxTree
}

func termTextBy(x impl.Term) string {
	var kids []string
	for _, kid := range x.Kids {
		kids = append(kids, termTextBy(kid))
	}
	switch x.Kind {
	case impl.TmNode:
		return "(" + strings.Join(append([]string{fmt.Sprint(x.N)}, kids...), " ") + ")"
	case impl.TmVar:
		return fmt.Sprint("$", x.N)
	case impl.TmBox:
		return "[]"
	}
	return "<" + strings.Join(kids, " ") + ">"
}

// filledBy is a tree with another in the place of each of its boxes, and how
// many these are.
func filledBy(x impl.Tree, fill impl.Tree) (impl.Tree, int) {
	if x.Rule == -2 && x.Tok == "" && len(x.Kids) == 0 {
		return copyTree(fill), 1
	}
	count := 0
	x.Kids = slices.Clone(x.Kids)
	for i := range x.Kids {
		var n int
		x.Kids[i], n = filledBy(x.Kids[i], fill)
		count += n
	}
	return x, count
}

func buildBy(x impl.Term, l []impl.Tree) impl.Tree {
	switch x.Kind {
	case impl.TmNode:
		out := node(x.N)
		for _, kid := range x.Kids {
			out.Kids = append(out.Kids, buildBy(kid, l))
		}
		return out
	case impl.TmVar:
		if x.N < int64(len(l)) {
			return copyTree(l[x.N])
		}
		return impl.Tree{}
	case impl.TmBox:
		return box()
	}
	out, _ := filledBy(buildBy(x.Kids[0], l), buildBy(x.Kids[1], l))
	return out
}

func movedBy(x impl.Term, at int64) impl.Term {
	x = copyTerm(x)
	if x.Kind == impl.TmVar {
		x.N += at
	}
	for i := range x.Kids {
		x.Kids[i] = movedBy(x.Kids[i], at)
	}
	return x
}

func putInBy(x impl.Term, at int64, in impl.Term, many int64) impl.Term {
	x = copyTerm(x)
	if x.Kind == impl.TmVar && x.N == at {
		return movedBy(in, at)
	}
	if x.Kind == impl.TmVar && x.N > at {
		x.N += many - 1
	}
	for i := range x.Kids {
		x.Kids[i] = putInBy(x.Kids[i], at, in, many)
	}
	return x
}

// sameTree fails the test if a tree is another one than is wanted.
func sameTree(t *testing.T, what string, got impl.Tree, want impl.Tree) {
	t.Helper()
	if !impl.TreeSame(got, want) {
		t.Errorf("%.300s: got %.300s, want %.300s", what, allBy(got), allBy(want))
	}
}

// sameTerm fails the test if a term is another one than is wanted. An empty
// list and none are the same.
func sameTerm(t *testing.T, what string, got impl.Term, want impl.Term) {
	t.Helper()
	if g, w := fmt.Sprintf("%+v", got), fmt.Sprintf("%+v", want); g != w {
		t.Errorf("%.300s: got %.300s, want %.300s", what, g, w)
	}
}

// wrongTerms holds terms that are not right, by what is wrong with them; none
// is too deep or too large.
func wrongTerms() map[string]impl.Term {
	out := map[string]impl.Term{
		"the zero Term":         {},
		"a list without Kind":   {Kids: []impl.Term{tmBox()}},
		"a TmNode below 0":      tmNode(-1),
		"a TmNode of -2":        tmNode(-2, tmBox()),
		"a TmNode far below 0":  tmNode(math.MinInt64, tmVar(0)),
		"a TmVar below 0":       tmVar(-1),
		"a TmVar far below 0":   tmVar(math.MinInt64),
		"a TmVar with a Kid":    {Kind: impl.TmVar, Kids: []impl.Term{tmVar(0)}},
		"a TmVar with two":      {Kind: impl.TmVar, N: 1, Kids: []impl.Term{tmVar(0), tmBox()}},
		"a TmBox with a Kid":    {Kind: impl.TmBox, Kids: []impl.Term{tmBox()}},
		"a TmBox with two":      {Kind: impl.TmBox, Kids: []impl.Term{tmBox(), tmVar(0)}},
		"a TmBox of 1":          {Kind: impl.TmBox, N: 1},
		"a TmBox of -1":         {Kind: impl.TmBox, N: -1},
		"a TmBox of the most":   {Kind: impl.TmBox, N: math.MaxInt64},
		"a TmPlug without Kids": tmPlug(),
		"a TmPlug of one":       tmPlug(tmBox()),
		"a TmPlug of three":     tmPlug(tmBox(), tmBox(), tmBox()),
		"a TmPlug of N 1":       {Kind: impl.TmPlug, N: 1, Kids: []impl.Term{tmBox(), tmVar(0)}},
		"a TmPlug of N -1":      {Kind: impl.TmPlug, N: -1, Kids: []impl.Term{tmBox(), tmVar(0)}},
		"a wrong first Kid":     tmPlug(tmVar(-1), tmVar(0)),
		"a wrong second Kid":    tmPlug(tmVar(0), tmVar(-1)),
		"a first Kid of zero":   tmPlug(impl.Term{}, tmVar(0)),
		"a second Kid of zero":  tmPlug(tmBox(), impl.Term{}),
	}
	for _, kind := range []int64{-1, 0, 5, 6, 257, 1<<32 + 1, math.MaxInt64, math.MinInt64} {
		out[fmt.Sprint("Kind ", kind)] = impl.Term{Kind: kind}
		out[fmt.Sprint("Kind ", kind, " of N 1")] = impl.Term{Kind: kind, N: 1}
		out[fmt.Sprint("Kind ", kind, " with two")] = impl.Term{Kind: kind, Kids: []impl.Term{tmBox(), tmBox()}}
	}
	return out
}

// hugeTerms holds terms that are such, but too deep or too large.
func hugeTerms() map[string]impl.Term {
	out := map[string]impl.Term{
		"wide":               wideTerm(impl.MaxTree, tmBox()),
		"wide, of variables": wideTerm(impl.MaxTree, tmVar(0)),
		"wider":              wideTerm(impl.MaxList+1, tmVar(0)),
		"a million":          wideTerm(1000000, tmVar(0)),
		"nodes of two":       tmNode(0, wideTerm(98, tmVar(0)), wideTerm(100, tmVar(0))),
		"a plug of two":      tmPlug(wideTerm(99, tmBox()), wideTerm(99, tmVar(0))),
	}
	for what, around := range arounds() {
		out["deep, "+what] = deepTerm(mostDeep, around, tmVar(0))
		out["deep, with a box, "+what] = deepTerm(mostDeep, around, tmBox())
		out["deeper, "+what] = deepTerm(mostDeep+1, around, tmNode(0))
	}
	return out
}

func arounds() map[string]func(impl.Term) impl.Term {
	return map[string]func(impl.Term) impl.Term{
		"in nodes": inNode, "in nodes, first": inNodeFirst, "in nodes, last": inNodeLast,
		"in plugs, first": inPlugFirst, "in plugs, second": inPlugSecond,
	}
}

// Promise 7.

func TestTermText(t *testing.T) {
	for _, text := range []string{
		"$0", "$1", "$10", "$399", "$400", "$1000000", "$9223372036854775807",
		"[]",
		"(0)", "(1)", "(19)", "(20)", "(9223372036854775807)",
		"(0 $0)", "(0 [])", "(0 (1))", "(1 $0 $1 $2)", "(1 $2 $2 [] (3))",
		"<[] []>", "<[] $0>", "<$0 []>", "<$1 $0>", "<(0) (1)>", "<(5 [] $0) $1>",
		"<<[] $0> $1>", "<[] <$0 $1>>", "<<$0 $1> <$2 $3>>",
		"(0 <(1 []) (2 $0)> [] (3 (4 (5 $1))))",
	} {
		x := term(text)
		same(t, "TermRight "+text, impl.TermRight(x), true)
		same(t, "TermText", impl.TermText(x), text)
	}
	same(t, "TermText with an empty list", impl.TermText(impl.Term{Kind: impl.TmVar, Kids: []impl.Term{}}), "$0")
}

func TestTermsThatAreNotRight(t *testing.T) {
	places := arounds()
	places["alone"] = func(x impl.Term) impl.Term { return x }
	places["deep in it"] = func(x impl.Term) impl.Term { return deepTerm(mostDeep-2, inNodeLast, x) }
	places["after many"] = func(x impl.Term) impl.Term {
		many := wideTerm(100, tmVar(0))
		many.Kids = append(many.Kids, x)
		return many
	}
	for what, wrong := range wrongTerms() {
		for where, place := range places {
			checkTermRefused(t, what+", "+where, place(wrong))
		}
	}
	for what, huge := range hugeTerms() {
		checkTermRefused(t, what, huge)
	}
}

// checkTermRefused fails the test if something is made of a term that is not
// right.
func checkTermRefused(t *testing.T, what string, wrong impl.Term) {
	t.Helper()
	l := trees("a,b,(0 c)")
	same(t, "TermRight, "+what, impl.TermRight(wrong), false)
	same(t, "TermText, "+what, impl.TermText(wrong), "")
	sameTree(t, "Build, "+what, impl.Build(wrong, l), impl.Tree{})
	sameTerm(t, "PutIn, t is "+what, impl.PutIn(wrong, 0, tmVar(0), 1), impl.Term{})
	sameTerm(t, "PutIn, x is "+what, impl.PutIn(tmVar(0), 0, wrong, 1), impl.Term{})
	sameTerm(t, "PutIn, x has no place and is "+what, impl.PutIn(tmVar(1), 0, wrong, 1), impl.Term{})
}

// Terms as deep as may be, and one deeper.
func TestTermsOfMostDepth(t *testing.T) {
	for what, around := range arounds() {
		for _, end := range []impl.Term{tmVar(0), tmBox(), tmNode(4)} {
			for _, deep := range []int{1, 2, mostDeep - 1, mostDeep, mostDeep + 1, mostDeep + 2, 2 * mostDeep} {
				x := deepTerm(deep-1, around, end)
				what := fmt.Sprint(what, ", ", deep, " deep, with ", end.Kind)
				same(t, "termDeepBy, "+what, termDeepBy(x), deep)
				checkTerm(t, what, x, deep <= mostDeep)
			}
		}
	}
	for _, deep := range []int{mostDeep, mostDeep + 1} {
		// The deepest stands amid others.
		for what, x := range map[string]impl.Term{
			"to the right": tmNode(0, tmVar(0), deepTerm(deep-2, inNode, tmVar(0))),
			"to the left":  tmNode(0, deepTerm(deep-2, inNode, tmVar(0)), tmVar(0)),
			"amid":         tmPlug(tmNode(0, tmBox(), deepTerm(deep-3, inNode, tmBox()), tmBox()), tmNode(1)),
		} {
			what = fmt.Sprint(what, ", ", deep, " deep")
			same(t, "termDeepBy, "+what, termDeepBy(x), deep)
			checkTerm(t, what, x, deep <= mostDeep)
		}
	}
}

// Terms of MaxTree terms, and of one more.
func TestTermsOfMostTerms(t *testing.T) {
	for _, n := range []int{impl.MaxTree - 1, impl.MaxTree, impl.MaxTree + 1, impl.MaxTree + 2} {
		shapes := map[string]impl.Term{
			"variables":        wideTerm(n-1, tmVar(1)),
			"boxes":            wideTerm(n-1, tmBox()),
			"nodes":            wideTerm(n-1, tmNode(2)),
			"plug, first":      tmPlug(wideTerm(n-3, tmBox()), tmVar(0)),
			"plug, second":     tmPlug(tmBox(), wideTerm(n-3, tmVar(0))),
			"two":              tmNode(1, wideTerm(n/2-2, tmVar(0)), wideTerm(n-n/2-1, tmVar(1))),
			"deep, then wide":  deepTerm(mostDeep-2, inNode, wideTerm(n-mostDeep+1, tmVar(0))),
			"deep, with sides": tmNode(0, deepTerm(20, inNodeLast, tmNode(1)), wideTerm(n-63, tmVar(0))),
		}
		for what, x := range shapes {
			what = fmt.Sprint(what, " of ", n)
			same(t, "termSizeBy, "+what, termSizeBy(x), n)
			checkTerm(t, what, x, n <= impl.MaxTree)
		}
	}
}

// checkTerm fails the test if what is told of a term is not what the chapter
// says.
func checkTerm(t *testing.T, what string, x impl.Term, right bool) {
	t.Helper()
	l := trees("a,(1 b (-2)),(-2)")
	same(t, "TermRight, "+what, impl.TermRight(x), right)
	if !right {
		checkTermRefused(t, what, x)
		return
	}
	same(t, "TermText, "+what, impl.TermText(x), termTextBy(x))
	sameTree(t, "Build, "+what, impl.Build(x, l), buildBy(x, l))
	sameTerm(t, "PutIn, "+what, impl.PutIn(x, 1, tmNode(3, tmVar(0), tmVar(1)), 2), putInBy(x, 1, tmNode(3, tmVar(0), tmVar(1)), 2))
	sameTerm(t, "PutIn a variable, "+what, impl.PutIn(tmVar(0), 0, x, 1), x)
}

func TestBuild(t *testing.T) {
	cases := []struct {
		term  string
		trees string
		want  string
	}{
		{"$0", "a", "a"},
		{"$1", "a,b", "b"},
		{"$0", "(0 a (1) b)", "(0 a (1) b)"},
		{"(0)", "", "(0)"},
		{"(7)", "a", "(7)"},
		{"(7 $0)", "a", "(7 a)"},
		{"(0 $1 $0 $1)", "a,(3 b)", "(0 (3 b) a (3 b))"},
		{"(0 (1 $0) (2 (3)))", "a", "(0 (1 a) (2 (3)))"},
		// A tree that there is not.
		{"$0", "", "(0)"},
		{"$1", "a", "(0)"},
		{"$7", "a,b", "(0)"},
		{"$9223372036854775807", "a", "(0)"},
		{"$4294967296", "a", "(0)"},
		{"(1 $0 $1 $2)", "a,b", "(1 a b (0))"},
		{"<$5 $0>", "a", "(0)"},
		{"<[] $5>", "a", "(0)"},
		// Boxes.
		{"[]", "", "(-2)"},
		{"[]", "a", "(-2)"},
		{"(5 [])", "", "(5 (-2))"},
		{"(5 [] $0 [])", "a", "(5 (-2) a (-2))"},
		{"$0", "(-2)", "(-2)"},
		{"(1 $0 [])", "(2 (-2))", "(1 (2 (-2)) (-2))"},
		// No box is filled.
		{"<$0 $1>", "a,b", "a"},
		{"<(5) $0>", "a", "(5)"},
		{"<(5 $1 (6)) $0>", "a,b", "(5 b (6))"},
		// One box.
		{"<[] $0>", "a", "a"},
		{"<[] (5)>", "", "(5)"},
		{"<(5 []) $0>", "a", "(5 a)"},
		{"<(5 [] $0) $1>", "a,b", "(5 b a)"},
		{"<(5 (6 $0 (7 []))) $1>", "a,(8 b)", "(5 (6 a (7 (8 b))))"},
		// Several.
		{"<(5 [] []) $0>", "a", "(5 a a)"},
		{"<(5 [] (6 [] $0) []) (7 $1)>", "a,b", "(5 (7 b) (6 (7 b) a) (7 b))"},
		// Boxes of the trees.
		{"<$0 $1>", "(-2),a", "a"},
		{"<$0 $1>", "(5 (-2) b (6 (-2))),a", "(5 a b (6 a))"},
		{"<(4 $0 [] $0) $1>", "(5 (-2)),a", "(4 (5 a) a (5 a))"},
		{"(4 <$0 $1> $0 <$0 $2>)", "(5 (-2)),a,b", "(4 (5 a) (5 (-2)) (5 b))"},
		{"<[] $0>", "(5 (-2))", "(5 (-2))"},
		// No boxes: another Rule, or Kids.
		{"<$0 $1>", "(5 (-1) (-3) (0) (-2 b)),a", "(5 (-1) (-3) (0) (-2 b))"},
		{"<$0 $1>", "(-2 (-2)),a", "(-2 a)"},
		// The second Kid tells a box itself.
		{"<[] []>", "", "(-2)"},
		{"<(5 []) []>", "", "(5 (-2))"},
		{"<(5 [] $0 []) []>", "a", "(5 (-2) a (-2))"},
		{"<(5 []) (6 [])>", "", "(5 (6 (-2)))"},
		{"<(5 [] []) (6 [] [])>", "", "(5 (6 (-2) (-2)) (6 (-2) (-2)))"},
		{"<$0 $0>", "(5 (-2))", "(5 (5 (-2)))"},
		{"<(5) []>", "", "(5)"},
		// A TmPlug in a TmPlug.
		{"<<(5 []) (6 [])> $0>", "a", "(5 (6 a))"},
		{"<(5 []) <(6 []) $0>>", "a", "(5 (6 a))"},
		{"<(5 [] <(6 []) $0> []) $1>", "a,b", "(5 b (6 a) b)"},
		{"<<(5 [] []) (6 [])> $0>", "a", "(5 (6 a) (6 a))"},
		{"<<(5 []) $0> $1>", "a,b", "(5 a)"},
		{"<(5 []) <(6) $0>>", "a", "(5 (6))"},
		{"<<[] []> $0>", "a", "a"},
		{"<[] <[] $0>>", "a", "a"},
		{"<<[] []> <[] []>>", "", "(-2)"},
		{"<<<(1 [] []) (2 [] [])> (3 [])> $0>", "a", "(1 (2 (3 a) (3 a)) (2 (3 a) (3 a)))"},
		{"<<$0 $0> $0>", "(5 (-2) (-2))", "(5 (5 (5 (-2) (-2)) (5 (-2) (-2))) (5 (5 (-2) (-2)) (5 (-2) (-2))))"},
		{"(9 <(5 []) $0> [] <(6 []) []>)", "a", "(9 (5 a) (-2) (6 (-2)))"},
		{"<(9 <(5 []) $0> [] <(6 []) []>) $1>", "a,b", "(9 (5 a) b (6 b))"},
	}
	for _, c := range cases {
		x, l := term(c.term), trees(c.trees)
		sameTree(t, "Build of "+c.term+" of "+c.trees, impl.Build(x, l), trees(c.want)[0])
		sameTree(t, "buildBy of "+c.term+" of "+c.trees, buildBy(x, l), trees(c.want)[0])
	}
}

// What is no right tree is put together, too, as it is; a box has no Tok.
func TestBuildOfWhateverTrees(t *testing.T) {
	tok := func(rule int64, tok string, kids ...impl.Tree) impl.Tree {
		return impl.Tree{Rule: rule, Tok: tok, Kids: kids}
	}
	for _, x := range []impl.Tree{
		tok(-2, "a"), tok(-2, "", leaf("")), tok(-2, "a", leaf("b")), tok(-1, ""), tok(-3, ""), tok(0, ""), tok(2, ""),
		tok(math.MinInt64, ""), tok(math.MaxInt64, "A b\xff"), tok(5, "\n", tok(-1, "(", tok(7, ""))), tok(-1, strings.Repeat("a", impl.MaxBytes+1)),
		tok(0, "", tok(-2, "a"), tok(-2, "", tok(-1, ""))), wideTree(impl.MaxList+1, 3, leaf("a")), deepTree(impl.MaxList+1, 3, leaf("a")),
	} {
		what := fmt.Sprintf("%.50s", allBy(x))
		sameTree(t, "$0 of "+what, impl.Build(tmVar(0), []impl.Tree{x}), x)
		sameTree(t, "<$0 $1> of "+what, impl.Build(term("<$0 $1>"), []impl.Tree{x, leaf("z")}), x)
		sameTree(t, "<(5 [] $0 []) $0> of "+what, impl.Build(term("<(5 [] $0 []) $0>"), []impl.Tree{x}), node(5, x, x, x))
	}
	empty := impl.Tree{Rule: -2, Kids: []impl.Tree{}}
	sameTree(t, "a box with an empty list", impl.Build(term("<(5 $0) $1>"), []impl.Tree{empty, leaf("z")}), node(5, leaf("z")))
}

// A list of MaxList trees is taken, one of more is not, whatever the term.
func TestBuildOfManyTrees(t *testing.T) {
	var l []impl.Tree
	for i := range int64(impl.MaxList + 1) {
		l = append(l, node(i+1))
	}
	most := l[:impl.MaxList]
	sameTree(t, "the last one", impl.Build(tmVar(impl.MaxList-1), most), node(impl.MaxList))
	sameTree(t, "the first one", impl.Build(tmVar(0), most), node(1))
	sameTree(t, "one behind", impl.Build(tmVar(impl.MaxList), most), impl.Tree{})
	sameTree(t, "none of them", impl.Build(term("(3 [])"), most), node(3, box()))
	for _, text := range []string{"$0", "$400", "(3)", "[]", "(3 [])", "<(5 []) $1>"} {
		sameTree(t, text+" of one more", impl.Build(term(text), l), impl.Tree{})
		sameTree(t, text+" of many more", impl.Build(term(text), make([]impl.Tree, 100000)), impl.Tree{})
	}
}

func TestPutIn(t *testing.T) {
	cases := []struct {
		term string
		at   int64
		x    string
		many int64
		want string
	}{
		{"$0", 0, "$0", 1, "$0"},
		{"$0", 0, "(5)", 0, "(5)"},
		{"$0", 0, "[]", 0, "[]"},
		{"$0", 0, "<$0 $1>", 2, "<$0 $1>"},
		{"$0", 1, "(5)", 0, "$0"},
		{"(5)", 0, "(6)", 1, "(5)"},
		{"[]", 0, "(6)", 1, "[]"},
		{"<[] []>", 0, "(6)", 1, "<[] []>"},
		// At, before it and behind it.
		{"(1 $0 $1 $2)", 1, "(2 $0 $1)", 2, "(1 $0 (2 $1 $2) $3)"},
		{"(1 $0 $1 $2)", 0, "(2 $0 $1)", 2, "(1 (2 $0 $1) $2 $3)"},
		{"(1 $0 $1 $2)", 2, "(2 $0 $1)", 2, "(1 $0 $1 (2 $2 $3))"},
		{"(1 $0 $1 $2)", 3, "(2 $0 $1)", 2, "(1 $0 $1 $2)"},
		{"(1 $2 $1 $0 $1 $9)", 1, "(2 $1 $0)", 2, "(1 $3 (2 $2 $1) $0 (2 $2 $1) $10)"},
		// Many of 0, of 1 and of more.
		{"(1 $0 $1)", 0, "(3)", 0, "(1 (3) $0)"},
		{"(1 $0 $1 $2)", 1, "(3)", 0, "(1 $0 (3) $1)"},
		{"(1 $0 $1 $2)", 1, "(3 $0)", 1, "(1 $0 (3 $1) $2)"},
		{"(1 $0 $1 $2)", 1, "(3 $0 $1 $2 $3)", 4, "(1 $0 (3 $1 $2 $3 $4) $5)"},
		{"(1 $0 $1 $2)", 1, "(3)", 5, "(1 $0 (3) $6)"},
		// More variables in x than many tells, and fewer.
		{"(1 $0 $1 $2)", 1, "(3 $0 $7)", 0, "(1 $0 (3 $1 $8) $1)"},
		{"(1 $0 $1 $2)", 1, "(3 $0 $7)", 1, "(1 $0 (3 $1 $8) $2)"},
		{"(1 $0 $1)", 0, "[]", 0, "(1 [] $0)"},
		// In plugs, and deep.
		{"<$0 $1>", 0, "(3 [] $0)", 1, "<(3 [] $0) $1>"},
		{"<$0 $1>", 1, "(3 [] $0)", 1, "<$0 (3 [] $1)>"},
		{"<$0 <$1 $2>>", 1, "<$0 $1>", 2, "<$0 <<$1 $2> $3>>"},
		{"(1 (2 (3 $0 []) $1) $0)", 0, "(4 $1 $0)", 2, "(1 (2 (3 (4 $1 $0) []) $2) (4 $1 $0))"},
		// What is no variable keeps its N.
		{"(1 (0) (2 (3)) $1)", 1, "(1 (2 $0))", 3, "(1 (0) (2 (3)) (1 (2 $1)))"},
		// Where at is far behind, and many is large.
		{"(1 $0 $999999 $1000000 $1000001)", 1000000, "(3 $0 $1)", 2, "(1 $0 $999999 (3 $1000000 $1000001) $1000002)"},
		{"(1 $0 $1 $2)", 0, "(3 $0)", 1000000, "(1 (3 $0) $1000000 $1000001)"},
		{"(1 $1000000 $1000001)", 1000000, "$1000000", 1000000, "(1 $2000000 $2000000)"},
		{"(1 $1000000 $1000001)", 1000000, "(0)", 0, "(1 (0) $1000000)"},
	}
	for _, c := range cases {
		x, in := term(c.term), term(c.x)
		what := fmt.Sprint("PutIn ", c.term, " at ", c.at, " ", c.x, " many ", c.many)
		same(t, what, impl.TermText(impl.PutIn(x, c.at, in, c.many)), c.want)
		sameTerm(t, what, impl.PutIn(x, c.at, in, c.many), term(c.want))
	}
}

func TestPutInRefusesWhatIsNoTime(t *testing.T) {
	x, in := term("(1 $0 $1)"), term("(2 $0)")
	for _, wrong := range []int64{-1, -2, impl.MaxTime + 1, 1 << 32, math.MaxInt64, math.MinInt64} {
		for _, right := range []int64{0, 1, impl.MaxTime} {
			sameTerm(t, fmt.Sprint("at ", wrong, ", many ", right), impl.PutIn(x, wrong, in, right), impl.Term{})
			sameTerm(t, fmt.Sprint("at ", right, ", many ", wrong), impl.PutIn(x, right, in, wrong), impl.Term{})
		}
		sameTerm(t, fmt.Sprint("both ", wrong), impl.PutIn(x, wrong, in, wrong), impl.Term{})
		sameTerm(t, fmt.Sprint("no variable, at ", wrong), impl.PutIn(tmBox(), wrong, in, 1), impl.Term{})
		sameTerm(t, fmt.Sprint("no variable, many ", wrong), impl.PutIn(tmBox(), 0, in, wrong), impl.Term{})
	}
	for _, at := range []int64{0, 1, 2, impl.MaxTime - 1, impl.MaxTime} {
		for _, many := range []int64{0, 1, 2, impl.MaxTime - 1, impl.MaxTime} {
			sameTerm(t, fmt.Sprint("at ", at, ", many ", many), impl.PutIn(x, at, in, many), putInBy(x, at, in, many))
		}
	}
}

// What comes of right terms is handed back also where it is not right.
func TestPutInOfWhatGrowsTooLarge(t *testing.T) {
	deep := deepTerm(mostDeep-1, inNode, tmVar(0))
	wide := wideTerm(impl.MaxTree-1, tmVar(0))
	for what, c := range map[string]struct {
		x, in       impl.Term
		deep, terms int
		right       bool
	}{
		"a variable in the deepest":   {deep, tmVar(0), mostDeep, mostDeep, true},
		"a node in the deepest":       {deep, tmNode(0), mostDeep, mostDeep, true},
		"one deeper":                  {deep, tmNode(0, tmVar(0)), mostDeep + 1, mostDeep + 1, false},
		"the deepest in the deepest":  {deep, deep, 2*mostDeep - 1, 2*mostDeep - 1, false},
		"the deepest in one":          {tmNode(0, tmVar(0)), deep, mostDeep + 1, mostDeep + 1, false},
		"a variable in the widest":    {wide, tmBox(), 2, impl.MaxTree, true},
		"the widest in one":           {tmVar(0), wide, 2, impl.MaxTree, true},
		"the widest in a node":        {tmNode(0, tmVar(0)), wide, 3, impl.MaxTree + 1, false},
		"one more in the widest":      {wide, tmNode(1, tmVar(0)), 3, 2*impl.MaxTree - 1, false},
		"the widest in the widest":    {wide, wide, 3, 1 + (impl.MaxTree-1)*impl.MaxTree, false},
		"the deepest in the widest":   {wide, deep, mostDeep + 1, 1 + (impl.MaxTree-1)*mostDeep, false},
		"the widest in the deepest":   {deep, wide, mostDeep + 1, mostDeep - 1 + impl.MaxTree, false},
		"as many as may be":           {wideTerm(2, tmVar(0)), wideTerm(98, tmVar(0)), 3, 199, true},
		"one of three, one more":      {tmNode(0, tmVar(0), tmVar(0), tmBox()), wideTerm(98, tmVar(0)), 3, 200, true},
		"one of four, and that is it": {tmNode(0, tmVar(0), tmVar(0), tmBox(), tmBox()), wideTerm(98, tmVar(0)), 3, 201, false},
	} {
		got := impl.PutIn(c.x, 0, c.in, 1)
		sameTerm(t, what, got, putInBy(c.x, 0, c.in, 1))
		same(t, "depth, "+what, termDeepBy(got), c.deep)
		same(t, "terms, "+what, termSizeBy(got), c.terms)
		same(t, "TermRight, "+what, impl.TermRight(got), c.right)
		sameTerm(t, "PutIn what was put in, "+what, impl.PutIn(got, 1000, tmVar(0), 1), map[bool]impl.Term{true: got}[c.right])
	}
}

// N may be as great as a number can be. No sum of it comes round: it stays the
// number of a tree that there is not, and the term stays right.
func TestPutInOfGreatNumbers(t *testing.T) {
	const most = math.MaxInt64
	l := trees("a,b,c")
	cases := []struct {
		n    int64
		at   int64
		many int64
		want int64
	}{
		{most, 0, 0, most - 1},
		{most, 0, 1, most},
		{most, 0, 2, most},
		{most, impl.MaxTime, impl.MaxTime, most},
		{most - 1, 0, 2, most},
		{most - 1, 0, 3, most},
		{most - impl.MaxTime, 0, impl.MaxTime, most - 1},
		{most - impl.MaxTime + 1, 0, impl.MaxTime, most},
		{most - impl.MaxTime + 2, 0, impl.MaxTime, most},
	}
	for _, c := range cases {
		got := impl.PutIn(tmNode(4, tmVar(c.n), tmVar(0)), c.at, tmVar(0), c.many)
		same(t, fmt.Sprintf("behind at: %+v", c), got.Kids[0].N, c.want)
		same(t, fmt.Sprintf("TermRight %+v", c), impl.TermRight(got), true)
		sameTree(t, fmt.Sprintf("Build %+v", c), impl.Build(got, l), node(4, impl.Tree{}, leaf("a")))
	}
	for _, at := range []int64{0, 1, 2, impl.MaxTime} {
		for _, n := range []int64{most, most - 1, most - impl.MaxTime} {
			got := impl.PutIn(tmNode(4, tmVar(at)), at, tmVar(n), 1)
			want := int64(most)
			if n <= most-at {
				want = n + at
			}
			same(t, fmt.Sprint("in x: ", n, " at ", at), got.Kids[0].N, want)
			sameTree(t, fmt.Sprint("Build in x: ", n, " at ", at), impl.Build(got, l), node(4, impl.Tree{}))
		}
	}
	same(t, "a node's N", impl.TermText(impl.PutIn(tmNode(most, tmVar(1)), 0, tmNode(most), 1)), "(9223372036854775807 $1)")
}

// treeAt is one of the trees, the zero Tree for one that there is not.
func treeAt(l []impl.Tree, i int64) impl.Tree {
	if i < 0 || i >= int64(len(l)) {
		return impl.Tree{}
	}
	return l[i]
}

// insteadOf is the trees of which a term is put together as it is of l when x
// was put in: at at stands the tree that x tells of those from there on.
func insteadOf(l []impl.Tree, at int64, x impl.Term, many int64, count int64) []impl.Tree {
	var out []impl.Tree
	for i := range count {
		switch {
		case i < at:
			out = append(out, treeAt(l, i))
		case i == at:
			out = append(out, impl.Build(x, l[min(at, int64(len(l))):]))
		default:
			out = append(out, treeAt(l, i+many-1))
		}
	}
	return out
}

func TestPutTogetherAsTheTree(t *testing.T) {
	l := trees("a,(1 b (-2)),(-2),(2 c (3 (-2)) (-2)),d,(4)")
	terms := []string{
		"$0", "$1", "$2", "$9", "[]", "(5)", "(5 [])", "(5 $0 $1 $2)", "(5 $2 $0 $2)", "<$0 $1>", "<$1 $0>", "<$1 $1>", "<[] $1>", "<$1 []>",
		"<(5 [] $0) $1>", "<(5 [] []) <$1 $0>>", "<<(5 [] $1) $0> $2>", "(6 <$0 $1> $0 [])", "<<$1 $1> $1>", "<$1 <$1 $2>>",
	}
	for _, one := range terms {
		for _, other := range terms {
			for at := range int64(5) {
				for many := range int64(5) {
					checkPromise7(t, term(one), at, term(other), many, l)
					checkPromise7(t, term(one), at, term(other), many, l[:2])
					checkPromise7(t, term(one), at, term(other), many, nil)
				}
			}
		}
	}
}

// checkPromise7 fails the test if promise 7 does not hold of these; it tells
// whether what was put in is right.
func checkPromise7(t *testing.T, x impl.Term, at int64, in impl.Term, many int64, l []impl.Tree) bool {
	t.Helper()
	what := fmt.Sprint(termTextBy(x), " at ", at, " ", termTextBy(in), " many ", many)
	put := impl.PutIn(x, at, in, many)
	sameTerm(t, "PutIn "+what, put, putInBy(x, at, in, many))
	right := impl.TermRight(put)
	same(t, "TermRight "+what, right, termRightBy(put))
	if !right {
		sameTree(t, "Build "+what, impl.Build(put, l), impl.Tree{})
		return false
	}
	got := impl.Build(put, l)
	sameTree(t, "Build "+what, got, buildBy(put, l))
	sameTree(t, "promise 7, "+what, got, impl.Build(x, insteadOf(l, at, in, many, 20)))
	return true
}

// someTerm is a term of whatever that is right, no deeper than that.
func someTerm(r *rand.Rand, deep int) impl.Term {
	kind := r.Intn(8)
	switch {
	case kind == 0:
		return tmBox()
	case kind <= 2 || deep <= 1:
		return tmVar(int64(r.Intn(5)))
	case kind <= 4:
		return tmPlug(someTerm(r, deep-1), someTerm(r, deep-1))
	}
	out := tmNode(int64(r.Intn(12)))
	for range r.Intn(4) {
		out.Kids = append(out.Kids, someTerm(r, deep-1))
	}
	return out
}

// someBoxes is a tree of whatever, with many boxes.
func someBoxes(r *rand.Rand, deep int) impl.Tree {
	kind := r.Intn(6)
	switch {
	case kind == 0:
		return box()
	case kind == 1 || deep <= 1:
		return leaf([]string{"a", "b", "cc"}[r.Intn(3)])
	case kind == 2:
		return someTree(r, 1)
	}
	out := node(int64(r.Intn(12)) - 2)
	for range r.Intn(4) {
		out.Kids = append(out.Kids, someBoxes(r, deep-1))
	}
	return out
}

func someForest(r *rand.Rand) []impl.Tree {
	var out []impl.Tree
	for range r.Intn(7) {
		out = append(out, someBoxes(r, 3))
	}
	return out
}

// told7 counts what was met with.
func told7(count map[string]int, x impl.Term, in impl.Term, at int64, l []impl.Tree, right bool) {
	if !right {
		count["not right"]++
		return
	}
	count["right"]++
	instead := insteadOf(l, at, in, 1, 20)
	if !impl.TreeSame(impl.Build(x, l), impl.Build(x, instead)) {
		count["another tree"]++
	}
	if _, n := filledBy(treeAt(instead, at), box()); n > 0 && x.Kind == impl.TmPlug {
		count["a box in what was put in"]++
	}
}

func TestPutTogetherAsTheTreeOfAll(t *testing.T) {
	r := rand.New(rand.NewSource(20))
	count := map[string]int{}
	for i := range 20000 {
		if t.Failed() {
			return
		}
		x, in, l := someTerm(r, 2+r.Intn(4)), someTerm(r, 1+r.Intn(4)), someForest(r)
		if i%10 == 0 {
			x = deepTerm(r.Intn(mostDeep-8), inNode, x)
			in = deepTerm(r.Intn(mostDeep-8), inNode, in)
		}
		if !termRightBy(x) || !termRightBy(in) || sizeBy(buildBy(x, l)) > 5000 || sizeBy(buildBy(in, l)) > 5000 {
			continue
		}
		at, many := int64(r.Intn(6)), int64(r.Intn(5))
		if sizeBy(buildBy(putInBy(x, at, in, many), l)) > 20000 {
			continue
		}
		told7(count, x, in, at, l, checkPromise7(t, x, at, in, many, l))
	}
	for _, what := range []string{"right", "not right", "another tree", "a box in what was put in"} {
		if count[what] < 100 {
			t.Errorf("%d times %s: too few", count[what], what)
		}
	}
}

// turnTerm is a term with one thing in it turned, which may be as it was.
func turnTerm(r *rand.Rand, x impl.Term) impl.Term {
	x = copyTerm(x)
	at := &x
	for len(at.Kids) > 0 && r.Intn(4) > 0 {
		at = &at.Kids[r.Intn(len(at.Kids))]
	}
	switch r.Intn(5) {
	case 0:
		at.Kind = int64(r.Intn(7)) - 1
	case 1:
		at.N = int64(r.Intn(4)) - 1
	case 2:
		at.Kids = append(at.Kids, someTerm(r, 2))
	case 3:
		at.Kids = at.Kids[:max(len(at.Kids), 1)-1]
	case 4:
		*at = someTerm(r, 3)
	}
	return x
}

// Terms next to right ones.
func TestTermsAreToldAsTheyAre(t *testing.T) {
	r := rand.New(rand.NewSource(21))
	count := map[bool]int{}
	for range 20000 {
		if t.Failed() {
			return
		}
		x := turnTerm(r, someTerm(r, 4))
		right := termRightBy(x)
		count[right]++
		checkTerm(t, fmt.Sprintf("%+v", x), x, right)
		if right {
			sameTerm(t, "read back", term(impl.TermText(x)), x)
		}
	}
	if count[true] < 1000 || count[false] < 1000 {
		t.Errorf("%d terms are right, %d not: too few of one kind", count[true], count[false])
	}
}

// Each call answers, however deep a term is, and if it has no end.
func TestTermsWithoutEnd(t *testing.T) {
	defer debug.SetMaxStack(debug.SetMaxStack(4 << 20))
	rounds := map[string]impl.Term{"deep": deepTerm(300000, inNode, tmVar(0))}
	for _, kids := range []int{1, 2, 7} {
		list := make([]impl.Term, kids)
		for i := range list {
			list[i] = impl.Term{Kind: impl.TmNode, Kids: list}
		}
		rounds[fmt.Sprint("a node of ", kids)] = list[0]
	}
	plug := make([]impl.Term, 2)
	plug[0], plug[1] = tmPlug(plug...), tmPlug(plug...)
	plug[0].Kids, plug[1].Kids = plug, plug
	rounds["a plug"] = plug[0]
	for what, x := range rounds {
		same(t, "TermRight, "+what, impl.TermRight(x), false)
		same(t, "TermText, "+what, impl.TermText(x), "")
		sameTree(t, "Build, "+what, impl.Build(x, trees("a")), impl.Tree{})
		sameTerm(t, "PutIn t, "+what, impl.PutIn(x, 0, tmVar(0), 1), impl.Term{})
		sameTerm(t, "PutIn x, "+what, impl.PutIn(tmVar(0), 0, x, 1), impl.Term{})
	}
}

// Trees that are very deep, or very large, are put together all the same.
func TestBuildOfLargeTrees(t *testing.T) {
	defer debug.SetMaxStack(debug.SetMaxStack(4 << 20))
	const deep = 100000
	x, y := deepTree(deep, 3, box()), deepTree(deep, 4, leaf("a"))
	got := impl.Build(term("<(5 $0 []) $1>"), []impl.Tree{x, y})
	same(t, "how large the deep one is", impl.SizeOf(got), 1+deep+2*(deep+1))
	sameTree(t, "the deep one", got, node(5, deepTree(deep, 3, y), y))
	wide := wideTree(1000000, 3, leaf("abcd"))
	sameTree(t, "the wide one", impl.Build(tmVar(0), []impl.Tree{wide}), wide)
	long := wideTree(50, 3, leaf(strings.Repeat("a", 100000)))
	sameTree(t, "one of long Toks", impl.Build(tmVar(0), []impl.Tree{long}), long)
	// Two boxes in the place of each one.
	sameTree(t, "a doubled one", impl.Build(doubling(14), nil), doubled(14, box()))
	same(t, "how large it is", impl.SizeOf(impl.Build(doubling(14), nil)), 1<<15-1)
	sameTree(t, "one doubled to the left", impl.Build(doublingLeft(14), nil), doubled(14, box()))
	sameTree(t, "one doubled of a tree", impl.Build(term("<<$0 $0> $0>"), []impl.Tree{doubled(4, box())}), doubled(12, box()))
}

// doubling is a term of a tree with two in the place of each box, again and
// again.
func doubling(n int) impl.Term {
	return deepTerm(n, func(x impl.Term) impl.Term { return tmPlug(term("(0 [] [])"), x) }, tmBox())
}

// doublingLeft is the same by plugs in the first Kids.
func doublingLeft(n int) impl.Term {
	return deepTerm(n, func(x impl.Term) impl.Term { return tmPlug(x, term("(0 [] [])")) }, tmBox())
}

// sameShape tells whether a tree is nodes of Rule 0 with two Kids each, that
// many deep, and below these a leaf. It looks at each of them.
func sameShape(x impl.Tree, deep int, end impl.Tree) bool {
	if deep == 0 {
		return x.Rule == end.Rule && x.Tok == end.Tok && len(x.Kids) == 0
	}
	return x.Rule == 0 && x.Tok == "" && len(x.Kids) == 2 && sameShape(x.Kids[0], deep-1, end) && sameShape(x.Kids[1], deep-1, end)
}

// No limit on how large a tree is but what memory holds: those of millions of
// nodes, by plugs, by variables and by trees that share Kids, and of long Toks.
func TestBuildOfVeryLargeTrees(t *testing.T) {
	const deep = 21
	same(t, "by plugs", sameShape(impl.Build(doubling(deep), nil), deep, box()), true)
	same(t, "by plugs to the left", sameShape(impl.Build(doublingLeft(deep), nil), deep, box()), true)
	same(t, "of a tree that shares Kids", sameShape(impl.Build(tmVar(0), []impl.Tree{doubled(deep, leaf("a"))}), deep, leaf("a")), true)
	same(t, "of boxes that are filled", sameShape(impl.Build(term("<$0 $1>"), []impl.Tree{doubled(deep, box()), leaf("b")}), deep, leaf("b")), true)
	same(t, "of a tree in boxes", sameShape(impl.Build(term("<<$0 $0> $1>"), []impl.Tree{doubled(10, box()), leaf("b")}), 20, leaf("b")), true)
	const kids = impl.MaxTree - 1
	l := []impl.Tree{wideTree(30000, 3, leaf("a"))}
	wide := impl.Build(wideTerm(kids, tmVar(0)), l)
	same(t, "how many Kids", len(wide.Kids), kids)
	for _, x := range wide.Kids {
		sameTree(t, "one of many", x, l[0])
	}
	long := wideTree(300, 1, leaf(strings.Repeat("a", 1<<20)))
	sameTree(t, "one of long Toks", impl.Build(tmVar(0), []impl.Tree{long}), long)
}

// What no memory holds can't be told: the answer is the zero Tree. But if it
// is not told, it does no harm.
func TestBuildOfWhatNoMemoryHolds(t *testing.T) {
	four := func(x impl.Term) impl.Term { return tmPlug(term("(0 [] [] [] [])"), x) }
	fourLeft := func(x impl.Term) impl.Term { return tmPlug(x, term("(0 [] [] [] [])")) }
	most := deepTerm(mostDeep-2, four, term("(1 [])"))
	long := leaf(strings.Repeat("a", 1<<20))
	l := []impl.Tree{round(0), doubled(60, box()), round(1, 0, 2), doubled(20, long), doubled(70, box()), doubled(63, leaf("")), wideTree(100000, 3, box())}
	for what, x := range map[string]impl.Term{
		"plugs": most, "plugs to the left": deepTerm(mostDeep-2, fourLeft, tmBox()), "boxes alone": deepTerm(mostDeep-2, four, tmBox()),
		"one without end": tmVar(0), "one that shares Kids": tmVar(1), "a wide one without end": tmVar(2), "many long Toks": tmVar(3),
		"more boxes than can be told": tmVar(4), "more nodes than can be told": tmVar(5), "all in one": tmNode(0, tmVar(4), tmVar(5), tmVar(0)),
		"in a plug": term("<(5 [] $0 []) $9>"), "in a box": term("<(5 [] $9 []) $0>"), "boxes": term("<$1 $9>"), "twice": term("<$1 $1>"), "thrice": term("<<$1 $1> $4>"),
		"boxes in the place of boxes": term("<$6 $6>"),
	} {
		same(t, "TermRight, "+what, impl.TermRight(x), true)
		sameTree(t, what, impl.Build(x, l), impl.Tree{})
	}
	for _, text := range []string{"(5)", "(5 $9)", "<(5) $0>", "<(5 $9) <$0 $1>>", "<<(5) $1> $0>"} {
		x := term(text)
		want := node(5)
		if strings.Contains(text, "$9") {
			want = node(5, impl.Tree{})
		}
		sameTree(t, text, impl.Build(x, l), want)
		sameTree(t, text+" in its place", impl.Build(impl.PutIn(term("<$7 $0>"), 7, x, 0), l), buildBy(x, nil))
	}
	sameTree(t, "plugs that are not asked for", impl.Build(tmPlug(tmNode(5), most.Kids[1]), l), node(5))
}

// fresh tells for each list whether one of its places was met with before, in
// all the room that it has.
type fresh[T any] struct {
	seen map[*T]bool
	kids func(T) []T
}

func (f fresh[T]) meet(x T) bool {
	list := f.kids(x)
	out := true
	for i := range list[:cap(list)] {
		place := &list[:cap(list)][i]
		out = out && !f.seen[place]
		f.seen[place] = true
	}
	for _, kid := range list {
		out = f.meet(kid) && out
	}
	return out
}

// withRoom is a tree with room behind each of its lists, in which something
// stands.
func withRoom(x impl.Tree) impl.Tree {
	kids := append(make([]impl.Tree, 0, len(x.Kids)+2), x.Kids...)
	for i := range kids {
		kids[i] = withRoom(kids[i])
	}
	x.Kids = append(kids, leaf("behind"), node(7))[:len(kids)]
	return x
}

func termWithRoom(x impl.Term) impl.Term {
	kids := append(make([]impl.Term, 0, len(x.Kids)+2), x.Kids...)
	for i := range kids {
		kids[i] = termWithRoom(kids[i])
	}
	x.Kids = append(kids, tmVar(77), tmNode(7))[:len(kids)]
	return x
}

// wholeTree and wholeTerm are a text of all in it, and of what stands in the
// room behind it.
func wholeTree(x impl.Tree) string {
	out := fmt.Sprintf("[%d %q %d", x.Rule, x.Tok, len(x.Kids))
	for _, kid := range x.Kids[:cap(x.Kids)] {
		out += wholeTree(kid)
	}
	return out + "]"
}

func wholeTerm(x impl.Term) string {
	out := fmt.Sprint("[", x.Kind, x.N, len(x.Kids))
	for _, kid := range x.Kids[:cap(x.Kids)] {
		out += wholeTerm(kid)
	}
	return out + "]"
}

// spoilTree and spoilTerm turn all of an answer.
func spoilTree(x *impl.Tree) {
	for i := range x.Kids {
		spoilTree(&x.Kids[i])
	}
	x.Kids = append(x.Kids, leaf("spoilt"))
	x.Rule, x.Tok = 999, "spoilt"
}

func spoilTerm(x *impl.Term) {
	for i := range x.Kids {
		spoilTerm(&x.Kids[i])
	}
	x.Kids = append(x.Kids, tmVar(999))
	x.Kind, x.N = 999, 999
}

// What is handed in stays as it was, the room behind it too; no two lists of
// an answer share memory, nor do they with what was handed in, and the next
// answer is the same.
func TestTermsStayAsTheyWere(t *testing.T) {
	r := rand.New(rand.NewSource(22))
	for range 3000 {
		if t.Failed() {
			return
		}
		x, in := termWithRoom(someTerm(r, 4)), termWithRoom(someTerm(r, 3))
		all := node(0, someForest(r)...)
		if !termRightBy(x) || !termRightBy(in) || sizeBy(buildBy(x, all.Kids)) > 5000 {
			continue
		}
		// The trees may share lists with each other.
		all.Kids = append(all.Kids, all.Kids...)
		all = withRoom(all)
		if len(all.Kids) > 1 {
			all.Kids[len(all.Kids)-1].Kids = all.Kids[0].Kids
		}
		wasX, wasIn, wasAll := wholeTerm(x), wholeTerm(in), wholeTree(all)
		at, many := int64(r.Intn(5)), int64(r.Intn(3))
		built, put := impl.Build(x, all.Kids), impl.PutIn(x, at, in, many)
		checkFresh(t, built, put, all, x, in)
		texts := impl.TermText(x) + allBy(built) + termTextBy(put)
		spoilTree(&built)
		spoilTerm(&put)
		if wholeTerm(x) != wasX || wholeTerm(in) != wasIn || wholeTree(all) != wasAll {
			t.Fatalf("changed: %s was %s, %s was %s, %s was %s", wholeTerm(x), wasX, wholeTerm(in), wasIn, wholeTree(all), wasAll)
		}
		again := impl.TermText(x) + allBy(impl.Build(x, all.Kids)) + termTextBy(impl.PutIn(x, at, in, many))
		same(t, "asked again", again, texts)
	}
}

// checkFresh fails the test if two lists share memory of which one is in an
// answer.
func checkFresh(t *testing.T, built impl.Tree, put impl.Term, all impl.Tree, terms ...impl.Term) {
	t.Helper()
	inTrees := fresh[impl.Tree]{seen: map[*impl.Tree]bool{}, kids: func(x impl.Tree) []impl.Tree { return x.Kids }}
	inTerms := fresh[impl.Term]{seen: map[*impl.Term]bool{}, kids: func(x impl.Term) []impl.Term { return x.Kids }}
	inTrees.meet(all)
	for _, x := range terms {
		inTerms.meet(x)
	}
	same(t, "memory of "+allBy(built), inTrees.meet(built), true)
	same(t, "memory of "+termTextBy(put), inTerms.meet(put), true)
}

// Zero answers are zero in each field.
func TestZeroAnswersOfTerms(t *testing.T) {
	if got := impl.Build(impl.Term{}, trees("a")); !reflect.DeepEqual(got, impl.Tree{}) {
		t.Errorf("Build: got %+v", got)
	}
	if got := impl.Build(tmVar(3), trees("a")); !reflect.DeepEqual(got, impl.Tree{}) {
		t.Errorf("Build of a tree that there is not: got %+v", got)
	}
	if got := impl.PutIn(tmNode(3, tmVar(0)), -1, tmVar(0), 1); !reflect.DeepEqual(got, impl.Term{}) {
		t.Errorf("PutIn: got %+v", got)
	}
}
