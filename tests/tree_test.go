package tests

import (
	"fmt"
	"math"
	"math/rand"
	"reflect"
	"runtime/debug"
	"slices"
	"strconv"
	"strings"
	"testing"

	"loop.example/g00828/impl"
)

// leaf is the leaf of a token.
func leaf(tok string) impl.Tree {
	return impl.Tree{Rule: -1, Tok: tok}
}

// node is a node of a Rule.
func node(rule int64, kids ...impl.Tree) impl.Tree {
	return impl.Tree{Rule: rule, Kids: kids}
}

// tree is the tree of a text of which each word stands apart, as "( 0 a )".
func tree(text string) impl.Tree {
	var next func(l []string) (impl.Tree, []string)
	next = func(l []string) (impl.Tree, []string) {
		if l[0] != "(" {
			return leaf(l[0]), l[1:]
		}
		rule, _ := strconv.ParseInt(l[1], 10, 64)
		out := node(rule)
		for l = l[2:]; l[0] != ")"; {
			var kid impl.Tree
			kid, l = next(l)
			out.Kids = append(out.Kids, kid)
		}
		return out, l[1:]
	}
	out, _ := next(words(text))
	return out
}

// told is the text that TreeText gives of a tree that tree has read.
func told(text string) string {
	return strings.ReplaceAll(strings.ReplaceAll(text, "( ", "("), " )", ")")
}

// copyTree is a tree in memory of its own. A list that is empty stays that.
func copyTree(t impl.Tree) impl.Tree {
	t.Kids = slices.Clone(t.Kids)
	for i := range t.Kids {
		t.Kids[i] = copyTree(t.Kids[i])
	}
	return t
}

// deepTree is a tree of that many nodes, one below the other, with a tree at
// the end.
func deepTree(n int, rule int64, end impl.Tree) impl.Tree {
	for range n {
		end = node(rule, end)
	}
	return end
}

// wideTree is a tree of one node, and as many Kids.
func wideTree(n int, rule int64, kid impl.Tree) impl.Tree {
	return node(rule, slices.Repeat([]impl.Tree{kid}, n)...)
}

// Promise 6.

func TestRightTrees(t *testing.T) {
	sums := "E -> E p T\nE -> T\nT -> n\n"
	nothing := "S -> A b A\nS -> A\nA -> ~\nA -> a A\n"
	other := "S -> T\nT -> a\nS -> a S\nT -> T T T T T\n"
	cases := []struct {
		gram  string
		tree  string
		yield string
		size  int64
		says  bool // is it of the start?
	}{
		{sums, "( 1 ( 2 n ) )", "n", 3, true},
		{sums, "( 0 ( 1 ( 2 n ) ) p ( 2 n ) )", "n p n", 7, true},
		{sums, "( 0 ( 0 ( 1 ( 2 n ) ) p ( 2 n ) ) p ( 2 n ) )", "n p n p n", 11, true},
		{sums, "( 2 n )", "n", 2, false},
		{sums, "n", "n", 1, false},
		{sums, "p", "p", 1, false},
		{sums, "zzzz", "zzzz", 1, false},
		{nothing, "( 2 )", "", 1, false},
		{nothing, "( 1 ( 2 ) )", "", 2, true},
		{nothing, "( 0 ( 2 ) b ( 2 ) )", "b", 4, true},
		{nothing, "( 0 ( 3 a ( 2 ) ) b ( 3 a ( 3 a ( 2 ) ) ) )", "a b a a", 10, true},
		{nothing, "( 3 a ( 2 ) )", "a", 3, false},
		{other, "( 0 ( 1 a ) )", "a", 3, true},
		{other, "( 2 a ( 0 ( 1 a ) ) )", "a a", 5, true},
		{other, "( 3 ( 1 a ) ( 1 a ) ( 1 a ) ( 1 a ) ( 1 a ) )", "a a a a a", 11, false},
		{"S -> ~\n", "( 0 )", "", 1, true},
		{"S -> T\nQ -> ~\nT -> q\nT -> S\n", "( 0 ( 3 ( 0 ( 2 q ) ) ) )", "q", 5, true},
		{"ABCD -> abcd XX it\nXX -> and\n", "( 0 abcd ( 1 and ) it )", "abcd and it", 5, true},
	}
	for _, c := range cases {
		what := " of " + c.tree + " by " + c.gram
		g, x := read(t, c.gram), tree(c.tree)
		same(t, "TreeRight"+what, impl.TreeRight(g, x), true)
		sameDeep(t, "Yield"+what, impl.Yield(x), words(c.yield))
		same(t, "TreeText"+what, impl.TreeText(x), told(c.tree))
		same(t, "SizeOf"+what, impl.SizeOf(x), c.size)
		same(t, "Says"+what, impl.Says(g, words(c.yield), x), c.says)
		if c.says {
			same(t, "Derives"+what, impl.Derives(g, words(c.yield)), true)
		}
	}
}

func TestTreesOfTheLastRule(t *testing.T) {
	g := manyRules(impl.MaxRules)
	for i := range int64(impl.MaxRules + 5) {
		x := node(i, leaf("a"))
		same(t, fmt.Sprint("TreeRight of Rule ", i), impl.TreeRight(g, x), i < impl.MaxRules)
		same(t, fmt.Sprint("Says of Rule ", i), impl.Says(g, words("a"), x), i < impl.MaxRules)
		same(t, fmt.Sprint("TreeText of Rule ", i), impl.TreeText(x), fmt.Sprint("(", i, " a)"))
	}
}

func TestLeavesAlone(t *testing.T) {
	g := read(t, "S -> a\n")
	for _, tok := range []string{"a", "z", "b", "qq", "abcd"} {
		same(t, "leaf "+tok, impl.TreeRight(g, leaf(tok)), true)
		empty := impl.Tree{Rule: -1, Tok: tok, Kids: []impl.Tree{}}
		same(t, "leaf with an empty list "+tok, impl.TreeRight(g, empty), true)
		same(t, "Says of leaf "+tok, impl.Says(g, []string{tok}, leaf(tok)), false)
		for _, rule := range []int64{0, 1, -2, 20, math.MinInt64, math.MaxInt64} {
			x := impl.Tree{Rule: rule, Tok: tok}
			same(t, fmt.Sprint("leaf of Rule ", rule), impl.TreeRight(g, x), false)
			same(t, "its text", impl.TreeText(x), tok)
			sameDeep(t, "its Yield", impl.Yield(x), []string{tok})
		}
	}
	for _, tok := range []string{
		"S", "A", "AB", "aB", "abcde", "a1", "~", "->", " ", "a ", "a b", "(", "(0)", "-", "\n", "\x00", "\xff", "\u00e4", "S+",
		strings.Repeat("a", impl.MaxBytes), strings.Repeat("a", impl.MaxBytes+1),
	} {
		what := fmt.Sprintf(" of %.9q", tok)
		same(t, "TreeRight"+what, impl.TreeRight(g, leaf(tok)), false)
		same(t, "TreeText"+what, impl.TreeText(leaf(tok)), tok)
		sameDeep(t, "Yield"+what, impl.Yield(leaf(tok)), []string{tok})
		same(t, "SizeOf"+what, impl.SizeOf(leaf(tok)), 1)
		same(t, "Says"+what, impl.Says(g, []string{tok}, leaf(tok)), false)
	}
	same(t, "without Tok", impl.TreeRight(g, leaf("")), false)
	sameDeep(t, "Yield without Tok", impl.Yield(leaf("")), []string{})
	same(t, "TreeText without Tok", impl.TreeText(leaf("")), "(-)")
}

// wrongTrees holds trees of wrongTreesGram that are not right, by what is
// wrong with them. Each has what might be a node of T at its top.
func wrongTrees() map[string]impl.Tree {
	a, b, end := leaf("a"), leaf("b"), node(3)
	withTok := func(tok string, x impl.Tree) impl.Tree {
		x.Tok = tok
		return x
	}
	withKids := func(x impl.Tree, kids ...impl.Tree) impl.Tree {
		x.Kids = kids
		return x
	}
	return map[string]impl.Tree{
		"no Kids":                       node(1),
		"too few Kids":                  node(1, a),
		"a Kid too few, the first":      node(1, end),
		"too many Kids":                 node(1, a, end, end),
		"too many Kids, a leaf":         node(1, a, end, a),
		"Kids of an empty Body":         node(3, a),
		"a node below an empty Body":    node(3, end),
		"Kids the other way round":      node(1, end, a),
		"another leaf":                  node(1, b, end),
		"a leaf that begins it":         node(2, leaf("c"), end, end, leaf("cc"), b),
		"a leaf that it begins":         node(1, leaf("aa"), end),
		"a leaf that is no token":       node(1, leaf("A"), end),
		"a leaf for a head":             node(1, a, a),
		"a head for a head":             node(1, a, leaf("T")),
		"an empty leaf for a head":      node(1, a, leaf("")),
		"an empty leaf":                 node(1, leaf(""), end),
		"a node for a token":            node(1, end, end),
		"a leaf of another Rule":        node(1, impl.Tree{Rule: 0, Tok: "a"}, end),
		"a leaf of a box":               node(1, impl.Tree{Rule: -2, Tok: "a"}, end),
		"a box":                         node(1, a, node(-2)),
		"a leaf with Kids":              node(1, withKids(a, end), end),
		"a leaf with a leaf":            node(1, withKids(a, a), end),
		"a node of another Head":        node(1, a, node(4, b)),
		"a node of the start":           node(1, a, node(0, end)),
		"a Tok in the node":             withTok("a", node(1, a, end)),
		"a Tok in a node without Kids":  withTok("a", node(3)),
		"a Tok in a node below":         node(1, a, withTok("t", end)),
		"a Tok in a node of Kids below": node(1, a, withTok("t", node(1, a, end))),
		"a Rule that there is not":      node(5, a, end),
		"a Rule far behind":             node(math.MaxInt64, a, end),
		"a Rule of -1":                  node(-1, a, end),
		"a Rule of -2":                  node(-2, a, end),
		"a Rule far below 0":            node(math.MinInt64, a, end),
		"a Rule that comes round":       node(1<<32+1, a, end),
		"no Rule and no Kids":           node(5),
		"-1 and no Kids":                node(-1),
		"wrong at its left":             node(2, leaf("cc"), node(1, b, end), end, leaf("cc"), b),
		"wrong in its middle":           node(2, leaf("cc"), end, node(3, end), leaf("cc"), b),
		"wrong at its right":            node(2, leaf("cc"), end, end, leaf("cc"), leaf("bb")),
	}
}

const wrongTreesGram = "S -> T\nT -> a T\nT -> cc T T cc b\nT -> ~\nU -> b\n"

func TestTreesThatAreNotRight(t *testing.T) {
	g := read(t, wrongTreesGram)
	around := map[string]func(x impl.Tree) impl.Tree{
		"alone":        func(x impl.Tree) impl.Tree { return x },
		"of the start": func(x impl.Tree) impl.Tree { return node(0, x) },
		"deep":         func(x impl.Tree) impl.Tree { return node(0, node(1, leaf("a"), node(1, leaf("a"), x))) },
		"first":        func(x impl.Tree) impl.Tree { return node(2, leaf("cc"), x, node(3), leaf("cc"), leaf("b")) },
		"amid":         func(x impl.Tree) impl.Tree { return node(2, leaf("cc"), node(3), x, leaf("cc"), leaf("b")) },
	}
	for where, put := range around {
		same(t, "a right one, "+where, impl.TreeRight(g, put(node(3))), true)
		same(t, "another right one, "+where, impl.TreeRight(g, put(node(1, leaf("a"), node(3)))), true)
		for what, x := range wrongTrees() {
			x = put(x)
			same(t, "TreeRight, "+what+", "+where, impl.TreeRight(g, x), false)
			same(t, "Says, "+what+", "+where, impl.Says(g, impl.Yield(x), x), false)
		}
	}
}

func TestTreesOfWrongGrams(t *testing.T) {
	for what, g := range wrongGrams() {
		trees := []impl.Tree{{}, leaf("a"), node(0), node(0, leaf("a")), node(0, leaf("")), wideTree(impl.MaxList+1, 0, leaf(""))}
		for i, r := range g.Rules {
			x := node(int64(i))
			for _, symbol := range r.Body {
				x.Kids = append(x.Kids, leaf(symbol))
			}
			trees = append(trees, x)
		}
		for _, x := range trees {
			same(t, "TreeRight, "+what, impl.TreeRight(g, x), false)
			same(t, "Says, "+what, impl.Says(g, impl.Yield(x), x), false)
		}
	}
}

// Trees of MaxTree leaves and nodes, and of one more and one less.
func TestTreesOfMostParts(t *testing.T) {
	g := read(t, "S -> S\nS -> a\nS -> S S\nS -> ~\nS -> S S a\n")
	shapes := map[string]func(n int) impl.Tree{
		"deep":         func(n int) impl.Tree { return deepTree(n-2, 0, node(1, leaf("a"))) },
		"deep, empty":  func(n int) impl.Tree { return deepTree(n-1, 0, node(3)) },
		"both":         func(n int) impl.Tree { return node(2, deepTree(n/2-2, 0, node(3)), deepTree(n-n/2-1, 0, node(3))) },
		"to the left":  func(n int) impl.Tree { return comb(n, true) },
		"to the right": func(n int) impl.Tree { return comb(n, false) },
	}
	for what, shape := range shapes {
		for _, n := range []int{impl.MaxTree - 1, impl.MaxTree, impl.MaxTree + 1, impl.MaxTree + 2, impl.MaxList + 1} {
			x := shape(n)
			checkAtMost(t, fmt.Sprint(what, " of ", n), x, n)
			same(t, fmt.Sprint("TreeRight, ", what, " of ", n), impl.TreeRight(g, x), n <= impl.MaxTree)
			same(t, fmt.Sprint("Says, ", what, " of ", n), impl.Says(g, yieldBy(x), x), n <= impl.MaxTree)
			same(t, fmt.Sprint("Says nothing, ", what, " of ", n), impl.Says(g, nil, x), n <= impl.MaxTree && len(yieldBy(x)) == 0)
		}
	}
}

// comb is a right tree of that many parts: nodes of two, of which one goes on.
func comb(n int, left bool) impl.Tree {
	x := node(3)
	if n%2 == 0 {
		x = node(0, x)
	}
	for int(sizeBy(x)) < n {
		if left {
			x = node(2, x, node(3))
		} else {
			x = node(2, node(3), x)
		}
	}
	return x
}

// Trees that are not right are told of, too, up to MaxTree.
func TestWhateverTreesOfMostParts(t *testing.T) {
	for _, n := range []int{1, 2, 3, impl.MaxTree - 1, impl.MaxTree, impl.MaxTree + 1, impl.MaxTree + 2, impl.MaxList, impl.MaxList + 1, 10000} {
		shapes := map[string]impl.Tree{
			"wide":             wideTree(n-1, 7, leaf("a")),
			"wide, of nodes":   wideTree(n-1, 7, node(7)),
			"deep":             deepTree(n-1, -1, leaf("a")),
			"deep, no end":     deepTree(n-1, 3, node(-2)),
			"deep, then wide":  deepTree(n/2, 0, wideTree(n-n/2-1, 10, leaf("z"))),
			"wide, at the end": node(4, append(slices.Repeat([]impl.Tree{leaf("a")}, n/2), deepTree(n-n/2-2, 3, leaf("e")))...),
		}
		if n < 3 {
			delete(shapes, "wide, at the end")
		}
		for what, x := range shapes {
			checkAtMost(t, fmt.Sprint(what, " of ", n), x, n)
		}
	}
}

// checkAtMost fails the test if not all is told of a tree of that size, or
// something of one that is too large.
func checkAtMost(t *testing.T, what string, x impl.Tree, n int) {
	t.Helper()
	same(t, "SizeOf, "+what, impl.SizeOf(x), int64(n))
	if n > impl.MaxTree {
		sameDeep(t, "Yield, "+what, impl.Yield(x), []string{})
		same(t, "TreeText, "+what, impl.TreeText(x), "")
		return
	}
	sameDeep(t, "Yield, "+what, impl.Yield(x), yieldBy(x))
	same(t, "TreeText, "+what, impl.TreeText(x), textBy(x))
}

func TestYield(t *testing.T) {
	tok := func(tok string, kids ...impl.Tree) impl.Tree { return impl.Tree{Rule: 4, Tok: tok, Kids: kids} }
	cases := []struct {
		x    impl.Tree
		want []string
	}{
		{impl.Tree{}, nil},
		{node(0, node(1), node(2, node(-1))), nil},
		{tok("a"), []string{"a"}},
		{tok("a", leaf("b")), []string{"a", "b"}},
		{tok("a", tok("b", tok("c")), tok("d")), []string{"a", "b", "c", "d"}},
		{tok("", tok("b", tok("c"), tok("")), tok("", tok("e")), tok("f")), []string{"b", "c", "e", "f"}},
		{node(0, leaf("c"), leaf("b"), leaf("a"), leaf("a")), []string{"c", "b", "a", "a"}},
		{node(0, leaf(" "), leaf("\n"), leaf("A B"), leaf("\xff")), []string{" ", "\n", "A B", "\xff"}},
	}
	for _, c := range cases {
		sameDeep(t, fmt.Sprintf("Yield of %+v", c.x), impl.Yield(c.x), c.want)
	}
}

func TestTreeText(t *testing.T) {
	tok := func(rule int64, tok string, kids ...impl.Tree) impl.Tree {
		return impl.Tree{Rule: rule, Tok: tok, Kids: kids}
	}
	cases := []struct {
		x    impl.Tree
		want string
	}{
		{impl.Tree{}, "(0)"},
		{impl.Tree{Kids: []impl.Tree{}}, "(0)"},
		{impl.Tree{Tok: "a", Kids: []impl.Tree{}}, "a"},
		{node(9), "(9)"},
		{node(10), "(10)"},
		{node(19, leaf("a")), "(19 a)"},
		{node(1234567890), "(1234567890)"},
		{node(math.MaxInt64), "(9223372036854775807)"},
		{node(-1), "(-)"},
		{node(-2), "(-)"},
		{node(-10), "(-)"},
		{node(math.MinInt64), "(-)"},
		{node(-1, leaf("a"), node(-2)), "(- a (-))"},
		{node(0, leaf("a"), leaf("b"), node(1), leaf("c")), "(0 a b (1) c)"},
		{node(0, node(1, node(2, node(3)))), "(0 (1 (2 (3))))"},
		// A Tok, and no Kids: whatever the Rule, and whatever the Tok.
		{tok(0, "a"), "a"},
		{tok(5, "a"), "a"},
		{tok(-2, "a"), "a"},
		{tok(-1, "A b"), "A b"},
		{tok(-1, "("), "("},
		{tok(-1, "\xff\n"), "\xff\n"},
		// A Tok, and Kids.
		{tok(5, "a", leaf("b")), "(5 b)"},
		{tok(-1, "a", leaf("b")), "(- b)"},
		{tok(-1, "a", tok(-1, "b", leaf(""))), "(- (- (-)))"},
		{tok(12, "a", tok(3, "b", leaf("c")), tok(4, "d")), "(12 (3 c) d)"},
	}
	for _, c := range cases {
		same(t, fmt.Sprintf("TreeText of %+v", c.x), impl.TreeText(c.x), c.want)
	}
}

func TestSays(t *testing.T) {
	g := read(t, "S -> a S\nS -> ~\nT -> a\nT -> S\n")
	x := tree("( 0 a ( 0 a ( 1 ) ) )")
	for _, w := range [][]string{
		nil, {"a"}, {"a", "a", "a"}, {"a", "b"}, {"b", "a"}, {"a", "A"}, {"a", ""}, {"a", "a", ""}, {"", "a", "a"}, {"aa"}, {"a a"}, {"a", "S"},
		many("a", impl.MaxTree), many("a", impl.MaxList), many("a", impl.MaxList+1), make([]string, impl.MaxList+1),
	} {
		same(t, fmt.Sprintf("Says %.30q", w), impl.Says(g, w, x), false)
	}
	same(t, "Says", impl.Says(g, words("a a"), x), true)
	// Nothing, and an empty list of it.
	same(t, "Says nothing", impl.Says(g, nil, node(1)), true)
	same(t, "Says an empty list", impl.Says(g, []string{}, node(1)), true)
	same(t, "Says a list of an empty text", impl.Says(g, []string{""}, node(1)), false)
	// Right trees, but not of the start.
	for text, w := range map[string]string{"( 2 a )": "a", "( 3 ( 1 ) )": "", "( 3 ( 0 a ( 1 ) ) )": "a", "a": "a"} {
		same(t, "TreeRight "+text, impl.TreeRight(g, tree(text)), true)
		same(t, "Says "+text, impl.Says(g, words(w), tree(text)), false)
	}
	// Not right, but what stands in it is w.
	same(t, "Says of a wrong tree", impl.Says(g, words("a"), node(0, leaf("a"))), false)
	same(t, "Says of a Tok in a node", impl.Says(g, words("a"), impl.Tree{Rule: 1, Tok: "a"}), false)
}

// Each of the start's Rules, and not the first one alone.
func TestSaysByEachRuleOfTheStart(t *testing.T) {
	g := read(t, "S -> a\nT -> a\nS -> T\nSS -> a\nS -> b\n")
	for text, want := range map[string]bool{"( 0 a )": true, "( 1 a )": false, "( 2 ( 1 a ) )": true, "( 3 a )": false, "( 4 b )": true} {
		x := tree(text)
		same(t, "TreeRight "+text, impl.TreeRight(g, x), true)
		same(t, "Says "+text, impl.Says(g, impl.Yield(x), x), want)
	}
}

// More tokens than a right text may have are said by a tree all the same.
func TestSaysMoreThanTwelve(t *testing.T) {
	g := read(t, "S -> a S\nS -> ~\n")
	x := node(1)
	for n := 0; 2*n+1 <= impl.MaxTree; n++ {
		w := many("a", n)
		same(t, fmt.Sprint("Says ", n), impl.Says(g, w, x), true)
		same(t, fmt.Sprint("Says one less than ", n), n > 0 && impl.Says(g, w[:max(n, 1)-1], x), false)
		same(t, fmt.Sprint("Says one more than ", n), impl.Says(g, append(w, "a"), x), false)
		same(t, fmt.Sprint("Derives ", n), impl.Derives(g, w), n <= mostTokens)
		x = node(0, leaf("a"), x)
	}
	same(t, "Says of too large a tree", impl.Says(g, yieldBy(x), x), false)
}

// rightBy is what chapter 6 says of a tree at the place of a symbol, but for
// the size.
func rightBy(g impl.Gram, symbol string, x impl.Tree) bool {
	if symbol[0] >= 'a' {
		return x.Rule == -1 && x.Tok == symbol && len(x.Kids) == 0
	}
	if x.Tok != "" || x.Rule < 0 || int(x.Rule) >= len(g.Rules) || g.Rules[x.Rule].Head != symbol {
		return false
	}
	body := g.Rules[x.Rule].Body
	for i, kid := range x.Kids {
		if len(body) != len(x.Kids) || !rightBy(g, body[i], kid) {
			return false
		}
	}
	return len(body) == len(x.Kids)
}

// rightByAny is rightBy for some symbol that there may be.
func rightByAny(g impl.Gram, x impl.Tree) bool {
	if x.Rule == -1 {
		return impl.IsToken(x.Tok) && rightBy(g, x.Tok, x)
	}
	return slices.ContainsFunc(impl.Heads(g), func(head string) bool { return rightBy(g, head, x) })
}

// sizeBy, yieldBy and textBy tell of a tree what chapter 6 says, of whatever
// size.
func sizeBy(x impl.Tree) int64 {
	out := int64(1)
	for _, kid := range x.Kids {
		out += sizeBy(kid)
	}
	return out
}

func yieldBy(x impl.Tree) []string {
	var out []string
	if x.Tok != "" {
		out = append(out, x.Tok)
	}
	for _, kid := range x.Kids {
		out = append(out, yieldBy(kid)...)
	}
	return out
}

func textBy(x impl.Tree) string {
	if x.Tok != "" && len(x.Kids) == 0 {
		return x.Tok
	}
	out := []string{"-"}
	if x.Rule >= 0 {
		out[0] = fmt.Sprint(x.Rule)
	}
	for _, kid := range x.Kids {
		out = append(out, textBy(kid))
	}
	return "(" + strings.Join(out, " ") + ")"
}

// allBy is a text of all that a tree has.
func allBy(x impl.Tree) string {
	out := fmt.Sprintf("[%d %q", x.Rule, x.Tok)
	for _, kid := range x.Kids {
		out += allBy(kid)
	}
	return out + "]"
}

// grownTree is a right tree of a symbol, no deeper than that, or false if none
// was met with.
func grownTree(r *rand.Rand, g impl.Gram, symbol string, deep int) (impl.Tree, bool) {
	if symbol[0] >= 'a' {
		return leaf(symbol), true
	}
	var rules []int64
	for i, one := range g.Rules {
		if one.Head == symbol {
			rules = append(rules, int64(i))
		}
	}
	if len(rules) == 0 || deep == 0 {
		return impl.Tree{}, false
	}
	out := node(rules[r.Intn(len(rules))])
	size := int64(1)
	for _, x := range g.Rules[out.Rule].Body {
		kid, ok := grownTree(r, g, x, deep-1)
		size += sizeBy(kid)
		if !ok || size > 2*impl.MaxTree {
			return impl.Tree{}, false
		}
		out.Kids = append(out.Kids, kid)
	}
	return out, true
}

// roundGrams holds Grams of which trees easily become large.
var roundGrams = []string{
	"E -> E p T\nE -> T\nT -> n\nT -> l E r\n",
	"S -> S S\nS -> a\nS -> ~\n",
	"S -> A b S\nS -> ~\nA -> S\nA -> a A\nA -> ~\n",
	"LIST -> it MORE\nMORE -> ~\nMORE -> and LIST MORE\n",
}

// swollen is a right tree made larger, and now and then larger than MaxTree:
// again and again a node stands in the place of another one of its head.
func swollen(r *rand.Rand, g impl.Gram, x impl.Tree) impl.Tree {
	x = copyTree(x)
	for range 60 {
		from, to := *somePart(r, &x), somePart(r, &x)
		if from.Rule < 0 || to.Rule < 0 || g.Rules[from.Rule].Head != g.Rules[to.Rule].Head {
			continue
		}
		if size := sizeBy(from); size > sizeBy(*to) && sizeBy(x) <= impl.MaxTree {
			*to = copyTree(from)
		}
	}
	return x
}

// someTree is a tree of whatever, no deeper than that.
func someTree(r *rand.Rand, deep int) impl.Tree {
	out := impl.Tree{Rule: int64(r.Intn(25)) - 3}
	if r.Intn(2) == 0 {
		out.Tok = []string{"a", "b", "S", "ab", "", "1"}[r.Intn(6)]
	}
	for deep > 0 && r.Intn(4) > 0 && len(out.Kids) < 6 {
		out.Kids = append(out.Kids, someTree(r, deep-1))
	}
	return out
}

// somePart is a place in a tree.
func somePart(r *rand.Rand, x *impl.Tree) *impl.Tree {
	for len(x.Kids) > 0 && r.Intn(4) > 0 {
		x = &x.Kids[r.Intn(len(x.Kids))]
	}
	return x
}

// turnTree is a tree with one thing in it turned, which may be as it was.
func turnTree(r *rand.Rand, x impl.Tree) impl.Tree {
	x = copyTree(x)
	at := somePart(r, &x)
	switch r.Intn(6) {
	case 0:
		at.Rule = int64(r.Intn(12)) - 2
	case 1:
		at.Tok = []string{"", "a", "b", "A"}[r.Intn(4)]
	case 2:
		at.Kids = append(at.Kids, copyTree(*somePart(r, &x)))
	case 3:
		at.Kids = at.Kids[:max(len(at.Kids), 1)-1]
	case 4:
		*at = copyTree(*somePart(r, &x))
	case 5:
		if n := len(at.Kids); n > 1 {
			i, k := r.Intn(n), r.Intn(n)
			at.Kids[i], at.Kids[k] = at.Kids[k], at.Kids[i]
		}
	}
	return x
}

// checkTree fails the test if what is told of a tree is not what the chapter
// says.
func checkTree(t *testing.T, g impl.Gram, x impl.Tree) bool {
	t.Helper()
	what := fmt.Sprintf(" of %+v by %s", x, impl.GramText(g))
	size, w := sizeBy(x), yieldBy(x)
	small := size <= impl.MaxTree
	right := small && rightByAny(g, x)
	same(t, "SizeOf"+what, impl.SizeOf(x), size)
	same(t, "TreeRight"+what, impl.TreeRight(g, x), right)
	same(t, "Says"+what, impl.Says(g, w, x), right && rightBy(g, g.Rules[0].Head, x))
	if !small {
		w = nil
	}
	sameDeep(t, "Yield"+what, impl.Yield(x), w)
	if small {
		same(t, "TreeText"+what, impl.TreeText(x), textBy(x))
	} else {
		same(t, "TreeText"+what, impl.TreeText(x), "")
	}
	return right
}

func TestRightTreesSayWhatIsSaid(t *testing.T) {
	r := rand.New(rand.NewSource(16))
	count := map[string]int{}
	for i := range 12000 {
		if t.Failed() {
			return
		}
		g := smallGram(r)
		switch i % 6 {
		case 0:
			g = someGram(r)
		case 1:
			g = read(t, roundGrams[r.Intn(len(roundGrams))])
		}
		start := g.Rules[0].Head
		x, ok := grownTree(r, g, start, 9)
		if !ok {
			continue
		}
		if i%2 == 1 {
			x = swollen(r, g, x)
		}
		right := checkTree(t, g, x)
		same(t, "right if not too large", right, sizeBy(x) <= impl.MaxTree)
		w := impl.Yield(x)
		what := fmt.Sprintf(" %q by %s", w, impl.GramText(g))
		switch {
		case !right:
			count["too large"]++
		case len(w) > mostTokens:
			count["long"]++
			same(t, "Viable"+what, impl.Viable(g, w[:mostTokens]), mostTokens)
		default:
			count["said"]++
			same(t, "Derives"+what, impl.Derives(g, w), true)
		}
		if !right {
			continue
		}
		same(t, "Says"+what, impl.Says(g, w, x), true)
		same(t, "Says more than"+what, impl.Says(g, append(slices.Clone(w), "a"), x), false)
		if len(w) > 0 {
			same(t, "Says less than"+what, impl.Says(g, w[1:], x), false)
			same(t, "Says other than"+what, impl.Says(g, append([]string{w[0] + "z"}, w[1:]...), x), false)
		}
	}
	for _, what := range []string{"said", "long", "too large"} {
		if count[what] < 100 {
			t.Errorf("%d trees are %s: too few", count[what], what)
		}
	}
}

// Trees next to right ones, of all heads, and trees of whatever.
func TestTreesAreToldAsTheyAre(t *testing.T) {
	r := rand.New(rand.NewSource(17))
	count := map[bool]int{}
	for range 8000 {
		if t.Failed() {
			return
		}
		g := smallGram(r)
		checkTree(t, g, someTree(r, 4))
		heads := impl.Heads(g)
		x, ok := grownTree(r, g, heads[r.Intn(len(heads))], 6)
		if !ok {
			continue
		}
		count[checkTree(t, g, turnTree(r, x))]++
		checkTree(t, g, turnTree(r, turnTree(r, x)))
	}
	if count[true] < 300 || count[false] < 300 {
		t.Errorf("of the trees next to right ones %d are right, %d not: too few of one kind", count[true], count[false])
	}
}

func TestTreeSame(t *testing.T) {
	x := tree("( 0 ( 1 ( 2 n ) ) p ( 2 n ) )")
	same(t, "itself", impl.TreeSame(x, x), true)
	same(t, "a copy", impl.TreeSame(x, copyTree(x)), true)
	same(t, "none", impl.TreeSame(impl.Tree{}, impl.Tree{}), true)
	same(t, "an empty list and none", impl.TreeSame(impl.Tree{Kids: []impl.Tree{}}, impl.Tree{}), true)
	same(t, "none and an empty list", impl.TreeSame(node(1, leaf("a")), node(1, impl.Tree{Rule: -1, Tok: "a", Kids: []impl.Tree{}})), true)
	differ := [][2]impl.Tree{
		{x, node(2, leaf("n"))},
		{node(0), node(1)},
		{node(-1), node(-2)},
		{node(math.MinInt64), node(math.MaxInt64)},
		{node(0), node(1 << 32)},
		{leaf("a"), leaf("b")},
		{leaf("a"), leaf("")},
		{leaf("a"), leaf("aa")},
		{leaf("a"), impl.Tree{Tok: "a"}},
		{leaf("a\xff"), leaf("a\xfe")},
		{node(0), node(0, node(0))},
		{node(0, leaf("a")), node(0, leaf("a"), leaf("a"))},
		{node(0, leaf("a")), node(0, leaf("b"))},
		{node(0, leaf("a"), leaf("b")), node(0, leaf("b"), leaf("a"))},
		{node(0, node(1), node(1)), node(0, node(1, node(1)))},
		{node(0, node(1, leaf("a")), node(2)), node(0, node(1), node(2, leaf("a")))},
		{node(0, node(1, leaf("a")), node(2, leaf("a"))), node(0, node(1, leaf("a")), node(2, leaf("b")))},
		{node(0, node(1, leaf("a")), node(2, leaf("a"))), node(0, node(1, leaf("b")), node(2, leaf("a")))},
		{impl.Tree{Rule: 3, Tok: "x", Kids: []impl.Tree{leaf("a")}}, node(3, leaf("a"))},
		// Alike in their texts.
		{impl.Tree{Rule: 3, Tok: "x"}, impl.Tree{Rule: 4, Tok: "x"}},
		{deepTree(impl.MaxTree, 0, leaf("a")), deepTree(impl.MaxTree, 0, leaf("b"))},
		{wideTree(impl.MaxList+1, 0, leaf("a")), wideTree(impl.MaxList, 0, leaf("a"))},
	}
	for _, d := range differ {
		same(t, fmt.Sprintf("%.60s and %.60s", allBy(d[0]), allBy(d[1])), impl.TreeSame(d[0], d[1]), false)
		same(t, fmt.Sprintf("%.60s and %.60s", allBy(d[1]), allBy(d[0])), impl.TreeSame(d[1], d[0]), false)
		for _, one := range d {
			same(t, "with its copy", impl.TreeSame(one, copyTree(one)), true)
		}
	}
}

func TestTreeSameOfAll(t *testing.T) {
	r := rand.New(rand.NewSource(18))
	count := map[bool]int{}
	for range 6000 {
		if t.Failed() {
			return
		}
		a := someTree(r, 4)
		b := turnTree(r, a)
		if r.Intn(20) == 0 {
			b = someTree(r, 2)
		}
		want := allBy(a) == allBy(b)
		count[want]++
		same(t, allBy(a)+" and "+allBy(b), impl.TreeSame(a, b), want)
		same(t, allBy(b)+" and "+allBy(a), impl.TreeSame(b, a), want)
		same(t, allBy(a)+" and its copy", impl.TreeSame(a, copyTree(a)), true)
	}
	if count[true] < 300 || count[false] < 300 {
		t.Errorf("of two trees each %d are the same, %d not: too few of one kind", count[true], count[false])
	}
}

// Each call answers, however deep a tree is: it does not run out of stack.
func TestVeryDeepTrees(t *testing.T) {
	defer debug.SetMaxStack(debug.SetMaxStack(4 << 20))
	const deep = 300000
	g := read(t, "S -> S\nS -> a\n")
	x, y := deepTree(deep, 0, node(1, leaf("a"))), deepTree(deep, 0, node(1, leaf("b")))
	again := deepTree(deep, 0, node(1, leaf("a")))
	same(t, "SizeOf", impl.SizeOf(x), deep+2)
	same(t, "TreeRight", impl.TreeRight(g, x), false)
	same(t, "Says", impl.Says(g, words("a"), x), false)
	sameDeep(t, "Yield", impl.Yield(x), []string{})
	same(t, "TreeText", impl.TreeText(x), "")
	same(t, "TreeSame of one and its like", impl.TreeSame(x, again), true)
	same(t, "TreeSame of two", impl.TreeSame(x, y), false)
}

// doubled is a tree with two Kids in each node, both of the same memory.
func doubled(n int, end impl.Tree) impl.Tree {
	for range n {
		end = node(0, end, end)
	}
	return end
}

// A tree may be far larger than the memory that it takes, as its Kids may
// share theirs. What does not fit in is told as the greatest number.
func TestTreesThatShareKids(t *testing.T) {
	g := read(t, "S -> S S\nS -> a\n")
	for n, want := range map[int]int64{6: 1<<7 - 1, 7: 1<<8 - 1, 40: 1<<41 - 1, 61: 1<<62 - 1, 62: math.MaxInt64, 63: math.MaxInt64, 64: math.MaxInt64, 300: math.MaxInt64} {
		what := fmt.Sprint(" doubled ", n)
		x, y, other := doubled(n, node(1)), doubled(n, node(1)), doubled(n, node(2))
		same(t, "SizeOf"+what, impl.SizeOf(x), want)
		same(t, "TreeSame"+what, impl.TreeSame(x, y), true)
		same(t, "TreeSame with another"+what, impl.TreeSame(x, other), false)
		same(t, "TreeText"+what, impl.TreeText(x) == "", want > impl.MaxTree)
	}
	x := doubled(5, node(1, leaf("a")))
	same(t, "TreeRight", impl.TreeRight(g, x), true)
	sameDeep(t, "Yield", impl.Yield(x), many("a", 32))
	same(t, "TreeRight of more", impl.TreeRight(g, doubled(7, node(1, leaf("a")))), false)
	// Parts of one list.
	list := []impl.Tree{node(1), node(1, leaf("a"), leaf("b")), node(1)}
	parts := node(0, node(1, list[:1]...), node(2, list[:2]...), node(3, list...), node(4, list[1:]...))
	same(t, "SizeOf of parts", impl.SizeOf(parts), 5+1+4+5+4)
	same(t, "TreeSame of parts", impl.TreeSame(parts, copyTree(parts)), true)
	same(t, "TreeSame of two parts", impl.TreeSame(node(0, list[:1]...), node(0, list[2:]...)), true)
	same(t, "TreeSame of other parts", impl.TreeSame(node(0, list[:1]...), node(0, list[1:2]...)), false)
}

// round is a tree without end: the last one in its list of Kids has that list.
func round(rules ...int64) impl.Tree {
	kids := make([]impl.Tree, len(rules))
	for i, rule := range rules {
		kids[i].Rule = rule
	}
	kids[len(kids)-1].Kids = kids
	return node(0, kids...)
}

// Each call answers, also of a tree without end.
func TestTreesWithoutEnd(t *testing.T) {
	g := read(t, "S -> S\n")
	x := round(0)
	for what, x := range map[string]impl.Tree{"alone": x, "within": node(0, node(1), x, node(2)), "of two": round(1, 0), "deep": deepTree(50, 0, x)} {
		same(t, "SizeOf, "+what, impl.SizeOf(x), math.MaxInt64)
		same(t, "TreeRight, "+what, impl.TreeRight(g, x), false)
		same(t, "Says, "+what, impl.Says(g, nil, x), false)
		sameDeep(t, "Yield, "+what, impl.Yield(x), []string{})
		same(t, "TreeText, "+what, impl.TreeText(x), "")
		same(t, "TreeSame, "+what, impl.TreeSame(x, x), true)
	}
	same(t, "TreeSame of two alike", impl.TreeSame(round(0), round(0)), true)
	same(t, "TreeSame of one, and it a step on", impl.TreeSame(x, x.Kids[0]), true)
	same(t, "TreeSame of two others", impl.TreeSame(round(0), round(1)), false)
	same(t, "TreeSame of one with an end", impl.TreeSame(round(0), deepTree(50, 0, node(0))), false)
}

// What is handed in stays as it was, the room behind it too; what is handed
// back can be changed without changing that, and the next answer is the same.
func TestTreesStayAsTheyWere(t *testing.T) {
	r := rand.New(rand.NewSource(19))
	for range 1500 {
		if t.Failed() {
			return
		}
		g := smallGram(r)
		x, ok := grownTree(r, g, g.Rules[0].Head, 6)
		if !ok || r.Intn(3) == 0 {
			x = someTree(r, 3)
		}
		x.Kids = append(slices.Clip(x.Kids), leaf("behind"), node(7))
		asked := x
		asked.Kids = x.Kids[:len(x.Kids)-2]
		w := append(yieldBy(asked), "behind")
		wasGram, wasTree, wasText := copyGram(g), copyTree(x), slices.Clone(w)
		all := func() []any {
			said := impl.Says(g, w[:len(w)-1], asked)
			return []any{impl.TreeRight(g, asked), impl.TreeText(asked), said, impl.SizeOf(asked), impl.TreeSame(asked, x), impl.Yield(asked)}
		}
		first, second := all(), all()
		spoil(first[5].([]string))
		if !reflect.DeepEqual(g, wasGram) || !reflect.DeepEqual(x, wasTree) || !slices.Equal(w, wasText) {
			t.Fatalf("changed: %+v was %+v, %+v was %+v, %q was %q", g, wasGram, x, wasTree, w, wasText)
		}
		sameDeep(t, "asked before", second, all())
	}
}
