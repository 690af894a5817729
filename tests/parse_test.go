package tests

import (
	"fmt"
	"math/rand"
	"reflect"
	"runtime/debug"
	"slices"
	"strings"
	"testing"

	"loop.example/g00828/impl"
)

// What chapter 11 says, read plainly.

// readBy reads pieces by Mades, going through the Mades and all ways to cut one
// by one. What came of a piece is kept, to be found again.
type readBy struct {
	mades []impl.Made
	known map[string]*impl.Tree
}

// tree is the tree of a symbol and a piece, or nil.
func (b readBy) tree(symbol string, piece []string) *impl.Tree {
	if impl.IsToken(symbol) {
		if !slices.Equal(piece, []string{symbol}) {
			return nil
		}
		return &impl.Tree{Rule: -1, Tok: symbol}
	}
	key := symbol + " " + strings.Join(piece, " ")
	if _, there := b.known[key]; !there {
		b.known[key] = b.first(symbol, piece)
	}
	return b.known[key]
}

// first is what the first Made of a head builds by which there is a way.
func (b readBy) first(head string, piece []string) *impl.Tree {
	for _, m := range ofBy(b.mades, head) {
		if trees, ok := b.cut(m.Body, piece); ok {
			out := buildBy(m.Term, trees)
			return &out
		}
	}
	return nil
}

// cut is the trees of a Body, each piece as short as can be so that the rest
// can be cut.
func (b readBy) cut(body []string, piece []string) ([]impl.Tree, bool) {
	if len(body) == 0 {
		return nil, len(piece) == 0
	}
	for n := range len(piece) + 1 {
		first := b.tree(body[0], piece[:n])
		if first == nil {
			continue
		}
		if rest, ok := b.cut(body[1:], piece[n:]); ok {
			return append([]impl.Tree{*first}, rest...), true
		}
	}
	return nil, false
}

// parseBy reads a right text by what Compile makes.
func parseBy(c impl.Comp, w []string) impl.ParseOut {
	if len(w) == 0 && c.Has {
		return impl.ParseOut{Tree: buildBy(c.Null, nil)}
	}
	if x := (readBy{c.Rules, map[string]*impl.Tree{}}).tree(c.Gram.Rules[0].Head, w); x != nil {
		return impl.ParseOut{Tree: *x}
	}
	return impl.ParseOut{At: viableBy(c.Gram, w), Code: impl.ErrSyntax}
}

// parseText is a text of all that is answered. An empty list and none are the
// same.
func parseText(out impl.ParseOut) string {
	return fmt.Sprintf("code %d at %d %s", out.Code, out.At, allBy(out.Tree))
}

// ready is the Comp of a grammar's text.
func ready(t *testing.T, text string) impl.Comp {
	t.Helper()
	out := impl.Compile(read(t, text))
	if out.Code != impl.OK {
		t.Fatalf("Compile of %s: code %d", text, out.Code)
	}
	return out.Comp
}

// checkParse fails the test if not all three calls answer as is wanted.
func checkParse(t *testing.T, c impl.Comp, w []string, want impl.ParseOut) {
	t.Helper()
	what := fmt.Sprintf(" %q by %.600s", w, impl.GramText(c.Gram))
	same(t, "Parse"+what, parseText(impl.Parse(c, w)), parseText(want))
	same(t, "ReadAll"+what, parseText(impl.ReadAll(c.Gram, w)), parseText(want))
	same(t, "Accepts"+what, impl.Accepts(c, w), want.Code == impl.OK)
}

// checkTrees fails the test if a text, of each that stands ahead of a ":", is
// not read as the tree behind it.
func checkTrees(t *testing.T, text string, cases ...string) {
	t.Helper()
	c := ready(t, text)
	for _, one := range cases {
		said, want, _ := strings.Cut(one, " : ")
		got := impl.Parse(c, words(said))
		same(t, "tree of "+said+" by "+text, impl.TreeText(got.Tree), want)
		checkParse(t, c, words(said), impl.ParseOut{Tree: got.Tree})
		checkParse(t, c, words(said), parseBy(c, words(said)))
		same(t, "promise 10, "+said+" by "+text, impl.Says(c.Gram, words(said), got.Tree), true)
	}
}

// checkAts fails the test if a text, of each that stands ahead of a ":", is not
// refused with the place behind it.
func checkAts(t *testing.T, text string, cases ...string) {
	t.Helper()
	c := ready(t, text)
	for _, one := range cases {
		var at int64
		said, want, _ := strings.Cut(one, " : ")
		fmt.Sscan(want, &at)
		checkParse(t, c, words(said), impl.ParseOut{At: at, Code: impl.ErrSyntax})
		checkParse(t, c, words(said), parseBy(c, words(said)))
		same(t, "Viable of "+said+" by "+text, impl.Viable(c.Gram, words(said)), at)
	}
}

// Trees.

func TestParse(t *testing.T) {
	checkTrees(t, "S -> a\n", "a : (0 a)")
	checkTrees(t, "S -> a b c a b\n", "a b c a b : (0 a b c a b)")
	checkTrees(t, "E -> E p T\nE -> T\nT -> n\n", "n : (1 (2 n))", "n p n : (0 (1 (2 n)) p (2 n))", "n p n p n : (0 (0 (1 (2 n)) p (2 n)) p (2 n))")
	checkTrees(t, "E -> E p T\nE -> T\nT -> T m F\nT -> F\nF -> n\nF -> l E r\n",
		"n m n p n : (0 (1 (2 (3 (4 n)) m (4 n))) p (3 (4 n)))", "l n p n r m n : (1 (2 (3 (5 l (0 (1 (3 (4 n))) p (3 (4 n))) r)) m (4 n)))")
	// By the right, by both sides, and round by another head.
	checkTrees(t, "S -> a S\nS -> b\n", "b : (1 b)", "a a b : (0 a (0 a (1 b)))")
	checkTrees(t, "S -> a S b\nS -> a b\n", "a b : (1 a b)", "a a a b b b : (0 a (0 a (1 a b) b) b)")
	checkTrees(t, "S -> A a\nS -> b\nA -> S c\nA -> d\n", "b : (1 b)", "d a : (0 (3 d) a)", "b c a c a : (0 (2 (0 (2 (1 b) c) a) c) a)")
	// Heads in a Body that come to nothing stand in the tree, too.
	checkTrees(t, "S -> A b A\nA -> ~\nA -> a\n", "b : (0 (1) b (1))", "a b : (0 (2 a) b (1))", "b a : (0 (1) b (2 a))", "a b a : (0 (2 a) b (2 a))")
	checkTrees(t, "S -> A S b\nS -> c\nA -> ~\nA -> a\n", "c b : (0 (2) (1 c) b)", "a c b b : (0 (3 a) (0 (2) (1 c) b) b)")
}

// The empty text is read just where Has says so.
func TestParseOfNothing(t *testing.T) {
	checkTrees(t, "S -> ~\n", " : (0)")
	checkTrees(t, "S -> S a\nS -> ~\n", " : (1)", "a : (0 (1) a)", "a a : (0 (0 (1) a) a)")
	checkTrees(t, "S -> a\nS -> A B\nA -> B\nB -> ~\n", " : (1 (2 (3)) (3))", "a : (0 a)")
	checkTrees(t, "S -> ~\nS -> ~\n", " : (0)")
	checkAts(t, "S -> a\n", " : 0")
	checkAts(t, "S -> a A\nA -> ~\n", " : 0")
	checkAts(t, "S -> A b\nA -> ~\nT -> ~\n", " : 0")
	// An empty list and none are the same.
	checkParse(t, ready(t, "S -> ~\n"), []string{}, impl.ParseOut{Tree: node(0)})
	checkParse(t, ready(t, "S -> a\n"), []string{}, impl.ParseOut{Code: impl.ErrSyntax})
}

// Of several Rules by which there is a way the first one stands: the first one
// that was made.
func TestParseByTheFirstRule(t *testing.T) {
	checkTrees(t, "S -> A b\nS -> a B\nA -> a\nB -> b\n", "a b : (0 (2 a) b)")
	checkTrees(t, "S -> a B\nS -> A b\nA -> a\nB -> b\n", "a b : (0 a (3 b))")
	checkTrees(t, "S -> a A\nS -> a B\nA -> b\nB -> b\nB -> c\n", "a b : (0 a (2 b))", "a c : (1 a (4 c))")
	checkTrees(t, "S -> x A\nA -> a B\nA -> B a\nA -> B B\nB -> a\nB -> a a\n",
		"x a a : (0 x (1 a (4 a)))", "x a a a : (0 x (1 a (5 a a)))", "x a a a a : (0 x (3 (5 a a) (5 a a)))")
	// A Body of one head is gone through behind all others of that head.
	checkTrees(t, "S -> A\nS -> a b\nA -> a B\nB -> b\nB -> c\n", "a b : (1 a b)", "a c : (0 (2 a (4 c)))")
	checkTrees(t, "S -> A\nS -> B\nA -> C\nB -> a\nC -> a\n", "a : (1 (3 a))")
	// One whose way is longer than the next one's.
	checkTrees(t, "S -> a S b\nS -> a b\nS -> a A\nA -> b\n", "a b : (1 a b)", "a a b b : (0 a (1 a b) b)")
	// The same Rule twice.
	checkTrees(t, "S -> a\nS -> a\n", "a : (0 a)")
	// The first Rule has no way here, though it begins and ends as the text.
	checkTrees(t, "S -> a A b\nS -> a B b\nA -> c\nB -> d\nB -> c\n", "a d b : (1 a (3 d) b)", "a c b : (0 a (2 c) b)")
}

// Of several ways to cut the one with the shortest first piece stands, and so on
// in the rest.
func TestParseByTheShortestPiece(t *testing.T) {
	two := "S -> A B\nA -> a\nA -> a a\nB -> a\nB -> a a\n"
	checkTrees(t, two, "a a : (0 (1 a) (3 a))", "a a a : (0 (1 a) (4 a a))", "a a a a : (0 (2 a a) (4 a a))")
	// The order of the head's own Rules does not count for that.
	checkTrees(t, "S -> A B\nA -> a a\nA -> a\nB -> a a\nB -> a\n", "a a a : (0 (2 a) (3 a a))")
	three := "S -> A A A\nA -> a a\nA -> a\n"
	checkTrees(t, three, "a a a : (0 (2 a) (2 a) (2 a))", "a a a a : (0 (2 a) (2 a) (1 a a))", "a a a a a : (0 (2 a) (1 a a) (1 a a))", "a a a a a a : (0 (1 a a) (1 a a) (1 a a))")
	// The first one's piece is no shorter than lets the rest be cut.
	checkTrees(t, "S -> A B c\nA -> a\nA -> a b\nB -> b\nB -> b b b\n", "a b c : (0 (1 a) (3 b) c)", "a b b c : (0 (2 a b) (3 b) c)", "a b b b c : (0 (1 a) (4 b b b) c)", "a b b b b c : (0 (2 a b) (4 b b b) c)")
	// Also where it is one of a head that goes on and on.
	checkTrees(t, "S -> A A\nA -> a A\nA -> a\n", "a a a a : (0 (2 a) (1 a (1 a (2 a))))")
	checkTrees(t, "S -> A A\nA -> A a\nA -> a\n", "a a a a : (0 (2 a) (1 (1 (2 a) a) a))")
	checkTrees(t, "S -> A b A\nA -> A b A\nA -> a\n", "a b a b a : (0 (2 a) b (1 (2 a) b (2 a)))")
	// What stands at the left goes on behind the first way of all others.
	checkTrees(t, "S -> S S\nS -> a\n", "a a : (0 (1 a) (1 a))", "a a a : (0 (1 a) (0 (1 a) (1 a)))")
}

// A token's tree is its leaf, in whatever place.
func TestParseOfLeaves(t *testing.T) {
	got := impl.Parse(ready(t, "S -> ab S cde\nS -> abcd x\n"), words("ab abcd x cde"))
	sameTree(t, "leaves", got.Tree, node(0, leaf("ab"), node(1, leaf("abcd"), leaf("x")), leaf("cde")))
	same(t, "Code", got.Code, impl.OK)
	checkAts(t, "S -> ab S cde\nS -> abcd x\n", "a : 0", "ab : 1", "abc : 0", "ab ab x : 2", "ab abcd x cd : 3", "ab abcd x cdef : 3")
}

// Where there is no tree.

func TestParseAt(t *testing.T) {
	e := "E -> E p T\nE -> T\nT -> n\n"
	// The text ends too early.
	checkAts(t, e, "n p : 2", "n p n p : 4", " : 0")
	checkAts(t, "S -> a b c\n", "a : 1", "a b : 2")
	// A token stands there that none looked for, also right at the beginning.
	checkAts(t, e, "n n : 1", "p : 0", "p n : 0", "n p p : 2", "n p n n : 3", "n x p : 1", "n p p n p : 2")
	checkAts(t, "S -> a b c\n", "b : 0", "a a : 1", "a b b : 2", "a c b : 1", "c a b : 0")
	// The start ends ahead of the text's end, and no token is looked for there.
	checkAts(t, "S -> a\n", "a a : 1", "a b : 1", "a b c d : 1", "b : 0")
	checkAts(t, "S -> a b\nS -> c\n", "a b a : 2", "c a b : 1", "c c : 1", "b : 0", "a : 1")
	checkAts(t, "S -> A B\nA -> a\nB -> b\nB -> ~\n", "a b b : 2", "a a : 1", "b a : 0")
	// It comes to nothing alone.
	checkAts(t, "S -> ~\n", "a : 0", "a a : 0", "b c : 0")
	checkAts(t, "S -> A A\nA -> ~\n", "a : 0")
	checkAts(t, "S -> a S\nS -> ~\n", "b : 0", "a b : 1", "a a b a : 2")
	// One way ends, or comes to its end, where another one goes on.
	checkAts(t, "S -> a\nS -> a b c\n", "a b : 2", "a c : 1", "a b d : 2")
	checkAts(t, "S -> a b c\nS -> a\n", "a b : 2", "a c : 1", "a b d : 2")
	checkAts(t, "S -> A c\nA -> a\nA -> a b b\n", "a b c : 2", "a b b : 3", "a : 1", "a b b d : 3", "a c c : 2")
	checkAts(t, "S -> A x\nS -> a a a a y\nA -> a\nA -> a A\n", "a a a a a z : 5", "a a a a : 4", "a a a a z : 4", "a x x : 2")
	// What is looked for only where the first piece is not the shortest.
	checkAts(t, "S -> A B d\nA -> a\nA -> a b\nB -> b\nB -> c c\n", "a b c d : 3", "a b c c : 4", "a b c c c : 4", "a b a : 2")
	// Further on in a Body of which the first symbols come from another head.
	checkAts(t, "S -> A c d\nA -> S b\nA -> a\n", "a c d b c : 5", "a c d b d : 4", "a c d c : 3", "a c c : 2")
	// A Rule that is not useful does not count.
	checkAts(t, "S -> a\nS -> a T\nT -> b T\n", "a b : 1", "a b b : 1")
	checkAts(t, "S -> a\nT -> a b\n", "a b : 1", "b : 0")
}

// The longest right texts.
func TestParseOfMostTokens(t *testing.T) {
	list := "S -> S a\nS -> ~\n"
	deep := strings.Repeat("(0 ", mostTokens) + "(1)" + strings.Repeat(" a)", mostTokens)
	checkTrees(t, list, strings.Join(many("a", mostTokens), " ")+" : "+deep)
	checkAts(t, list, strings.Join(append(many("a", mostTokens-1), "b"), " ")+fmt.Sprint(" : ", mostTokens-1))
	checkAts(t, "S -> a S b\nS -> b\n", strings.Join(many("a", mostTokens), " ")+fmt.Sprint(" : ", mostTokens))
	checkAts(t, "S -> a S\nS -> b\n", strings.Join(many("a", mostTokens), " ")+fmt.Sprint(" : ", mostTokens))
}

// What is not right.

func checkRead(t *testing.T, what string, got impl.ParseOut, code int64) {
	t.Helper()
	same(t, "Code, "+what, got.Code, code)
	same(t, "all else zero, "+what, reflect.DeepEqual(got, impl.ParseOut{Code: code}), true)
}

func TestParseOfTextsThatAreNotRight(t *testing.T) {
	c := ready(t, "S -> S S\nS -> a\nT -> a\n")
	some := ready(t, "S -> ~\nS -> a S\n")
	for _, x := range []string{
		"", "A", "S", "T", "S+", "Ab", "aB", "abcde", "a1", "~", "->", "a ", " a", "a b", "a\n", "\u00e4", "\xff", "a\x00",
		strings.Repeat("a", impl.MaxBytes), strings.Repeat("a", impl.MaxBytes+1),
	} {
		for at := range mostTokens {
			w := many("a", mostTokens)
			w[at] = x
			for _, w := range [][]string{w, w[:at+1], {"b", x}} {
				what := fmt.Sprintf("%.99q", w)
				checkRead(t, "Parse of "+what, impl.Parse(c, w), impl.ErrForm)
				checkRead(t, "ReadAll of "+what, impl.ReadAll(some.Gram, w), impl.ErrForm)
				same(t, "Accepts of "+what, impl.Accepts(some, w), false)
			}
		}
	}
	// As many as may be, more, the most that may be handed in, and more.
	for n, code := range map[int]int64{
		mostTokens: impl.OK, mostTokens + 1: impl.ErrForm, impl.MaxList: impl.ErrForm, impl.MaxList + 1: impl.ErrSize, 5 * impl.MaxList: impl.ErrSize,
	} {
		w := many("a", n)
		same(t, fmt.Sprint("Parse of ", n), impl.Parse(some, w).Code, code)
		same(t, fmt.Sprint("ReadAll of ", n), impl.ReadAll(some.Gram, w).Code, code)
		same(t, fmt.Sprint("Accepts of ", n), impl.Accepts(some, w), code == impl.OK)
		if code != impl.OK {
			checkRead(t, fmt.Sprint("Parse of ", n), impl.Parse(some, w), code)
			checkRead(t, fmt.Sprint("ReadAll of ", n), impl.ReadAll(some.Gram, w), code)
		}
		// With what is not made ready it is asked ahead of that, too.
		if code != impl.ErrSize {
			code = impl.ErrForm
		}
		checkRead(t, fmt.Sprint("Parse by none, of ", n), impl.Parse(impl.Comp{}, w), code)
		checkRead(t, fmt.Sprint("ReadAll by none, of ", n), impl.ReadAll(impl.Gram{}, w), code)
	}
}

// readTexts is right texts, and such that are not.
func readTexts() [][]string {
	return [][]string{nil, {"a"}, {"b"}, {"a", "b"}, many("a", mostTokens), {"A"}, many("a", mostTokens+1)}
}

// checkNotReady fails the test if a Comp is not refused, whatever the text.
func checkNotReady(t *testing.T, what string, c impl.Comp) {
	t.Helper()
	for _, w := range readTexts() {
		checkRead(t, fmt.Sprint("Parse of ", w, ", ", what), impl.Parse(c, w), impl.ErrForm)
		same(t, fmt.Sprint("Accepts ", w, ", ", what), impl.Accepts(c, w), false)
	}
	checkRead(t, "Parse of too long a list, "+what, impl.Parse(c, make([]string, impl.MaxList+1)), impl.ErrSize)
}

// readyComp is what Compile makes of a Gram, with each field filled.
func readyComp(t *testing.T) impl.Comp {
	return ready(t, "S -> S a A\nS -> A A\nA -> ~\nA -> b a\n")
}

// readyTurns is ways to turn one field of a readyComp, by where it is.
func readyTurns() map[string]func(c *impl.Comp) {
	return map[string]func(c *impl.Comp){
		"Has":                         func(c *impl.Comp) { c.Has = false },
		"Null, zero":                  func(c *impl.Comp) { c.Null = impl.Term{} },
		"Null, Kind":                  func(c *impl.Comp) { c.Null.Kind = impl.TmPlug },
		"Null, N":                     func(c *impl.Comp) { c.Null.N = 0 },
		"Null, a Kid less":            func(c *impl.Comp) { c.Null.Kids = c.Null.Kids[:1] },
		"Null, a Kid more":            func(c *impl.Comp) { c.Null.Kids = append(c.Null.Kids, tmNode(2)) },
		"Null, deep, Kind":            func(c *impl.Comp) { c.Null.Kids[1].Kind = impl.TmVar },
		"Null, deep, N":               func(c *impl.Comp) { c.Null.Kids[1].N = 3 },
		"Null, deep, a Kid":           func(c *impl.Comp) { c.Null.Kids[0].Kids = []impl.Term{tmBox()} },
		"Null, another right one":     func(c *impl.Comp) { c.Null = tmNode(1, tmNode(2), tmNode(1, tmNode(2), tmNode(2))) },
		"Rules, none":                 func(c *impl.Comp) { c.Rules = nil },
		"Rules, one less":             func(c *impl.Comp) { c.Rules = c.Rules[:len(c.Rules)-1] },
		"Rules, one more":             func(c *impl.Comp) { c.Rules = append(c.Rules, made("S -> x : (0 $0)")) },
		"Rules, one again":            func(c *impl.Comp) { c.Rules = append(c.Rules, c.Rules[0]) },
		"Rules, two swapped":          func(c *impl.Comp) { c.Rules[0], c.Rules[1] = c.Rules[1], c.Rules[0] },
		"Rules, the other way round":  func(c *impl.Comp) { slices.Reverse(c.Rules) },
		"Rules, Head":                 func(c *impl.Comp) { c.Rules[0].Head = "A" },
		"Rules, the last Head":        func(c *impl.Comp) { c.Rules[len(c.Rules)-1].Head = "A+" },
		"Rules, Body":                 func(c *impl.Comp) { c.Rules[0].Body[0] = "b" },
		"Rules, Body, one less":       func(c *impl.Comp) { c.Rules[1].Body = c.Rules[1].Body[:1] },
		"Rules, Body, one more":       func(c *impl.Comp) { c.Rules[0].Body = append(c.Rules[0].Body, "a") },
		"Rules, Body, none":           func(c *impl.Comp) { c.Rules[0].Body = nil },
		"Rules, Body, its own Head":   func(c *impl.Comp) { c.Rules[0].Body = []string{c.Rules[0].Head} },
		"Rules, Term, zero":           func(c *impl.Comp) { c.Rules[0].Term = impl.Term{} },
		"Rules, Term, N":              func(c *impl.Comp) { c.Rules[0].Term.N++ },
		"Rules, Term, Kind":           func(c *impl.Comp) { c.Rules[1].Term.Kind = impl.TmNode },
		"Rules, the last Term, a Kid": func(c *impl.Comp) { c.Rules[len(c.Rules)-1].Term.Kids = nil },
		"Rules, Term, without end":    func(c *impl.Comp) { c.Rules[0].Term.Kids[0] = termWithoutEnd() },
		"Null, without end":           func(c *impl.Comp) { c.Null.Kids[1] = termWithoutEnd() },
		"Null, very deep":             func(c *impl.Comp) { c.Null.Kids[1] = deepTerm(300000, inNode, tmVar(0)) },
		"Null, very large":            func(c *impl.Comp) { c.Null.Kids[1] = doubledTerm(300) },
		"Gram, zero":                  func(c *impl.Comp) { c.Gram = impl.Gram{} },
		"Gram, a Rule less":           func(c *impl.Comp) { c.Gram.Rules = c.Gram.Rules[:3] },
		"Gram, a Rule more":           func(c *impl.Comp) { c.Gram.Rules = append(c.Gram.Rules, rule("A", "c")) },
		"Gram, two Rules swapped":     func(c *impl.Comp) { c.Gram.Rules[0], c.Gram.Rules[1] = c.Gram.Rules[1], c.Gram.Rules[0] },
		"Gram, Head":                  func(c *impl.Comp) { c.Gram.Rules[3].Head = "S" },
		"Gram, Body":                  func(c *impl.Comp) { c.Gram.Rules[3].Body[0] = "c" },
		"Gram, Body, one less":        func(c *impl.Comp) { c.Gram.Rules[1].Body = words("A") },
		"Gram, not right":             func(c *impl.Comp) { c.Gram.Rules[3].Head = "a" },
		"Gram, undefined":             func(c *impl.Comp) { c.Gram.Rules[3].Body[0] = "B" },
		"Gram, no tokens":             func(c *impl.Comp) { c.Gram.Rules = []impl.Rule{rule("S", "S", "a")} },
		"Gram, round":                 func(c *impl.Comp) { c.Gram.Rules = append(c.Gram.Rules, rule("S", "S")) },
		"Gram, too much":              func(c *impl.Comp) { c.Gram = longEmpties() },
	}
}

// termWithoutEnd is a term whose list of Kids holds itself.
func termWithoutEnd() impl.Term {
	kids := make([]impl.Term, 1)
	kids[0] = impl.Term{Kind: impl.TmNode, N: 2, Kids: kids}
	return kids[0]
}

// What is not what Compile makes of its Gram is refused, in each field alone.
func TestParseOfWhatIsNotMadeReady(t *testing.T) {
	checkTrees(t, impl.GramText(readyComp(t).Gram), " : (1 (2) (2))", "b a a : (0 (1 (2) (3 b a)) a (2))")
	for what, turn := range readyTurns() {
		c := readyComp(t)
		turn(&c)
		checkNotReady(t, what, c)
	}
	for what, turn := range turns() {
		c := fullComp()
		turn(&c)
		checkNotReady(t, "fullComp, "+what, c)
	}
	checkNotReady(t, "fullComp", fullComp())
	checkNotReady(t, "none", impl.Comp{})
	for what, g := range wrongGrams() {
		checkNotReady(t, what, impl.Comp{Gram: g})
		checkNotReady(t, what+", with Rules of another", impl.Comp{Gram: g, Rules: readyComp(t).Rules})
	}
	// What is zero beside a code is no Comp of that Gram.
	for _, text := range []string{"S -> Q\n", "S -> S a\n", "S -> S\nS -> a\n", "S -> a\nS -> A\nA -> S\n"} {
		checkNotReady(t, text, impl.Comp{Gram: read(t, text)})
		checkNotReady(t, text+" of Compile", impl.Compile(read(t, text)).Comp)
	}
}

// What was made of another Gram is right, if it is the same.
func TestParseOfWhatIsMadeElsewhere(t *testing.T) {
	c := readyComp(t)
	other := c
	other.Gram = copyGram(c.Gram)
	other.Gram.Rules = append(other.Gram.Rules, rule("T", "t"), rule("T"))
	checkParse(t, other, words("b a a b a"), impl.Parse(c, words("b a a b a")))
	checkParse(t, other, words("b a t"), impl.ParseOut{At: 2, Code: impl.ErrSyntax})
	// Empty lists for none.
	c = ready(t, "S -> a\nS -> ~\n")
	c.Gram.Rules[1].Body, c.Null.Kids = []string{}, []impl.Term{}
	c.Rules[0].Term.Kids[0].Kids = make([]impl.Term, 0, 4)
	checkParse(t, c, words("a"), impl.ParseOut{Tree: node(0, leaf("a"))})
	c = ready(t, "S -> ~\n")
	c.Rules = []impl.Made{}
	checkParse(t, c, nil, impl.ParseOut{Tree: node(0)})
}

// ReadAll tells each code of Compile, whatever the text, but that there is too
// much of it; then those of Parse.
func TestReadAllFaults(t *testing.T) {
	faults := map[string]int64{
		"S -> A\n": impl.ErrNone, "S -> a\nT -> Q\n": impl.ErrNone, "S -> S Q\n": impl.ErrNone,
		"S -> S a\n": impl.ErrRange, "S -> S\n": impl.ErrRange, "S -> T\nT -> S a\n": impl.ErrRange,
		"S -> S\nS -> a\n": impl.ErrState, "S -> a\nS -> A\nA -> S\n": impl.ErrState, "S -> A S A\nS -> a\nA -> ~\n": impl.ErrState,
		"A -> a a a a a\nB -> A b b b b\nC -> B c c c c\nA -> x C\n": impl.ErrFull, "S -> a a N\n" + nullOf198: impl.ErrFull,
	}
	grams := map[string]impl.Gram{"too much": longEmpties(), "too much, too": manySaid(rule("S", "q"))}
	for text := range faults {
		grams[text] = read(t, text)
	}
	for text, g := range wrongGrams() {
		grams[text], faults[text] = g, impl.ErrForm
	}
	faults["too much"], faults["too much, too"] = impl.ErrFull, impl.ErrFull
	for what, g := range grams {
		for _, w := range readTexts() {
			checkRead(t, fmt.Sprint("ReadAll of ", w, " by ", what), impl.ReadAll(g, w), faults[what])
		}
		checkRead(t, "ReadAll of too long a list by "+what, impl.ReadAll(g, make([]string, impl.MaxList+1)), impl.ErrSize)
	}
	g := read(t, "S -> a b\n")
	checkRead(t, "a text that is not right", impl.ReadAll(g, words("a B")), impl.ErrForm)
	sameDeep(t, "a text that is not said", impl.ReadAll(g, words("a a")), impl.ParseOut{At: 1, Code: impl.ErrSyntax})
	sameTree(t, "a text that is said", impl.ReadAll(g, words("a b")).Tree, node(0, leaf("a"), leaf("b")))
}

// At the limits.

// As each symbol comes to a token at least, and ahead of the longest Body there
// stands another one, such a Body is longer than what is left of a text.
func TestParseOfMostSymbols(t *testing.T) {
	most := "A -> a a a a a\nB -> A b b b b\nC -> B c c c\nA -> x C\n"
	longest := 0
	for _, m := range ready(t, most).Rules {
		longest = max(longest, len(m.Body))
	}
	same(t, "how long", longest, 12)
	checkAts(t, most, "x a a a a a b b b b c c : 12", "x a a a a a b b b b c b : 11", "x a a a a a b b b c : 9", "a a a a : 4")
	checkTrees(t, strings.Replace(most, "c c c", "c c", 1), "x a a a a a b b b b c c : (3 x (2 (1 (0 a a a a a) b b b b) c c))", "a a a a a : (0 a a a a a)")
}

// Many Rules, of many ways to cut: each has one, or only the last one has.
func TestParseByManyWays(t *testing.T) {
	for _, text := range []string{
		"A -> N N N N N\nB -> A N N N N\nC -> B N N\nA -> x C\nN -> a\nN -> a a\nN -> N a a\n",
		"A -> N N N N N\nB -> A N N N N\nC -> B N N y\nA -> x C\nN -> a\nN -> a N\nN -> N a a\n",
		"S -> S S S S S\nS -> S S S S\nS -> S S S\nS -> S S\nS -> a\n",
		"S -> S S\nS -> S S S a\nS -> a S S S S\nS -> a a\nS -> a\n",
		"S -> T T T T T\nT -> U U U U U\nU -> S a\nS -> T T\nT -> U U\nU -> a\nU -> a a\nS -> a\n",
		"S -> A S S a\nA -> S\nS -> a A a a\nS -> a\nS -> A a A S A\nA -> S S\nS -> S a a\nA -> S A S S S\nS -> A a a A a\nS -> S a a A A\nA -> a S a\n",
		impl.GramText(manySaid()),
	} {
		c := ready(t, text)
		for n := range mostTokens + 1 {
			for _, first := range words("a x b") {
				for _, last := range words("a y b") {
					w := many("a", n)
					if n > 0 {
						w[0], w[n-1] = first, last
					}
					checkParse(t, c, w, parseBy(c, w))
				}
			}
		}
	}
}

// A tree may be larger than a right one may be, and the empty tree than a right
// term tells.
func TestParseOfLargeTrees(t *testing.T) {
	c := ready(t, "S -> a N S\nS -> ~\n"+strings.Replace(nullOf198, " X", "", 1))
	for _, n := range []int{0, 1, 2, 7, mostTokens} {
		w := many("a", n)
		got := impl.Parse(c, w)
		checkParse(t, c, w, parseBy(c, w))
		same(t, "right", rightBy(c.Gram, "S", got.Tree), true)
		sameDeep(t, "text", yieldBy(got.Tree), append([]string{}, w...))
		same(t, "how large", sizeBy(got.Tree), int64(197*n+1))
	}
}

// wideOrToken is wideNulls of which the start, too, comes to a token.
func wideOrToken(heads int, many int) impl.Gram {
	g := wideNulls(heads, many)
	g.Rules[heads] = rule(g.Rules[0].Head, "a")
	return g
}

// checkEmptyTree fails the test if the empty text is not read as the Null has it,
// by a tree of that size, whose lists share no memory.
func checkEmptyTree(t *testing.T, g impl.Gram, size int64) {
	t.Helper()
	c := impl.Compile(g).Comp
	text := impl.GramText(g)
	checkParse(t, c, nil, parseBy(c, nil))
	checkParse(t, c, []string{}, parseBy(c, nil))
	met := fresh[impl.Tree]{seen: map[*impl.Tree]bool{}, kids: func(x impl.Tree) []impl.Tree { return x.Kids }}
	for _, got := range []impl.ParseOut{impl.Parse(c, nil), impl.ReadAll(g, nil), impl.Parse(c, nil)} {
		same(t, "Code, "+text, got.Code, impl.OK)
		same(t, "right, "+text, rightBy(g, g.Rules[0].Head, got.Tree), true)
		same(t, "nothing is said, "+text, len(yieldBy(got.Tree)), 0)
		same(t, "how large, "+text, sizeBy(got.Tree), size)
		same(t, "Says, "+text, impl.Says(g, nil, got.Tree), size <= impl.MaxTree)
		same(t, "memory, "+text, met.meet(got.Tree), true)
	}
}

// No limit on the tree of the empty text but what memory holds: its Null may be
// no right Term.
func TestParseOfLargeEmptyTrees(t *testing.T) {
	checkEmptyTree(t, read(t, "S -> a\nS -> N E\n"+nullOf198), impl.MaxTree)
	checkEmptyTree(t, read(t, "S -> a\nS -> N E E\n"+nullOf198), impl.MaxTree+1)
	checkEmptyTree(t, read(t, "S -> a\nS -> N E\nS -> N N N N N\n"+nullOf198), impl.MaxTree)
	checkEmptyTree(t, read(t, "S -> a\nS -> N N N N N\nS -> N E\n"+nullOf198), 1+5*198)
	for _, c := range []struct {
		heads, many int
		size        int64
	}{{3, 5, 31}, {4, 5, 156}, {5, 5, 781}, {9, 5, 488281}, {16, 2, 65535}, {18, 1, 18}} {
		g := wideOrToken(c.heads, c.many)
		checkEmptyTree(t, g, c.size)
		checkParse(t, impl.Compile(g).Comp, words("a"), impl.ParseOut{Tree: node(int64(c.heads), leaf("a"))})
		checkParse(t, impl.Compile(g).Comp, words("a b"), impl.ParseOut{At: 1, Code: impl.ErrSyntax})
	}
	// A tree of millions of nodes.
	same(t, "very large", emptyIs(impl.ReadAll(wideOrToken(11, 5), nil).Tree, 0, 11, 5), true)
	// No memory holds this one, and no answer has its Null.
	none := wideOrToken(impl.MaxRules-1, impl.MaxBody)
	checkParse(t, impl.Compile(none).Comp, nil, impl.ParseOut{})
	checkParse(t, impl.Compile(none).Comp, words("a"), impl.ParseOut{Tree: node(impl.MaxRules-1, leaf("a"))})
	checkParse(t, impl.Compile(none).Comp, words("b"), impl.ParseOut{Code: impl.ErrSyntax})
	c := impl.Compile(none).Comp
	c.Null = tmNode(0)
	checkNotReady(t, "a Null in the place of one that no memory holds", c)
}

// emptyIs tells whether the tree of a Null of wideNulls is as it should be.
func emptyIs(x impl.Tree, n int, heads int, many int) bool {
	if n == heads-1 {
		many = 0
	}
	if x.Rule != int64(n) || x.Tok != "" || len(x.Kids) != many {
		return false
	}
	return !slices.ContainsFunc(x.Kids, func(kid impl.Tree) bool { return !emptyIs(kid, n+1, heads, many) })
}

// Each call answers, whatever Comps are handed in.
func TestParseOfWhateverComps(t *testing.T) {
	defer debug.SetMaxStack(debug.SetMaxStack(4 << 20))
	for what, x := range map[string]impl.Term{
		"without end": termWithoutEnd(), "very deep": deepTerm(300000, inNode, tmNode(0)), "very large": doubledTerm(300),
	} {
		c := ready(t, "S -> ~\nS -> a b\n")
		c.Null.Kids = []impl.Term{x}
		checkNotReady(t, "Null "+what, c)
		c = ready(t, "S -> ~\nS -> a b\n")
		c.Rules[0].Term = x
		checkNotReady(t, "Rules "+what, c)
	}
	c := ready(t, "S -> a\n")
	c.Rules = append(c.Rules, manyMades(impl.MaxList+1)...)
	checkNotReady(t, "too many Rules", c)
	c = ready(t, "S -> a\n")
	c.Gram.Rules = slices.Repeat(c.Gram.Rules, impl.MaxList+1)
	checkNotReady(t, "too many Rules of the Gram", c)
	c = ready(t, "S -> a\n")
	c.Rules[0].Body = many("a", impl.MaxList+1)
	checkNotReady(t, "too long a Body", c)
}

// Promise 10.

// checkTold fails the test if what was read of a text is not as promised.
func checkTold(t *testing.T, g impl.Gram, w []string, got impl.ParseOut) {
	t.Helper()
	what := fmt.Sprint(w, " by ", impl.GramText(g))
	same(t, "read, "+what, got.Code == impl.OK, impl.Derives(g, w))
	if got.Code == impl.OK {
		same(t, "right, "+what, rightBy(g, g.Rules[0].Head, got.Tree), true)
		same(t, "the text, "+what, strings.Join(yieldBy(got.Tree), " "), strings.Join(w, " "))
		same(t, "Says, "+what, impl.Says(g, w, got.Tree), impl.SizeOf(got.Tree) <= impl.MaxTree)
		same(t, "At, "+what, got.At, 0)
		return
	}
	same(t, "Code, "+what, got.Code, impl.ErrSyntax)
	same(t, "At, "+what, got.At, impl.Viable(g, w))
}

func TestWhatIsRead(t *testing.T) {
	r := rand.New(rand.NewSource(38))
	count := map[string]int{}
	for range 9000 {
		if t.Failed() {
			return
		}
		g := compGram(t, r)
		if r.Intn(4) == 0 {
			// With one token alone there are more ways to cut.
			for _, one := range g.Rules {
				for i, x := range one.Body {
					if impl.IsToken(x) {
						one.Body[i] = "a"
					}
				}
			}
		}
		out := impl.Compile(g)
		w := saidText(r, g, mostTokens)
		if out.Code != impl.OK {
			same(t, "Code of Compile, "+impl.GramText(g), impl.ReadAll(g, w).Code, out.Code)
			count["not ready"]++
			continue
		}
		want := parseBy(out.Comp, w)
		checkParse(t, out.Comp, w, want)
		checkTold(t, g, w, impl.Parse(out.Comp, w))
		count[fmt.Sprint("code ", want.Code)]++
		count[fmt.Sprint("at ", min(want.At, 4))]++
		count[fmt.Sprint("longer than 5 ", len(w) > 5)]++
		count[fmt.Sprint("ends too early ", want.Code != impl.OK && want.At == int64(len(w)))]++
	}
	enough(t, count, map[string]int{
		"not ready": 1000, "code 0": 1000, "code 3": 1000, "at 1": 200, "at 2": 100, "at 3": 50, "at 4": 100,
		"longer than 5 true": 500, "longer than 5 false": 500, "ends too early true": 200,
	})
}

// A Comp that was turned is read by just if it is the same, after all.
func TestWhatIsTurnedIsRefused(t *testing.T) {
	r := rand.New(rand.NewSource(39))
	count := map[bool]int{}
	for range 4000 {
		g := compGram(t, r)
		out := impl.Compile(g)
		if out.Code != impl.OK {
			continue
		}
		c := turnComp(r, out.Comp)
		of := impl.Compile(c.Gram)
		made := of.Code == impl.OK && compText(of.Comp) == compText(c)
		w := saidText(r, g, 5)
		got := impl.Parse(c, w)
		if made {
			checkParse(t, c, w, parseBy(c, w))
		} else {
			checkRead(t, "turned "+compText(c), got, impl.ErrForm)
		}
		count[made]++
	}
	if count[true] < 300 || count[false] < 300 {
		t.Errorf("%v: too few", count)
	}
}

// Chapter 1.

// wholeTexts is a text of all texts of a list, and of those in the room behind.
func wholeTexts(w []string) string {
	return fmt.Sprintf("%d %q", len(w), w[:cap(w)])
}

// What is handed in stays as it was, the room behind it too; no two lists of an
// answer share memory, nor do they with another answer, and the next answer is
// the same.
func TestCompsStayAsTheyWereRead(t *testing.T) {
	r := rand.New(rand.NewSource(40))
	read := 0
	for range 2500 {
		if t.Failed() {
			return
		}
		g := compGram(t, r)
		out := impl.Compile(g)
		c := impl.Comp{Gram: gramWithRoom(out.Comp.Gram), Rules: madesWithRoom(out.Comp.Rules), Has: out.Comp.Has, Null: termWithRoom(out.Comp.Null)}
		if out.Code != impl.OK {
			c.Gram = gramWithRoom(g)
		}
		w := saidText(r, g, mostTokens)
		w = append(append(make([]string, 0, len(w)+2), w...), "b", "a")[:len(w)]
		whole := func() string {
			return wholeGram(c.Gram) + wholeMades(c.Rules) + fmt.Sprint(c.Has) + wholeTerm(c.Null) + wholeTexts(w)
		}
		was := whole()
		met := fresh[impl.Tree]{seen: map[*impl.Tree]bool{}, kids: func(x impl.Tree) []impl.Tree { return x.Kids }}
		first := impl.Parse(c, w)
		text := parseText(first)
		same(t, "Accepts, "+was, impl.Accepts(c, w), first.Code == impl.OK)
		for _, out := range []impl.ParseOut{first, impl.Parse(c, w), impl.ReadAll(c.Gram, w), impl.ReadAll(c.Gram, w)} {
			if first.Code != impl.ErrForm {
				same(t, "the same answer, "+was, parseText(out), text)
			}
			same(t, "memory of the answer, "+was, met.meet(out.Tree), true)
			spoilTree(&out.Tree)
		}
		same(t, "changed", whole(), was)
		if first.Code != impl.ErrForm {
			same(t, "asked again", parseText(impl.Parse(c, w)), text)
		}
		if first.Code == impl.OK {
			read++
		}
	}
	if read < 400 {
		t.Errorf("%d were read: too few", read)
	}
}
