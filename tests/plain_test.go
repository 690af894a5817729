package tests

import (
	"fmt"
	"math/rand"
	"runtime/debug"
	"slices"
	"strings"
	"testing"

	"loop.example/g00828/impl"
)

// made is the Made of a line as MadesText gives it, without its line feed.
func made(line string) impl.Made {
	symbols, told, _ := strings.Cut(line, " :")
	l := words(symbols)
	out := impl.Made{Head: l[0], Body: l[2:]}
	if len(words(told)) > 0 {
		out.Term = term(told)
	}
	return out
}

// mades is the Mades of a text as MadesText gives it.
func mades(text string) []impl.Made {
	var out []impl.Made
	for line := range strings.Lines(text) {
		out = append(out, made(strings.TrimSuffix(line, "\n")))
	}
	return out
}

// allOf is a text of all that Mades hold.
func allOf(l []impl.Made) string {
	var out strings.Builder
	for _, m := range l {
		fmt.Fprintf(&out, "%q %q %v\n", m.Head, m.Body, m.Term)
	}
	return out.String()
}

// sameMades fails the test if Mades are others than are wanted, in whatever
// they hold. An empty list and none are the same.
func sameMades(t *testing.T, what string, got []impl.Made, want []impl.Made) {
	t.Helper()
	if g, w := allOf(got), allOf(want); g != w {
		t.Errorf("%.600s: got %.900s, want %.900s", what, g, w)
	}
}

// nullsText is a line for each Null: its Head, a colon, and its Term.
func nullsText(l []impl.Null) string {
	var out strings.Builder
	for _, x := range l {
		fmt.Fprintf(&out, "%s: %s\n", x.Head, impl.TermText(x.Term))
	}
	return out.String()
}

// What chapter 8 says, read plainly.

func madesTextBy(l []impl.Made) string {
	var out strings.Builder
	for _, m := range l {
		told := ""
		if termRightBy(m.Term) {
			told = termTextBy(m.Term)
		}
		out.WriteString(strings.Join(slices.Concat([]string{m.Head, "->"}, m.Body), " ") + " : " + told + "\n")
	}
	return out.String()
}

func givenBy(g impl.Gram) []impl.Made {
	var out []impl.Made
	for _, n := range (toldBy{g, map[string]bool{}}).useful() {
		one := impl.Made{Head: g.Rules[n].Head, Body: g.Rules[n].Body, Term: tmNode(n)}
		for i := range one.Body {
			one.Term.Kids = append(one.Term.Kids, tmVar(int64(i)))
		}
		out = append(out, one)
	}
	return out
}

// nullsBy is the Null of each head that has one. In as many rounds as there
// are Rules each has its turn.
func nullsBy(g impl.Gram) map[string]impl.Term {
	out := map[string]impl.Term{}
	for range g.Rules {
		for _, n := range (toldBy{g, map[string]bool{}}).useful() {
			one := tmNode(n)
			for _, x := range g.Rules[n].Body {
				if null, there := out[x]; there {
					one.Kids = append(one.Kids, copyTerm(null))
				}
			}
			if _, there := out[g.Rules[n].Head]; !there && len(one.Kids) == len(g.Rules[n].Body) {
				out[g.Rules[n].Head] = one
			}
		}
	}
	return out
}

// laidBy is Mades with one more behind them, if none is like it.
func laidBy(l []impl.Made, m impl.Made) []impl.Made {
	alike := func(x impl.Made) bool { return x.Head == m.Head && slices.Equal(x.Body, m.Body) }
	if slices.ContainsFunc(l, alike) {
		return l
	}
	return append(l, m)
}

// noEmptyBy goes through the ways, and puts the Nulls in with its own hands. One
// that is not right can't be put in.
func noEmptyBy(g impl.Gram) []impl.Made {
	nulls := nullsBy(g)
	var laid []impl.Made
	for _, m := range givenBy(g) {
		var places []int
		for i, x := range m.Body {
			if _, there := nulls[x]; there {
				places = append(places, i)
			}
		}
		ways := 1
		for range places {
			ways *= 2
		}
		for way := range ways {
			one := impl.Made{Head: m.Head, Term: tmNode(m.Term.N)}
			wrong := false
			for i, x := range m.Body {
				bit := slices.Index(places, i)
				if bit >= 0 && way>>bit%2 == 1 {
					wrong = wrong || !termRightBy(nulls[x])
					one.Term.Kids = append(one.Term.Kids, copyTerm(nulls[x]))
					continue
				}
				one.Term.Kids = append(one.Term.Kids, tmVar(int64(len(one.Body))))
				one.Body = append(one.Body, x)
			}
			if wrong {
				one.Term = impl.Term{}
			}
			if len(one.Body) > 0 {
				laid = laidBy(laid, one)
			}
		}
	}
	return cleanBy(laid, g.Rules[0].Head)
}

// putInRightBy is putInBy, of right terms alone.
func putInRightBy(x impl.Term, in impl.Term, many int) impl.Term {
	if !termRightBy(x) || !termRightBy(in) {
		return impl.Term{}
	}
	return putInBy(x, 0, in, int64(many))
}

func oneHeadBy(m impl.Made) bool {
	return len(m.Body) == 1 && !impl.IsToken(m.Body[0])
}

func noUnitBy(l []impl.Made, start string) []impl.Made {
	var laid []impl.Made
	var done []string
	for _, first := range l {
		if slices.Contains(done, first.Head) {
			continue
		}
		done = append(done, first.Head)
		heads, terms := []string{first.Head}, []impl.Term{tmVar(0)}
		for at := 0; at < len(heads); at++ {
			for _, m := range l {
				if m.Head == heads[at] && oneHeadBy(m) && !slices.Contains(heads, m.Body[0]) {
					heads = append(heads, m.Body[0])
					terms = append(terms, putInRightBy(terms[at], m.Term, 1))
				}
			}
		}
		for i, head := range heads {
			for _, m := range l {
				if m.Head == head && !oneHeadBy(m) {
					put := putInRightBy(terms[i], m.Term, len(m.Body))
					laid = laidBy(laid, impl.Made{Head: first.Head, Body: m.Body, Term: put})
				}
			}
		}
	}
	return cleanBy(laid, start)
}

func cleanBy(l []impl.Made, start string) []impl.Made {
	come, reached := map[string]bool{}, map[string]bool{start: true}
	fruitful := func(m impl.Made) bool {
		return !slices.ContainsFunc(m.Body, func(x string) bool { return !impl.IsToken(x) && !come[x] })
	}
	for range l {
		for _, m := range l {
			come[m.Head] = come[m.Head] || fruitful(m)
		}
	}
	for range l {
		for _, m := range l {
			for _, x := range m.Body {
				reached[x] = reached[x] || reached[m.Head] && fruitful(m) && !impl.IsToken(x)
			}
		}
	}
	var out []impl.Made
	for _, m := range l {
		if fruitful(m) && reached[m.Head] {
			out = append(out, m)
		}
	}
	return out
}

// Given.

func TestGiven(t *testing.T) {
	for _, c := range [][2]string{
		{"S -> a\n", "S -> a : (0 $0)\n"},
		{"S -> ~\n", "S -> : (0)\n"},
		{"S -> A b A\nA -> ~\nA -> a\n", "S -> A b A : (0 $0 $1 $2)\nA -> : (1)\nA -> a : (2 $0)\n"},
		{"S -> a S b S c\nS -> ~\n", "S -> a S b S c : (0 $0 $1 $2 $3 $4)\nS -> : (1)\n"},
		{"E -> E p T\nE -> T\nT -> n\n", "E -> E p T : (0 $0 $1 $2)\nE -> T : (1 $0)\nT -> n : (2 $0)\n"},
		// One whose Body has no Rule, one that is not reached, one that never
		// comes to tokens, and one that is reached by such a one alone.
		{"S -> Q\nS -> a\nB -> b\nS -> C b\nC -> C\nS -> D\nD -> d\n", "S -> a : (1 $0)\nS -> D : (5 $0)\nD -> d : (6 $0)\n"},
		{"S -> C D\nC -> C\nS -> a\nD -> ~\n", "S -> a : (2 $0)\n"},
		{"S -> S a\n", ""},
		// A Rule twice is two Mades: these are not laid.
		{"S -> a\nS -> ~\nS -> a\nS -> ~\n", "S -> a : (0 $0)\nS -> : (1)\nS -> a : (2 $0)\nS -> : (3)\n"},
	} {
		same(t, "Given of "+c[0], impl.MadesText(impl.Given(read(t, c[0]))), c[1])
	}
	got := impl.Given(manyRules(impl.MaxRules))
	same(t, "how many of MaxRules", len(got), impl.MaxRules)
	sameMades(t, "the last one", got[impl.MaxRules-1:], mades("S -> a : (19 $0)\n"))
}

// Nulls.

func TestNulls(t *testing.T) {
	for _, c := range [][2]string{
		{"S -> a\n", ""},
		{"S -> S\n", ""},
		{"S -> ~\n", "S: (0)\n"},
		{"S -> a\nS -> ~\n", "S: (1)\n"},
		{"S -> A b A\nA -> a\nA -> ~\n", "A: (2)\n"},
		// A head of whose Rules several come to nothing.
		{"S -> ~\nS -> ~\n", "S: (0)\n"},
		{"S -> A\nA -> a\nA -> ~\nA -> B\nB -> ~\n", "S: (0 (2))\nA: (2)\nB: (4)\n"},
		// A Rule that stands behind has its turn first.
		{"S -> A\nS -> ~\nA -> ~\n", "S: (1)\nA: (2)\n"},
		{"S -> S\nS -> S S\nS -> S A\nS -> ~\nA -> S S\n", "S: (3)\nA: (4 (3) (3))\n"},
		// What has one is there for the next Rule already.
		{"S -> a\nS -> A B\nA -> ~\nB -> A A\nB -> ~\n", "S: (1 (2) (3 (2) (2)))\nA: (2)\nB: (3 (2) (2))\n"},
		{"S -> a\nA -> ~\nS -> A B\nB -> A\nS -> B\n", "S: (4 (3 (1)))\nA: (1)\nB: (3 (1))\n"},
		// Those made of others' Nulls, from the last on.
		{"S -> A B A\nA -> B B\nB -> C\nC -> ~\nC -> c\n", "S: (0 (1 (2 (3)) (2 (3))) (2 (3)) (1 (2 (3)) (2 (3))))\nA: (1 (2 (3)) (2 (3)))\nB: (2 (3))\nC: (3)\n"},
		{"S -> C A\nB -> ~\nA -> B\nC -> A B\nC -> ~\n", "S: (0 (3 (2 (1)) (1)) (2 (1)))\nB: (1)\nA: (2 (1))\nC: (3 (2 (1)) (1))\n"},
		// In the order of Heads.
		{"S -> Z A M\nZ -> ~\nM -> ~\nA -> ~\n", "S: (0 (1) (3) (2))\nZ: (1)\nM: (2)\nA: (3)\n"},
		// Nullable heads that stand in no Useful Rule.
		{"S -> a\nA -> ~\n", ""},
		{"S -> a\nA -> B\nB -> ~\n", ""},
		{"S -> a\nS -> A Q\nA -> ~\nQ -> Q\n", ""},
		{"S -> B\nA -> ~\nB -> ~\nC -> A B\n", "S: (0 (2))\nB: (2)\n"},
		{"S -> S A\nA -> ~\n", ""},
	} {
		same(t, "Nulls of "+c[0], nullsText(impl.Nulls(read(t, c[0]))), c[1])
	}
}

// Of a chain of as many heads as may be each Null is that of the next one in a
// node.
func TestNullsOfAChain(t *testing.T) {
	got := impl.Nulls(chain(nil, nil))
	same(t, "how many", len(got), impl.MaxRules)
	want := tmNode(impl.MaxRules - 1)
	for i := impl.MaxRules - 1; i >= 0; i-- {
		same(t, "Head", got[i].Head, chainHead(i))
		sameTerm(t, "Null of "+chainHead(i), got[i].Term, want)
		want = tmNode(int64(i-1), want)
	}
}

// wideNulls is a chain of as many heads, of which each comes to that many of
// the next one, and, with a token behind, to some text.
func wideNulls(heads int, many int) impl.Gram {
	var g impl.Gram
	for i := range heads - 1 {
		g.Rules = append(g.Rules, rule(chainHead(i), slices.Repeat([]string{chainHead(i + 1)}, many)...))
	}
	return gram(append(g.Rules, rule(chainHead(heads-1)), rule(chainHead(heads-1), "a"))...)
}

// A Null may be larger than a right Term. It is told as it is, as far as
// memory holds it; and as it can't be put in, the Term is zero where it would
// be.
func TestNullsThatAreTooLarge(t *testing.T) {
	g := wideNulls(6, 5)
	all := nullsBy(g)
	got := impl.Nulls(g)
	same(t, "how many", len(got), 6)
	for _, x := range got {
		sameTerm(t, "Null of "+x.Head, x.Term, all[x.Head])
	}
	same(t, "a right one", impl.TermRight(got[2].Term), true)
	same(t, "one too large", impl.TermRight(got[1].Term), false)
	same(t, "how large", termSizeBy(got[0].Term), 1+5+25+125+625+3125)
	five := slices.Repeat([]string{chainHead(1)}, 5)
	made := impl.NoEmpty(g)
	sameMades(t, "with and without a Null too large", made[:2], []impl.Made{
		{Head: chainHead(0), Body: five, Term: term("(0 $0 $1 $2 $3 $4)")},
		{Head: chainHead(0), Body: five[:4]},
	})
	checkPlain(t, "NoEmpty with Nulls too large", made, false)
	checkPlain(t, "NoUnit with Nulls too large", impl.NoUnit(made, chainHead(0)), true)
}

// nullIs tells whether a Null of wideNulls is as it should be. It looks at each
// of its terms.
func nullIs(x impl.Term, n int, heads int, many int) bool {
	if n == heads-1 {
		many = 0
	}
	if x.Kind != impl.TmNode || x.N != int64(n) || len(x.Kids) != many {
		return false
	}
	for _, kid := range x.Kids {
		if !nullIs(kid, n+1, heads, many) {
			return false
		}
	}
	return true
}

// No limit on how large a Null is but what memory holds: here there are some
// of millions of terms.
func TestNullsThatAreVeryLarge(t *testing.T) {
	for _, c := range [][2]int{{11, 5}, {18, 2}} {
		heads, many := c[0], c[1]
		got := impl.Nulls(wideNulls(heads, many))
		same(t, "how many", len(got), heads)
		for i, x := range got {
			same(t, "Head", x.Head, chainHead(i))
			same(t, "Null of "+x.Head, nullIs(x.Term, i, heads, many), true)
		}
	}
}

// There are Grams of a Null that no memory holds. What is made without these is
// as it should be.
func TestMadesOfNullsThatNoMemoryHolds(t *testing.T) {
	g := wideNulls(impl.MaxRules-1, impl.MaxBody)
	same(t, "Given", impl.MadesText(impl.Given(g)), madesTextBy(givenBy(g)))
	made := impl.NoEmpty(g)
	same(t, "how many Mades", len(made), impl.MaxBody*(impl.MaxRules-2)+1)
	checkPlain(t, "NoEmpty", made, false)
	checkPlain(t, "NoUnit", impl.NoUnit(made, chainHead(0)), true)
}

// NoEmpty.

func TestNoEmpty(t *testing.T) {
	abc := "A -> a\nA -> ~\nB -> b\nB -> ~\nC -> c\nC -> ~\n"
	for _, c := range [][2]string{
		{"S -> a\n", "S -> a : (0 $0)\n"},
		{"S -> ~\n", ""},
		{"S -> a\nS -> ~\n", "S -> a : (0 $0)\n"},
		{"E -> E p T\nE -> T\nT -> n\n", "E -> E p T : (0 $0 $1 $2)\nE -> T : (1 $0)\nT -> n : (2 $0)\n"},
		// One, several and all may be left out, in the order of the ways.
		{"S -> a A b\nA -> a\nA -> ~\n", "S -> a A b : (0 $0 $1 $2)\nS -> a b : (0 $0 (2) $1)\nA -> a : (1 $0)\n"},
		{"S -> A\nA -> a\nA -> ~\n", "S -> A : (0 $0)\nA -> a : (1 $0)\n"},
		{"S -> A b A\nA -> ~\nA -> a\n", "S -> A b A : (0 $0 $1 $2)\nS -> b A : (0 (1) $0 $1)\nS -> A b : (0 $0 $1 (1))\nS -> b : (0 (1) $0 (1))\nA -> a : (2 $0)\n"},
		{"S -> A B C\n" + abc, "S -> A B C : (0 $0 $1 $2)\nS -> B C : (0 (2) $0 $1)\nS -> A C : (0 $0 (4) $1)\nS -> C : (0 (2) (4) $0)\n" +
			"S -> A B : (0 $0 $1 (6))\nS -> B : (0 (2) $0 (6))\nS -> A : (0 $0 (4) (6))\nA -> a : (1 $0)\nB -> b : (3 $0)\nC -> c : (5 $0)\n"},
		{"S -> x A B y C\n" + abc, "S -> x A B y C : (0 $0 $1 $2 $3 $4)\nS -> x B y C : (0 $0 (2) $1 $2 $3)\nS -> x A y C : (0 $0 $1 (4) $2 $3)\nS -> x y C : (0 $0 (2) (4) $1 $2)\n" +
			"S -> x A B y : (0 $0 $1 $2 $3 (6))\nS -> x B y : (0 $0 (2) $1 $2 (6))\nS -> x A y : (0 $0 $1 (4) $2 (6))\nS -> x y : (0 $0 (2) (4) $1 (6))\n" +
			"A -> a : (1 $0)\nB -> b : (3 $0)\nC -> c : (5 $0)\n"},
		// Two ways, of one Rule or of two, that lay the same: the first one stays.
		{"S -> A A\nA -> a\nA -> ~\n", "S -> A A : (0 $0 $1)\nS -> A : (0 (2) $0)\nA -> a : (1 $0)\n"},
		{"S -> A a A\nA -> ~\nA -> A a\nA -> a A\n", "S -> A a A : (0 $0 $1 $2)\nS -> a A : (0 (1) $0 $1)\nS -> A a : (0 $0 $1 (1))\nS -> a : (0 (1) $0 (1))\n" +
			"A -> A a : (2 $0 $1)\nA -> a : (2 (1) $0)\nA -> a A : (3 $0 $1)\n"},
		{"S -> A b\nS -> b\nA -> ~\nA -> a\n", "S -> A b : (0 $0 $1)\nS -> b : (0 (2) $0)\nA -> a : (3 $0)\n"},
		{"S -> b\nS -> A b\nA -> ~\nA -> a\n", "S -> b : (0 $0)\nS -> A b : (1 $0 $1)\nA -> a : (3 $0)\n"},
		{"S -> a\nS -> a\n", "S -> a : (0 $0)\n"},
		{"S -> S S\nS -> a\nS -> ~\n", "S -> S S : (0 $0 $1)\nS -> S : (0 (2) $0)\nS -> a : (1 $0)\n"},
		// A Null made of others' stands in the place.
		{"S -> x A\nA -> B B\nB -> ~\nB -> b\n", "S -> x A : (0 $0 $1)\nS -> x : (0 $0 (1 (2) (2)))\nA -> B B : (1 $0 $1)\nA -> B : (1 (2) $0)\nB -> b : (3 $0)\n"},
		// What comes to nothing alone is cleaned away, and what is reached by it.
		{"S -> A b\nA -> ~\n", "S -> b : (0 (1) $0)\n"},
		{"S -> A\nA -> ~\n", ""},
		{"S -> A B\nA -> ~\nB -> A\n", ""},
		{"S -> a\nS -> A C b\nA -> ~\nC -> c\n", "S -> a : (0 $0)\nS -> C b : (1 (2) $0 $1)\nC -> c : (3 $0)\n"},
		// Rules that are not Useful.
		{"S -> a\nS -> Q\nB -> ~\n", "S -> a : (0 $0)\n"},
		{"S -> S a\n", ""},
		// The start is the first Rule's Head, also where that Rule goes.
		{"S -> ~\nT -> t\nS -> T\n", "T -> t : (1 $0)\nS -> T : (2 $0)\n"},
	} {
		got := impl.NoEmpty(read(t, c[0]))
		same(t, "NoEmpty of "+c[0], impl.MadesText(got), c[1])
		checkPlain(t, "NoEmpty of "+c[0], got, false)
	}
}

// largeNulls is Rules of heads with large Nulls: those of D to H are right, those
// of I and J are not.
const largeNulls = "A -> ~\nB -> A A A A A\nC -> B B B B B\n" +
	"D -> C C C C C\nE -> C C C\nF -> B A A A\nG -> A A A A\nH -> D C B B\nI -> D C B B A\nJ -> D D D D D\n"

// largeNull is how many terms the Nulls of those heads have.
func largeNull() map[string]int {
	return map[string]int{"D": 156, "E": 94, "F": 10, "G": 5, "H": 1 + 156 + 31 + 6 + 6, "I": 1 + 156 + 31 + 6 + 6 + 1, "J": 781}
}

// Of several that are left out, each Null is put in, however large what comes of
// the others is, and wherever they stand; but one that is not right can't be.
func TestNoEmptyOfLargeNulls(t *testing.T) {
	for _, c := range []struct {
		body  string
		right bool
	}{
		{"D E F a", true}, {"E D F a", true}, {"D F E a", true}, {"a D E F", true}, {"D a E F", true}, {"F E a D", true},
		{"D D a", true}, {"D D D D a", true}, {"a D D D D", true}, {"E E E a E", true}, {"G H H a", true}, {"H a H G G", true},
		{"H a", true}, {"H H H H a", true}, {"A H A a H", true}, {"G a G", true},
		{"I a", false}, {"a I", false}, {"J a", false}, {"I G a", false}, {"G I a", false}, {"D E I a", false}, {"I E D a", false},
		{"D D J a D", false}, {"J J J J a", false}, {"A A A J a", false},
	} {
		g := read(t, "S -> "+c.body+"\n"+largeNulls)
		for _, x := range impl.Nulls(g) {
			if n := largeNull()[x.Head]; n > 0 {
				same(t, "how large, Null of "+x.Head, termSizeBy(x.Term), n)
				same(t, "right, Null of "+x.Head, impl.TermRight(x.Term), n <= impl.MaxTree)
			}
		}
		want := impl.Made{Head: "S", Body: words("a")}
		if c.right {
			want.Term = tmNode(0)
			for _, x := range words(c.body) {
				kid := tmVar(0)
				if x != "a" {
					kid = nullsBy(g)[x]
				}
				want.Term.Kids = append(want.Term.Kids, kid)
			}
		}
		sameMades(t, "NoEmpty of S -> "+c.body, impl.NoEmpty(g), []impl.Made{want})
	}
}

// Likewise where some of them stay.
func TestNoEmptyWithAndWithoutLargeNulls(t *testing.T) {
	r := rand.New(rand.NewSource(37))
	count := map[string]int{}
	for range 100 {
		g := read(t, "S -> a\n"+largeNulls)
		heads := words("D E F G H I J D E F G H")
		body := []string{"a"}
		for range 4 {
			body = append(body, heads[r.Intn(len(heads))])
		}
		r.Shuffle(len(body), func(i, k int) { body[i], body[k] = body[k], body[i] })
		g.Rules[0].Body = body
		for range 3 {
			g.Rules = append(g.Rules, rule(heads[r.Intn(len(heads))], "b"))
		}
		got := impl.NoEmpty(g)
		sameMades(t, "NoEmpty of "+impl.GramText(g), got, noEmptyBy(g))
		checkPlain(t, "NoEmpty of "+impl.GramText(g), got, false)
		for _, m := range got {
			switch {
			case m.Term.Kind == 0:
				count["zero"]++
			case termRightBy(m.Term):
				count["right"]++
			default:
				count["too large"]++
			}
		}
	}
	for _, what := range []string{"zero", "right", "too large"} {
		if count[what] < 75 {
			t.Errorf("%d times %s: too few", count[what], what)
		}
	}
}

// emptyGram is MaxRules Rules by which nothing is said but what is nothing,
// in as many Bodies as can be.
func emptyGram() impl.Gram {
	heads := words("A B C D E")
	var g impl.Gram
	for i := range impl.MaxRules - len(heads) {
		// Turned and swapped, so that no two of the Bodies are alike.
		body := slices.Concat(heads[i%5:], heads[:i%5])
		body[0], body[i/5] = body[i/5], body[0]
		g.Rules = append(g.Rules, rule("S", body...))
	}
	for _, head := range heads {
		g.Rules = append(g.Rules, rule(head))
	}
	return g
}

// More than MaxList may be laid by NoEmpty, as no list is handed in, and more
// may stay; but such a list can't be handed on.
func TestNoEmptyOfMoreThanMaxList(t *testing.T) {
	most := impl.NoEmpty(fullGram())
	sameMades(t, "NoEmpty of fullGram", most, noEmptyBy(fullGram()))
	checkPlain(t, "NoEmpty of fullGram", most, false)
	same(t, "how many", len(most), 14*31+1)
	same(t, "MadesText of so many", impl.MadesText(most), "")
	same(t, "NoUnit of so many", len(impl.NoUnit(most, chainHead(0))), 0)
	same(t, "Clean of so many", len(impl.Clean(most, chainHead(0))), 0)
	// Hundreds are laid, and all, or all but a few, are cleaned away.
	g := emptyGram()
	same(t, "what is nothing alone", len(impl.NoEmpty(g)), 0)
	g.Rules[0].Body[0] = "a"
	same(t, "what is a alone", impl.MadesText(impl.NoEmpty(g)), "S -> a : (0 $0 (16) (17) (18) (19))\n")
}

// fullGram is MaxRules Rules of heads that all may come to nothing, and of
// which all but one have a Body of five others, of which each may be left out.
func fullGram() impl.Gram {
	const last = 14
	var g impl.Gram
	for i := range last {
		body := []string{chainHead(i + 1)}
		for k := 10; len(body) < impl.MaxBody; k = (k + 1) % (last + 1) {
			if k != i && k != i+1 {
				body = append(body, chainHead(k))
			}
		}
		g.Rules = append(g.Rules, rule(chainHead(i), body...))
	}
	g.Rules = append(g.Rules, rule(chainHead(last), "a"))
	for i := len(g.Rules); i < impl.MaxRules; i++ {
		g.Rules = append(g.Rules, rule(chainHead(i-5)))
	}
	return g
}

// NoUnit.

func TestNoUnit(t *testing.T) {
	for _, c := range []struct{ from, start, want string }{
		{"", "S", ""},
		{"S -> a : (0 $0)\n", "S", "S -> a : (0 $0)\n"},
		{"E -> E p T : (0 $0 $1 $2)\nE -> T : (1 $0)\nT -> n : (2 $0)\n", "E", "E -> E p T : (0 $0 $1 $2)\nE -> n : (1 (2 $0))\nT -> n : (2 $0)\n"},
		// Tokens alone are no heads.
		{"S -> a : (0 $0)\nS -> b : $0\nS -> abcd : (2 $0)\n", "S", "S -> a : (0 $0)\nS -> b : $0\nS -> abcd : (2 $0)\n"},
		// Heads alone go, whatever they lead to.
		{"S -> S : (0 $0)\n", "S", ""},
		{"S -> S : (0 $0)\nS -> a : (1 $0)\n", "S", "S -> a : (1 $0)\n"},
		{"S -> Q : (0 $0)\nS -> a : (1 $0)\n", "S", "S -> a : (1 $0)\n"},
		// A head that leads to itself round others.
		{"A -> B : (0 $0)\nB -> C : (1 $0)\nC -> A : (2 $0)\nA -> a B : (3 $0 $1)\nB -> b C : (4 $0 $1)\nC -> c : (5 $0)\n", "A",
			"A -> a B : (3 $0 $1)\nA -> b C : (0 (4 $0 $1))\nA -> c : (0 (1 (5 $0)))\n" +
				"B -> b C : (4 $0 $1)\nB -> c : (1 (5 $0))\nB -> a B : (1 (2 (3 $0 $1)))\n" +
				"C -> c : (5 $0)\nC -> a B : (2 (3 $0 $1))\nC -> b C : (2 (0 (4 $0 $1)))\n"},
		// Two ways to one head: the first one, and all of one head ahead of
		// those that it leads to.
		{"S -> A : (0 $0)\nS -> B : (1 $0)\nA -> B : (2 $0)\nB -> b : (3 $0)\nA -> a : (4 $0)\n", "S", "S -> a : (0 (4 $0))\nS -> b : (1 (3 $0))\n"},
		{"S -> B : (1 $0)\nS -> A : (0 $0)\nA -> B : (2 $0)\nB -> b : (3 $0)\nA -> a : (4 $0)\n", "S", "S -> b : (1 (3 $0))\nS -> a : (0 (4 $0))\n"},
		{"S -> A : (0 $0)\nS -> B : (1 $0)\nA -> C : (2 $0)\nB -> D : (3 $0)\nC -> D : (4 $0)\nD -> d : (5 $0)\nC -> c : (6 $0)\n", "S",
			"S -> c : (0 (2 (6 $0)))\nS -> d : (1 (3 (5 $0)))\n"},
		{"S -> A : (0 $0)\nS -> A : (1 $0)\nA -> a : (2 $0)\n", "S", "S -> a : (0 (2 $0))\n"},
		// What is the head's own is laid ahead, wherever it stands.
		{"S -> A : (0 $0)\nA -> a : (1 $0)\nS -> b : (2 $0)\n", "S", "S -> b : (2 $0)\nS -> a : (0 (1 $0))\n"},
		// The same Head and Body on two ways: the first one laid stays.
		{"S -> A : (0 $0)\nA -> a : (1 $0)\nS -> a : (2 $0)\n", "S", "S -> a : (2 $0)\n"},
		{"S -> A : (0 $0)\nS -> B : (1 $0)\nB -> x y : (2 $0 $1)\nA -> x y : (3 $0 $1)\n", "S", "S -> x y : (0 (3 $0 $1))\n"},
		// A Made twice.
		{"S -> a : (0 $0)\nS -> a : (1 $0)\nS -> a : (0 $0)\n", "S", "S -> a : (0 $0)\n"},
		{"S -> a S : (5 $0 $1)\nS -> a : (1 $0)\nS -> a S : (0 $1 $0)\n", "S", "S -> a S : (5 $0 $1)\nS -> a : (1 $0)\n"},
		// Heads in the order in which they first stand as a Head, not in a Body.
		{"S -> C a B : (0 $0 $1 $2)\nB -> b : (1 $0)\nS -> s : (2 $0)\nC -> c : (3 $0)\nB -> bb : (4 $0)\n", "S",
			"S -> C a B : (0 $0 $1 $2)\nS -> s : (2 $0)\nB -> b : (1 $0)\nB -> bb : (4 $0)\nC -> c : (3 $0)\n"},
		{"B -> b : (0 $0)\nS -> B : (1 $0)\nS -> B B : (2 $0 $1)\n", "S", "B -> b : (0 $0)\nS -> B B : (2 $0 $1)\nS -> b : (1 (0 $0))\n"},
		// Then it is cleaned: what was reached by heads alone goes.
		{"S -> A : (0 $0)\nA -> a : (1 $0)\n", "S", "S -> a : (0 (1 $0))\n"},
		{"S -> A : (0 $0)\nA -> a : (1 $0)\n", "A", "A -> a : (1 $0)\n"},
		{"S -> A : (0 $0)\nA -> a : (1 $0)\n", "Q", ""},
		{"S -> A : (0 $0)\nA -> a : (1 $0)\n", "", ""},
		{"S -> A : (0 $0)\nA -> a Q : (1 $0 $1)\nA -> a : (2 $0)\n", "S", "S -> a : (0 (2 $0))\n"},
		// An empty Body is not one head.
		{"S -> A : (0 $0)\nS -> A A : (1 $0 $1)\nA -> : (2)\n", "S", "S -> A A : (1 $0 $1)\nS -> : (0 (2))\nA -> : (2)\n"},
	} {
		got := impl.NoUnit(mades(c.from), c.start)
		same(t, "NoUnit of "+c.from+"for "+c.start, impl.MadesText(got), c.want)
		sameMades(t, "NoUnit of "+c.from+"for "+c.start, got, mades(c.want))
	}
}

// Terms of all kinds are put in, and where a Term has more variables than its
// Body, these are moved, too.
func TestNoUnitPutsTermsIn(t *testing.T) {
	for _, c := range [][2]string{
		{"S -> A : $0\nA -> a b : (1 $1 $0)\n", "S -> a b : (1 $1 $0)\n"},
		{"S -> A : (7)\nA -> a b : (1 $1 $0)\n", "S -> a b : (7)\n"},
		{"S -> A : (0 $0 $0)\nA -> a b : (1 $1 $0)\n", "S -> a b : (0 (1 $1 $0) (1 $1 $0))\n"},
		{"S -> A : <(0 [] $0) (5 $0)>\nA -> a b : <$0 $1>\n", "S -> a b : <(0 [] <$0 $1>) (5 <$0 $1>)>\n"},
		{"S -> A : (0 $0)\nA -> a b : []\n", "S -> a b : (0 [])\n"},
		{"S -> A : (0 $0 $1 $2)\nA -> a b c : (1 $0 $4)\n", "S -> a b c : (0 (1 $0 $4) $3 $4)\n"},
		{"S -> A : (0 $1)\nA -> B : (1 $2 $0)\nB -> a b c : (2 $0)\n", "S -> a b c : (0 $3)\n"},
		{"S -> A : (0 $0 $1)\nA -> : (1)\n", "S -> : (0 (1) $0)\n"},
		{"S -> A : (0 $0 $1)\nA -> B : (1 $0 $1)\nB -> a b : (2 $0 $1)\n", "S -> a b : (0 (1 (2 $0 $1) $2) $2)\n"},
	} {
		same(t, "NoUnit of "+c[0], impl.MadesText(impl.NoUnit(mades(c[0]), "S")), c[1])
	}
}

// A way may become too deep or too large: nothing is put in there any more,
// and the Term is zero.
func TestNoUnitOfLongWays(t *testing.T) {
	const heads = mostDeep + 5
	var l []impl.Made
	for i := range heads {
		l = append(l, impl.Made{Head: fmt.Sprint("H", i), Body: []string{fmt.Sprint("H", i+1)}, Term: tmNode(int64(i), tmVar(0))})
		l = append(l, impl.Made{Head: fmt.Sprint("H", i), Body: []string{"a", fmt.Sprint("H", i+1)}, Term: tmNode(int64(i), tmVar(0), tmVar(1))})
	}
	l = append(l, impl.Made{Head: fmt.Sprint("H", heads), Body: []string{"b"}, Term: tmNode(heads, tmVar(0))})
	got := impl.NoUnit(l, "H0")
	sameMades(t, "NoUnit of a chain", got, noUnitBy(l, "H0"))
	checkPlain(t, "NoUnit of a chain", got, true)
	same(t, "the last right one", impl.TermRight(got[mostDeep-2].Term), true)
	same(t, "too deep by one", impl.TermRight(got[mostDeep-1].Term), false)
	same(t, "how deep", termDeepBy(got[mostDeep-1].Term), mostDeep+1)
	sameTerm(t, "behind these", got[mostDeep+1].Term, impl.Term{})
	l = []impl.Made{
		{Head: "S", Body: []string{"A"}, Term: wideTerm(20, tmVar(0))},
		{Head: "A", Body: []string{"B"}, Term: wideTerm(20, tmVar(0))},
		{Head: "A", Body: []string{"a"}, Term: wideTerm(20, tmVar(0))},
		{Head: "B", Body: []string{"b"}, Term: tmVar(0)},
		{Head: "A", Body: []string{"c"}, Term: wideTerm(8, tmVar(0))},
	}
	got = impl.NoUnit(l, "S")
	sameMades(t, "NoUnit of wide ones", got, noUnitBy(l, "S"))
	same(t, "how large", termSizeBy(got[0].Term), 1+20+400)
	same(t, "how large a right one is", termSizeBy(got[1].Term), 1+20+160)
	sameTerm(t, "behind what is too large", got[2].Term, impl.Term{})
}

// wideBy tells whether a Term is a node of N n with 199 Kids, each of which is
// such a one of the next numbers, or at last a variable of N 0.
func wideBy(x impl.Term, numbers ...int64) bool {
	if len(numbers) == 0 {
		return x.Kind == impl.TmVar && x.N == 0 && len(x.Kids) == 0
	}
	if x.Kind != impl.TmNode || x.N != numbers[0] || len(x.Kids) != impl.MaxTree-1 {
		return false
	}
	return !slices.ContainsFunc(x.Kids, func(kid impl.Term) bool { return !wideBy(kid, numbers[1:]...) })
}

func wideOf(n int64) impl.Term {
	x := wideTerm(impl.MaxTree-1, tmVar(0))
	x.N = n
	return x
}

// No limit on how large the Terms of an answer are but what memory holds: in
// each Made is the Term that was put in. What is cleaned away takes no room:
// here that would be tens of GiB.
func TestNoUnitOfManyWideTerms(t *testing.T) {
	const ways, of = 2, 120
	var l []impl.Made
	for i := range impl.MaxList - of {
		l = append(l, impl.Made{Head: fmt.Sprint("H", i), Body: []string{"X"}, Term: wideOf(int64(i))})
	}
	l[0].Body, l[0].Term = []string{"a", "H1", "H2"}, tmNode(5)
	for i := range of {
		one := impl.Made{Head: "X", Body: words(fmt.Sprintf("x %c %c", 'a'+i/26, 'a'+i%26)), Term: wideOf(1000)}
		if i%2 == 1 {
			one.Term = tmNode(int64(i))
		}
		l = append(l, one)
	}
	got := impl.NoUnit(l, "H0")
	same(t, "how many", len(got), 1+ways*of)
	sameMades(t, "the first one", got[:1], l[:1])
	for i, m := range got[1:] {
		way, at := int64(1+i/of), i%of
		same(t, fmt.Sprint("Head of ", i), m.Head, fmt.Sprint("H", way))
		sameDeep(t, fmt.Sprint("Body of ", i), m.Body, l[len(l)-of+at].Body)
		if at%2 == 0 {
			same(t, fmt.Sprint("Term of ", i), wideBy(m.Term, way, 1000), true)
			continue
		}
		want := wideTerm(impl.MaxTree-1, tmNode(int64(at)))
		want.N = way
		sameTerm(t, fmt.Sprint("Term of ", i), m.Term, want)
	}
}

// Clean.

func TestClean(t *testing.T) {
	for _, c := range []struct{ from, start, want string }{
		{"", "S", ""},
		{"", "", ""},
		{"S -> a : (0 $0)\n", "S", "S -> a : (0 $0)\n"},
		{"S -> : (0)\n", "S", "S -> : (0)\n"},
		// A start that no Made has.
		{"S -> a : (0 $0)\n", "A", ""},
		{"S -> a : (0 $0)\n", "", ""},
		{"S -> a : (0 $0)\n", "a", ""},
		{"S -> A : (0 $0)\n", "A", ""},
		// Heads of Body that do not come to tokens, wherever they stand, and Heads.
		{"S -> Q : (0 $0)\nS -> a Q : (1 $0 $1)\nS -> Q a : (2 $0 $1)\nS -> a Q b : (3 $0 $1 $2)\nS -> b : (4 $0)\n", "S", "S -> b : (4 $0)\n"},
		{"S -> A : (0 $0)\nA -> A a : (1 $0 $1)\nS -> b : (2 $0)\n", "S", "S -> b : (2 $0)\n"},
		{"S -> S a : (0 $0 $1)\n", "S", ""},
		{"S -> A : (0 $0)\nA -> B : (1 $0)\nB -> A : (2 $0)\n", "S", ""},
		{"S -> A : (0 $0)\nA -> B : (1 $0)\nB -> A : (2 $0)\nB -> b : (3 $0)\n", "S", "S -> A : (0 $0)\nA -> B : (1 $0)\nB -> A : (2 $0)\nB -> b : (3 $0)\n"},
		{"S -> A B : (0 $0 $1)\nA -> a : (1 $0)\nB -> : (2)\n", "S", "S -> A B : (0 $0 $1)\nA -> a : (1 $0)\nB -> : (2)\n"},
		// Those that are not reached, or not so.
		{"S -> a : (0 $0)\nA -> a : (1 $0)\nB -> A S : (2 $0 $1)\n", "S", "S -> a : (0 $0)\n"},
		{"S -> a : (0 $0)\nA -> a : (1 $0)\nB -> A S : (2 $0 $1)\n", "B", "S -> a : (0 $0)\nA -> a : (1 $0)\nB -> A S : (2 $0 $1)\n"},
		{"S -> a : (0 $0)\nS -> A Q : (1 $0 $1)\nA -> a : (2 $0)\n", "S", "S -> a : (0 $0)\n"},
		{"A -> a : (0 $0)\nB -> A : (1 $0)\nC -> B : (2 $0)\nS -> C : (3 $0)\n", "S", "A -> a : (0 $0)\nB -> A : (1 $0)\nC -> B : (2 $0)\nS -> C : (3 $0)\n"},
		{"A -> a : (0 $0)\nB -> A : (1 $0)\nC -> B : (2 $0)\nS -> C : (3 $0)\n", "B", "A -> a : (0 $0)\nB -> A : (1 $0)\n"},
		// They are not laid: one twice stays twice.
		{"S -> a : (0 $0)\nS -> a : (0 $0)\nS -> a : (1 $0)\n", "S", "S -> a : (0 $0)\nS -> a : (0 $0)\nS -> a : (1 $0)\n"},
		// A head is what is no token.
		{"E -> n E+ : <$1 $0>\nE+ -> p n : (1 [] $0 $1)\n", "E", "E -> n E+ : <$1 $0>\nE+ -> p n : (1 [] $0 $1)\n"},
		{"E -> n E+ : <$1 $0>\nE+ -> p n E+ : (1 [] $0 $1)\n", "E", ""},
		{"S -> abcde : (0 $0)\nS -> a1 : (1 $0)\nS -> abcd : (2 $0)\nabcde -> a : (3 $0)\n", "S", "S -> abcde : (0 $0)\nS -> abcd : (2 $0)\nabcde -> a : (3 $0)\n"},
		// No Made is reached by a token.
		{"S -> a : (0 $0)\na -> b : (1 $0)\n", "S", "S -> a : (0 $0)\n"},
		{"S -> a : (0 $0)\na -> b : (1 $0)\n", "a", "a -> b : (1 $0)\n"},
	} {
		got := impl.Clean(mades(c.from), c.start)
		same(t, "Clean of "+c.from+"for "+c.start, impl.MadesText(got), c.want)
		sameMades(t, "Clean of "+c.from+"for "+c.start, got, mades(c.want))
	}
}

// doubledTerm is a Term of that many nodes, one below the other, of which each
// has the same one below it twice.
func doubledTerm(n int) impl.Term {
	return deepTerm(n, func(x impl.Term) impl.Term { return tmNode(3, x, x) }, tmVar(0))
}

// sameDoubled tells whether a Term is as that, looking at each of its terms.
func sameDoubled(x impl.Term, n int) bool {
	if n == 0 {
		return x.Kind == impl.TmVar && x.N == 0 && len(x.Kids) == 0
	}
	return x.Kind == impl.TmNode && x.N == 3 && len(x.Kids) == 2 && sameDoubled(x.Kids[0], n-1) && sameDoubled(x.Kids[1], n-1)
}

// Terms stay as they are, of millions of terms, too; but those that no memory
// holds are zero, and take no room from others.
func TestCleanOfVeryLargeTerms(t *testing.T) {
	deep := []int{22, 60, 3, 21, 100, 64, 63, 62, 31, 0, 20}
	l := manyMades(len(deep))
	for i, n := range deep {
		l[i].Term = doubledTerm(n)
	}
	got := impl.Clean(l, "S")
	same(t, "how many", len(got), len(l))
	for i, m := range got {
		sameDeep(t, "Body", m.Body, l[i].Body)
		if deep[i] > 30 {
			sameTerm(t, fmt.Sprint("Term ", deep[i], " deep"), m.Term, impl.Term{})
			continue
		}
		same(t, fmt.Sprint("Term ", deep[i], " deep"), sameDoubled(m.Term, deep[i]), true)
	}
}

// Symbols of whatever bytes are told apart.
func TestMadesOfWhateverSymbols(t *testing.T) {
	long := strings.Repeat("L", 300)
	var l []impl.Made
	add := func(head string, body ...string) {
		l = append(l, impl.Made{Head: head, Body: body, Term: tmNode(int64(len(l)))})
	}
	add("", "A B", "C")
	add("", "A", "B C")
	add("", "A", "B", "C")
	add("", "", "A B C", "")
	add("", "A\x02B", "C", long)
	add("", "A", "\x02B", "C", long)
	add("", "\x00", "\x01\x02", "\xff", "A,B")
	add("", "A,B", "\x00", "\x01\x02", "\xff")
	add("", long+"L", long, long+long)
	add("", long, long+"L", long+long)
	for _, m := range l[:10] {
		for _, symbol := range m.Body {
			add(symbol, "a", "b")
			add(symbol, "a", "")
			add(symbol, "ab", "")
		}
	}
	sameMades(t, "Clean", impl.Clean(l, ""), l)
	got := impl.NoUnit(l, "")
	sameMades(t, "NoUnit", got, noUnitBy(l, ""))
	sameMades(t, "the first of these", got[:10], l[:10])
	same(t, "MadesText", impl.MadesText(l), madesTextBy(l))
	// One of these alone in a Body is a head, too.
	add("", "A B")
	add("A B", "S+")
	add("S+", "x")
	sameMades(t, "NoUnit with heads alone", impl.NoUnit(l, ""), noUnitBy(l, ""))
	checkPlain(t, "NoUnit with heads alone", impl.NoUnit(l, ""), true)
}

// MadesText.

func TestMadesText(t *testing.T) {
	same(t, "no Mades", impl.MadesText(nil), "")
	same(t, "an empty list", impl.MadesText([]impl.Made{}), "")
	for _, text := range []string{
		"S -> a : (0 $0)\n",
		"S -> : (0)\n",
		"S -> A b A : (0 $0 $1 $2)\nS -> b : (0 (1) $0 (1))\n",
		"E+ -> p T E+ : <$2 (0 [] $0 $1)>\n",
		"S -> a : (0 $0)\nS -> a : (0 $0)\n",
		"s -> 1 2 : $9223372036854775807\n",
		"S -> a b c d e f g h i j k l m n : []\n",
	} {
		same(t, "MadesText", impl.MadesText(mades(text)), text)
	}
	same(t, "a zero Made", impl.MadesText([]impl.Made{{}}), " -> : \n")
	same(t, "without a Term", impl.MadesText([]impl.Made{{Head: "S", Body: words("a B")}}), "S -> a B : \n")
}

// What holds for all.

// manyMades is as many Mades, all of which stay.
func manyMades(n int) []impl.Made {
	var l []impl.Made
	for i := range n {
		l = append(l, impl.Made{Head: "S", Body: words(fmt.Sprintf("%c %c", 'a'+i/26, 'a'+i%26)), Term: term("(1 $0 $1)")})
	}
	return l
}

func TestMadesOfMostItems(t *testing.T) {
	for _, n := range []int{impl.MaxList - 1, impl.MaxList, impl.MaxList + 1, 2 * impl.MaxList} {
		l := manyMades(n)
		want, text := l, madesTextBy(l)
		if n > impl.MaxList {
			want, text = nil, ""
		}
		what := fmt.Sprint(" of ", n)
		sameMades(t, "Clean"+what, impl.Clean(l, "S"), want)
		sameMades(t, "NoUnit"+what, impl.NoUnit(l, "S"), want)
		same(t, "MadesText"+what, impl.MadesText(l), text)
		// The size is asked ahead of what stays.
		twice := slices.Repeat(mades("S -> a : (0 $0)\n"), n)
		same(t, "NoUnit, of one again and again"+what, len(impl.NoUnit(twice, "S")), len(want)/max(1, len(want)))
		same(t, "Clean, of one again and again"+what, len(impl.Clean(twice, "S")), len(want))
		same(t, "Clean, for another start"+what, len(impl.Clean(l, "A")), 0)
	}
}

// An answer of NoUnit may be longer than what is handed in may be.
func TestNoUnitToMoreThanMaxList(t *testing.T) {
	const heads = 3
	var l []impl.Made
	for i := range heads {
		head, next := fmt.Sprint("H", i), fmt.Sprint("H", i+1)
		l = append(l, impl.Made{Head: head, Body: []string{next}, Term: tmNode(int64(i), tmVar(0))})
		l = append(l, impl.Made{Head: head, Body: []string{"x", next}, Term: tmNode(int64(i), tmVar(0), tmVar(1))})
	}
	for _, m := range manyMades(impl.MaxList - len(l)) {
		m.Head = fmt.Sprint("H", heads)
		l = append(l, m)
	}
	got := impl.NoUnit(l, "H0")
	same(t, "how many", len(got), (heads+1)*(impl.MaxList-2*heads)+heads*(heads+1)/2)
	sameMades(t, "NoUnit", got, noUnitBy(l, "H0"))
	same(t, "MadesText of so many", impl.MadesText(got), "")
	same(t, "one more", len(impl.NoUnit(append(l, l[0]), "H0")), 0)
}

// A start is a text that is handed in as such; a Head is none.
func TestStartsOfMostBytes(t *testing.T) {
	for _, n := range []int{impl.MaxBytes - 1, impl.MaxBytes, impl.MaxBytes + 1, 2 * impl.MaxBytes} {
		head := strings.Repeat("S", n)
		l := []impl.Made{{Head: head, Body: words("a"), Term: tmVar(0)}, {Head: "S", Body: []string{"a", head}, Term: tmVar(1)}}
		want := l[:1]
		if n > impl.MaxBytes {
			want = nil
		}
		what := fmt.Sprint(" for a start of ", n)
		sameMades(t, "Clean"+what, impl.Clean(l, head), want)
		sameMades(t, "NoUnit"+what, impl.NoUnit(l, head), want)
		sameMades(t, "Clean, long in a Body"+what, impl.Clean(l, "S"), l)
		sameMades(t, "NoUnit, long in a Body"+what, impl.NoUnit(l, "S"), l)
		same(t, "MadesText"+what, impl.MadesText(l), madesTextBy(l))
	}
}

// Bodies longer than twelve are no fault here.
func TestMadesOfLongBodies(t *testing.T) {
	for _, n := range []int{12, 13, impl.MaxList + 1, 5000} {
		body := slices.Repeat([]string{"a", "A"}, n)[:n]
		l := []impl.Made{
			{Head: "S", Body: []string{"A"}, Term: term("(0 $0 $1)")},
			{Head: "A", Body: body, Term: term("(1 $0)")},
			{Head: "A", Body: []string{"b"}, Term: term("(2 $0)")},
		}
		sameMades(t, fmt.Sprint("Clean of ", n), impl.Clean(l, "S"), l)
		sameMades(t, fmt.Sprint("NoUnit of ", n), impl.NoUnit(l, "S"), []impl.Made{
			{Head: "S", Body: body, Term: tmNode(0, term("(1 $0)"), tmVar(int64(n)))},
			{Head: "S", Body: []string{"b"}, Term: term("(0 (2 $0) $1)")},
			{Head: "A", Body: body, Term: term("(1 $0)")},
			{Head: "A", Body: []string{"b"}, Term: term("(2 $0)")},
		})
		same(t, fmt.Sprint("MadesText of ", n), impl.MadesText(l), madesTextBy(l))
	}
}

func TestPlainOfWrongGrams(t *testing.T) {
	for what, g := range wrongGrams() {
		same(t, "Given, "+what, len(impl.Given(g)), 0)
		same(t, "Nulls, "+what, len(impl.Nulls(g)), 0)
		same(t, "NoEmpty, "+what, len(impl.NoEmpty(g)), 0)
	}
}

// A Term that is not right stays as it is where nothing is put together, has
// no text, and nothing is put in by it or there.
func TestMadesOfWrongTerms(t *testing.T) {
	wrong := wrongTerms()
	for what, x := range hugeTerms() {
		wrong[what] = x
	}
	for what, x := range wrong {
		l := []impl.Made{
			{Head: "S", Body: words("A"), Term: x},
			{Head: "A", Body: words("a S"), Term: tmVar(0)},
			{Head: "S", Body: words("B"), Term: tmVar(0)},
			{Head: "B", Body: words("b"), Term: x},
		}
		sameMades(t, "Clean, "+what, impl.Clean(l, "S"), l)
		same(t, "MadesText, "+what, impl.MadesText(l), "S -> A : \nA -> a S : $0\nS -> B : $0\nB -> b : \n")
		sameMades(t, "NoUnit, "+what, impl.NoUnit(l, "S"), []impl.Made{
			{Head: "S", Body: words("a S")}, {Head: "S", Body: words("b")},
		})
	}
}

// Each call answers, however deep a Term is, and if it has no end; the other
// Mades are as they should be.
func TestMadesOfTermsWithoutEnd(t *testing.T) {
	defer debug.SetMaxStack(debug.SetMaxStack(4 << 20))
	var l []impl.Made
	for i := range impl.MaxList {
		list := make([]impl.Term, 1+i%5)
		for k := range list {
			list[k] = impl.Term{Kind: impl.TmNode, Kids: list}
		}
		l = append(l, impl.Made{Head: "S", Body: words(fmt.Sprintf("%c %c", 'a'+i/26, 'a'+i%26)), Term: list[0]})
	}
	l[100].Term = wideTerm(impl.MaxTree-1, tmVar(0))
	l[200].Term = wideTerm(impl.MaxTree, tmVar(0))
	l[300].Term = deepTerm(300000, inNode, tmVar(0))
	want := slices.Clone(l)
	for i := range want {
		if i == 0 || i%100 > 0 {
			want[i].Term = impl.Term{}
		}
	}
	got := impl.Clean(l, "S")
	for end, as := got[300].Term, l[300].Term; ; end, as = end.Kids[0], as.Kids[0] {
		if end.Kind != as.Kind || len(end.Kids) != len(as.Kids) {
			t.Fatalf("the deep one: got %d of %d, want %d of %d", end.Kind, len(end.Kids), as.Kind, len(as.Kids))
		}
		if len(as.Kids) == 0 {
			break
		}
	}
	got[300].Term, want[300].Term = impl.Term{}, impl.Term{}
	sameMades(t, "Clean", got, want)
	want[200].Term = impl.Term{}
	sameMades(t, "NoUnit", impl.NoUnit(l, "S"), want)
	same(t, "MadesText", impl.MadesText(l), madesTextBy(want))
}

// Promise 8.

// checkPlain fails the test if a Body is nothing, or is one head where there
// should be no such, or a Head and Body stand twice.
func checkPlain(t *testing.T, what string, l []impl.Made, noUnit bool) {
	t.Helper()
	seen := map[string]bool{}
	for _, m := range l {
		key := fmt.Sprintf("%q %q", m.Head, m.Body)
		same(t, "twice, "+key+" in "+what, seen[key], false)
		same(t, "nothing, "+key+" in "+what, len(m.Body) == 0, false)
		same(t, "one head, "+key+" in "+what, noUnit && oneHeadBy(m), false)
		seen[key] = true
	}
}

// checkNulls fails the test if an empty tree is no right one of its head, or
// not of nothing, and tells how many there are.
func checkNulls(t *testing.T, g impl.Gram) int {
	t.Helper()
	text := impl.GramText(g)
	for _, x := range impl.Nulls(g) {
		if !impl.TermRight(x.Term) {
			continue
		}
		empty := impl.Build(x.Term, nil)
		what := x.Head + " as " + impl.TreeText(empty) + " in " + text
		same(t, "right, "+what, impl.TreeRight(g, empty) && empty.Rule >= 0, true)
		same(t, "Head, "+what, g.Rules[empty.Rule].Head, x.Head)
		same(t, "how much is said, "+what, len(impl.Yield(empty)), 0)
		same(t, "Nullable, "+what, slices.Contains(impl.Nullable(g), x.Head), true)
	}
	return len(impl.Nulls(g))
}

// usefulNullable is how many Nullable heads stand in a Useful Rule.
func usefulNullable(g impl.Gram) int {
	heads := map[string]bool{}
	for _, n := range impl.Useful(g) {
		if slices.Contains(impl.Nullable(g), g.Rules[n].Head) {
			heads[g.Rules[n].Head] = true
		}
	}
	return len(heads)
}

// checkTells fails the test if the tree that a Made tells, of right trees of
// its Body, is no right one of its Head that says what these say. It tells
// whether there were such trees.
func checkTells(t *testing.T, r *rand.Rand, g impl.Gram, m impl.Made) bool {
	t.Helper()
	var l []impl.Tree
	var w []string
	for _, x := range m.Body {
		one, ok := grownTree(r, g, x, 6)
		if !ok {
			return false
		}
		l = append(l, one)
		w = append(w, yieldBy(one)...)
	}
	got := impl.Build(m.Term, l)
	what := impl.MadesText([]impl.Made{m}) + "of " + impl.GramText(g)
	same(t, "right, "+what, rightBy(g, m.Head, got), true)
	sameDeep(t, "says, "+what, yieldBy(got), w)
	return true
}

// saysBy tells whether a head comes to a text by Mades.
func saysBy(l []impl.Made, head string, w []string) bool {
	var rules []impl.Rule
	for _, m := range l {
		rules = append(rules, rule(m.Head, m.Body...))
	}
	return newTable(rules, w).comes[pieceKey(head, 0, len(w))]
}

// madeGram is a right Gram of a few Rules, often of such that come to nothing
// or to one head.
func madeGram(r *rand.Rand) impl.Gram {
	if r.Intn(3) == 0 {
		return smallGram(r)
	}
	symbols := words("S A B C a b")
	g := gram(rule("S", symbols[r.Intn(4)]))
	for range 1 + r.Intn(8) {
		one := rule(symbols[r.Intn(4)])
		for range []int{0, 1, 1, 1, 2, 2, 3, 5}[r.Intn(8)] {
			one.Body = append(one.Body, symbols[r.Intn(len(symbols))])
		}
		g.Rules = append(g.Rules, one)
	}
	return g
}

// What is made is as the chapter reads, holds what is promised, and says what
// the Gram says, but for the text that is nothing.
func TestWhatIsMade(t *testing.T) {
	r := rand.New(rand.NewSource(23))
	count := map[string]int{}
	for i := range 4000 {
		if t.Failed() {
			return
		}
		g := madeGram(r)
		if i%20 == 0 {
			g = someGram(r)
		}
		text, start := impl.GramText(g), g.Rules[0].Head
		nulls := nullsBy(g)
		for _, x := range impl.Nulls(g) {
			sameTerm(t, "Null of "+x.Head+" in "+text, x.Term, nulls[x.Head])
		}
		same(t, "how many Nulls of "+text, checkNulls(t, g), usefulNullable(g))
		same(t, "Given of "+text, impl.MadesText(impl.Given(g)), madesTextBy(givenBy(g)))
		noEmpty := impl.NoEmpty(g)
		same(t, "NoEmpty of "+text, madesTextBy(noEmpty), madesTextBy(noEmptyBy(g)))
		checkPlain(t, "NoEmpty of "+text, noEmpty, false)
		if len(noEmpty) > impl.MaxList {
			count["too long"]++
			continue
		}
		noUnit := impl.NoUnit(noEmpty, start)
		same(t, "NoUnit of "+text, madesTextBy(noUnit), madesTextBy(noUnitBy(noEmpty, start)))
		checkPlain(t, "NoUnit of "+text, noUnit, true)
		sameMades(t, "Clean of NoEmpty of "+text, impl.Clean(noEmpty, start), noEmpty)
		sameMades(t, "NoUnit of NoUnit of "+text, impl.NoUnit(noUnit, start), zeroWrong(noUnit))
		for _, m := range slices.Concat(impl.Given(g), noEmpty, noUnit) {
			if impl.TermRight(m.Term) && checkTells(t, r, g, m) {
				count["told"]++
			}
		}
		if w := saidText(r, g, 5); len(w) > 0 && len(g.Rules) < 12 {
			said := impl.Derives(g, w)
			same(t, fmt.Sprint("NoEmpty says ", w, " as ", text), saysBy(noEmpty, start, w), said)
			same(t, fmt.Sprint("NoUnit says ", w, " as ", text), saysBy(noUnit, start, w), said)
			count[fmt.Sprint("said ", said)]++
		}
		count[fmt.Sprint("nulls ", len(nulls) > 0)]++
		count[fmt.Sprint("units ", slices.ContainsFunc(noEmpty, oneHeadBy))]++
		count[fmt.Sprint("mades ", len(noUnit) > 0)]++
	}
	for _, what := range words("said|true said|false nulls|true nulls|false units|true units|false mades|true mades|false told") {
		what = strings.ReplaceAll(what, "|", " ")
		if count[what] < 300 {
			t.Errorf("%d times %s: too few", count[what], what)
		}
	}
}

// zeroWrong is Mades with the zero Term in the place of each that is not right:
// nothing is put in of such.
func zeroWrong(l []impl.Made) []impl.Made {
	l = slices.Clone(l)
	for i := range l {
		if !termRightBy(l[i].Term) {
			l[i].Term = impl.Term{}
		}
	}
	return l
}

// someMades is Mades of whatever: heads that are none, Terms that are not
// right, one again and again.
func someMades(r *rand.Rand) []impl.Made {
	symbols := words("S A B C D+ a b abcde")
	var l []impl.Made
	for range r.Intn(14) {
		one := impl.Made{Head: symbols[r.Intn(5)], Term: someTerm(r, 3)}
		if r.Intn(30) == 0 {
			one.Head = symbols[r.Intn(len(symbols))]
		}
		for range []int{0, 1, 1, 1, 1, 2, 2, 3, 7}[r.Intn(9)] {
			k := r.Intn(len(symbols))
			if r.Intn(3) == 0 {
				k = 5 + r.Intn(2)
			}
			one.Body = append(one.Body, symbols[k])
		}
		if r.Intn(10) == 0 {
			one.Term = turnTerm(r, one.Term)
		}
		l = append(l, one)
		if r.Intn(8) == 0 {
			l = append(l, l[r.Intn(len(l))])
			l[len(l)-1].Term = someTerm(r, 2)
		}
	}
	return l
}

func TestWhatIsMadeOfWhateverMades(t *testing.T) {
	r := rand.New(rand.NewSource(24))
	count := map[string]int{}
	for range 10000 {
		if t.Failed() {
			return
		}
		l := someMades(r)
		start := words("S A D+ a Q")[r.Intn(30)%5]
		text := fmt.Sprintf("%+v for %s", l, start)
		clean, noUnit := impl.Clean(l, start), impl.NoUnit(l, start)
		sameMades(t, "Clean of "+text, clean, cleanBy(l, start))
		sameMades(t, "NoUnit of "+text, noUnit, noUnitBy(l, start))
		same(t, "MadesText of "+text, impl.MadesText(l), madesTextBy(l))
		same(t, "Clean again of "+text, len(impl.Clean(clean, start)), len(clean))
		for _, m := range noUnit {
			same(t, "one head in NoUnit of "+text, oneHeadBy(m), false)
		}
		count["clean"] += min(1, len(clean))
		count["not clean"] += min(1, len(l)-len(clean))
		count["laid"] += min(1, len(noUnit))
	}
	for what, n := range count {
		if n < 1000 {
			t.Errorf("%d times %s: too few", n, what)
		}
	}
}

// Chapter 1.

// madesWithRoom is Mades with room behind each of their lists, in which
// something stands.
func madesWithRoom(l []impl.Made) []impl.Made {
	out := append(make([]impl.Made, 0, len(l)+2), l...)
	for i, m := range out {
		body := append(make([]string, 0, len(m.Body)+2), m.Body...)
		out[i].Body = append(body, "behind", "all")[:len(body)]
		out[i].Term = termWithRoom(m.Term)
	}
	return append(out, made("BEHI -> nd : (7 $7)"))[:len(out)]
}

// wholeMades is a text of all in Mades, and of what stands in the room behind.
func wholeMades(l []impl.Made) string {
	var out strings.Builder
	fmt.Fprint(&out, len(l))
	for _, m := range l[:cap(l)] {
		fmt.Fprintf(&out, "[%q %d %q %s]", m.Head, len(m.Body), m.Body[:cap(m.Body)], wholeTerm(m.Term))
	}
	return out.String()
}

// memory is all places of lists that were met with.
type memory struct {
	texts map[*string]bool
	terms fresh[impl.Term]
}

func newMemory() memory {
	kids := func(x impl.Term) []impl.Term { return x.Kids }
	return memory{map[*string]bool{}, fresh[impl.Term]{seen: map[*impl.Term]bool{}, kids: kids}}
}

// meet tells whether no place of a Body and a Term was met with before, in all
// the room that they have.
func (m memory) meet(body []string, x impl.Term) bool {
	out := m.terms.meet(x)
	for i := range body[:cap(body)] {
		place := &body[:cap(body)][i]
		out = out && !m.texts[place]
		m.texts[place] = true
	}
	return out
}

// meetMades is meet of Mades, which it spoils if that is asked for.
func (m memory) meetMades(l []impl.Made, spoilt bool) bool {
	out := true
	for i := range l {
		out = m.meet(l[i].Body, l[i].Term) && out
	}
	for i := range l {
		if spoilt {
			spoil(l[i].Body)
			spoilTerm(&l[i].Term)
			l[i].Head = "spoilt"
		}
	}
	return out
}

// What is handed in stays as it was, the room behind it too; no two lists of
// an answer share memory, nor do they with what was handed in, and the next
// answer is the same.
func TestMadesStayAsTheyWere(t *testing.T) {
	r := rand.New(rand.NewSource(25))
	for range 1500 {
		if t.Failed() {
			return
		}
		l := someMades(r)
		// What is handed in may share lists.
		if len(l) > 1 {
			l[0].Body, l[0].Term = l[1].Body, tmNode(3, l[1].Term, l[1].Term)
		}
		l = madesWithRoom(l)
		if len(l) > 3 {
			l[2].Body, l[2].Term = l[3].Body, l[3].Term
		}
		was := wholeMades(l)
		ask := func() [][]impl.Made {
			return [][]impl.Made{impl.Clean(l, "S"), impl.NoUnit(l, "S"), impl.Clean(l, "A"), impl.NoUnit(l, "A")}
		}
		met := newMemory()
		met.meetMades(l, false)
		first := ask()
		text := allOf(slices.Concat(first...))
		for i, answer := range first {
			same(t, fmt.Sprint("memory of answer ", i, " to ", was), met.meetMades(answer, true), true)
		}
		same(t, "changed", wholeMades(l), was)
		same(t, "asked again", allOf(slices.Concat(ask()...)), text)
		same(t, "MadesText", impl.MadesText(l), madesTextBy(l))
		same(t, "changed by MadesText", wholeMades(l), was)
	}
}

func TestGramsStayAsTheyWereMade(t *testing.T) {
	r := rand.New(rand.NewSource(26))
	for range 1500 {
		if t.Failed() {
			return
		}
		g := madeGram(r)
		for i, one := range g.Rules {
			g.Rules[i].Body = append(append(make([]string, 0, len(one.Body)+2), one.Body...), "behind", "all")[:len(one.Body)]
		}
		g.Rules = append(g.Rules, rule("BEHI", "nd"))[:len(g.Rules)]
		whole := func() string {
			var out strings.Builder
			for _, one := range g.Rules[:cap(g.Rules)] {
				fmt.Fprintf(&out, "%q %q\n", one.Head, one.Body[:cap(one.Body)])
			}
			return out.String()
		}
		was := whole()
		met := newMemory()
		for _, one := range g.Rules {
			met.meet(one.Body, impl.Term{})
		}
		mades, nulls := [][]impl.Made{impl.Given(g), impl.NoEmpty(g)}, impl.Nulls(g)
		text := allOf(slices.Concat(mades...)) + fmt.Sprint(nulls)
		for i, answer := range mades {
			same(t, fmt.Sprint("memory of answer ", i, " to ", was), met.meetMades(answer, true), true)
		}
		for i := range nulls {
			same(t, "memory of Nulls of "+was, met.meet(nil, nulls[i].Term), true)
		}
		for i := range nulls {
			spoilTerm(&nulls[i].Term)
		}
		same(t, "changed", whole(), was)
		again := allOf(slices.Concat(impl.Given(g), impl.NoEmpty(g))) + fmt.Sprint(impl.Nulls(g))
		same(t, "asked again", again, text)
	}
}
