package tests

import (
	"fmt"
	"math/rand"
	"reflect"
	"slices"
	"strings"
	"testing"

	"loop.example/g00828/impl"
)

// mostBody is the most symbols of a Body that may stay.
const mostBody = 12

// What chapter 9 says, read plainly.

// headsBy is the Heads of Mades, in the order in which they first stand.
func headsBy(l []impl.Made) []string {
	var out []string
	for _, m := range l {
		if !slices.Contains(out, m.Head) {
			out = append(out, m.Head)
		}
	}
	return out
}

// ofBy is the Mades of a head among some.
func ofBy(l []impl.Made, head string) []impl.Made {
	var out []impl.Made
	for _, m := range l {
		if m.Head == head {
			out = append(out, m)
		}
	}
	return out
}

// beginsBy tells whether a Made begins with a symbol.
func beginsBy(m impl.Made, symbol string) bool {
	return len(m.Body) > 0 && m.Body[0] == symbol
}

// insteadBy is the Mades of a head with those of a head ahead in the place of
// each that begins with that. It goes no further where there are too many.
func insteadBy(l []impl.Made, ahead string, of []impl.Made) []impl.Made {
	var out []impl.Made
	for _, m := range l {
		if !beginsBy(m, ahead) {
			out = laidBy(out, m)
			continue
		}
		for _, x := range of {
			if len(out) > impl.MaxMades {
				return out
			}
			body := append(slices.Clone(x.Body), m.Body[1:]...)
			out = laidBy(out, impl.Made{Head: m.Head, Body: body, Term: putInRightBy(m.Term, x.Term, len(x.Body))})
		}
	}
	return out
}

// behindBy is a Made with one more symbol behind.
func behindBy(m impl.Made, symbol string) impl.Made {
	m.Term = tmPlug(tmVar(int64(len(m.Body))), copyTerm(m.Term))
	m.Body = append(slices.Clone(m.Body), symbol)
	return m
}

// turnedBy is the Mades of a head, and those of the head with +.
func turnedBy(head string, l []impl.Made) ([]impl.Made, []impl.Made) {
	if !slices.ContainsFunc(l, func(m impl.Made) bool { return beginsBy(m, head) }) {
		return l, nil
	}
	var own, plus []impl.Made
	for _, m := range l {
		if !beginsBy(m, head) {
			own = laidBy(laidBy(own, m), behindBy(m, head+"+"))
			continue
		}
		one := impl.Made{Head: head + "+", Body: m.Body[1:]}
		if termRightBy(m.Term) {
			one.Term = putInBy(m.Term, 0, tmBox(), 0)
		}
		plus = laidBy(laidBy(plus, one), behindBy(one, head+"+"))
	}
	return own, plus
}

func straightBy(l []impl.Made) impl.MadesOut {
	if len(l) > impl.MaxList {
		return impl.MadesOut{Code: impl.ErrSize}
	}
	return straightAllBy(l)
}

// straightAllBy is straightBy, however many Mades there are.
func straightAllBy(l []impl.Made) impl.MadesOut {
	for _, m := range l {
		if len(m.Body) == 0 {
			return impl.MadesOut{Code: impl.ErrForm}
		}
	}
	var out []impl.Made
	heads := headsBy(l)
	for i, head := range heads {
		var own []impl.Made
		for _, m := range ofBy(l, head) {
			own = laidBy(own, m)
		}
		most := impl.MaxMades - len(ofBy(out, head))
		tooMany := len(own) > most
		for _, ahead := range heads[:i] {
			own = insteadBy(own, ahead, ofBy(out, ahead))
			tooMany = tooMany || len(own) > most
		}
		if tooMany {
			return impl.MadesOut{Code: impl.ErrFull}
		}
		own, plus := turnedBy(head, own)
		for _, m := range slices.Concat(own, plus) {
			out = laidBy(out, m)
		}
	}
	full := false
	for _, m := range out {
		full = full || len(m.Body) > mostBody || !termRightBy(m.Term)
	}
	if full || len(out) > impl.MaxMades {
		return impl.MadesOut{Code: impl.ErrFull}
	}
	return impl.MadesOut{Mades: out}
}

// roundBy tells whether a head comes to stand at its own left end. Nothing comes
// of a token, even if it stands as a Head.
func roundBy(l []impl.Made, head string) bool {
	come := []string{head}
	for at := 0; at < len(come); at++ {
		for _, m := range l {
			if m.Head != come[at] || len(m.Body) == 0 || impl.IsToken(m.Body[0]) {
				continue
			}
			if m.Body[0] == head {
				return true
			}
			if !slices.Contains(come, m.Body[0]) {
				come = append(come, m.Body[0])
			}
		}
	}
	return false
}

func leftFreeBy(l []impl.Made) bool {
	return !slices.ContainsFunc(headsBy(l), func(head string) bool { return roundBy(l, head) })
}

// Straight.

// checkStraight fails the test if what is made straight of Mades is not told
// by that text, whole.
func checkStraight(t *testing.T, l []impl.Made, want string) {
	t.Helper()
	what := "Straight of " + impl.MadesText(l)
	got := impl.Straight(l)
	same(t, "Code, "+what, got.Code, impl.OK)
	same(t, what, impl.MadesText(got.Mades), want)
	sameMades(t, what, got.Mades, mades(want))
}

// checkCode fails the test if Mades are not refused with that code, and
// nothing else.
func checkCode(t *testing.T, what string, l []impl.Made, code int64) {
	t.Helper()
	got := impl.Straight(l)
	same(t, "Code, "+what, got.Code, code)
	if code != impl.OK {
		same(t, "Mades, "+what, len(got.Mades), 0)
	}
}

func TestStraight(t *testing.T) {
	for _, c := range [][2]string{
		{"", ""},
		{"S -> a : (0 $0)\n", "S -> a : (0 $0)\n"},
		// Nothing is at its own left end: all stays, but by heads.
		{"S -> a S b : (0 $0 $1 $2)\nS -> a : (1 $0)\n", "S -> a S b : (0 $0 $1 $2)\nS -> a : (1 $0)\n"},
		{"S -> A b : (0 $0 $1)\nA -> a : (1 $0)\nS -> c : (2 $0)\nA -> d S : (3 $0 $1)\n", "S -> A b : (0 $0 $1)\nS -> c : (2 $0)\nA -> a : (1 $0)\nA -> d S : (3 $0 $1)\n"},
		{"S -> Q a : (0 $0 $1)\n", "S -> Q a : (0 $0 $1)\n"},
		// A head that begins with itself.
		{"E -> E p T : (0 $0 $1 $2)\nE -> n : (1 (2 $0))\nT -> n : (2 $0)\n",
			"E -> n : (1 (2 $0))\nE -> n E+ : <$1 (1 (2 $0))>\nE+ -> p T : (0 [] $0 $1)\nE+ -> p T E+ : <$2 (0 [] $0 $1)>\nT -> n : (2 $0)\n"},
		// In several Mades, amid others, of several Mades.
		{"S -> a : (0 $0)\nS -> S b : (1 $0 $1)\nS -> c d : (2 $0 $1)\nS -> S e S : (3 $0 $1 $2)\nS -> f S : (4 $0 $1)\n",
			"S -> a : (0 $0)\nS -> a S+ : <$1 (0 $0)>\nS -> c d : (2 $0 $1)\nS -> c d S+ : <$2 (2 $0 $1)>\nS -> f S : (4 $0 $1)\nS -> f S S+ : <$2 (4 $0 $1)>\n" +
				"S+ -> b : (1 [] $0)\nS+ -> b S+ : <$1 (1 [] $0)>\nS+ -> e S : (3 [] $0 $1)\nS+ -> e S S+ : <$2 (3 [] $0 $1)>\n"},
		{"S -> S S : (0 $0 $1)\nS -> a : (1 $0)\n", "S -> a : (1 $0)\nS -> a S+ : <$1 (1 $0)>\nS+ -> S : (0 [] $0)\nS+ -> S S+ : <$1 (0 [] $0)>\n"},
		{"S -> S S a : (0 $0 $1 $2)\nS -> a : (1 $0)\n", "S -> a : (1 $0)\nS -> a S+ : <$1 (1 $0)>\nS+ -> S a : (0 [] $0 $1)\nS+ -> S a S+ : <$2 (0 [] $0 $1)>\n"},
		// One that does so only once a head ahead of it stands in its place.
		{"A -> B a : (0 $0 $1)\nA -> c : (1 $0)\nB -> A b : (2 $0 $1)\nB -> d : (3 $0)\n",
			"A -> B a : (0 $0 $1)\nA -> c : (1 $0)\n" +
				"B -> c b : (2 (1 $0) $1)\nB -> c b B+ : <$2 (2 (1 $0) $1)>\nB -> d : (3 $0)\nB -> d B+ : <$1 (3 $0)>\n" +
				"B+ -> a b : (2 (0 [] $0) $1)\nB+ -> a b B+ : <$2 (2 (0 [] $0) $1)>\n"},
		// A head ahead as it is then: without itself at the left.
		{"A -> A a : (0 $0 $1)\nA -> b : (1 $0)\nB -> c : (2 $0)\nB -> A d A : (3 $0 $1 $2)\n",
			"A -> b : (1 $0)\nA -> b A+ : <$1 (1 $0)>\nA+ -> a : (0 [] $0)\nA+ -> a A+ : <$1 (0 [] $0)>\n" +
				"B -> c : (2 $0)\nB -> b d A : (3 (1 $0) $1 $2)\nB -> b A+ d A : (3 <$1 (1 $0)> $2 $3)\n"},
		// Several heads ahead of one, the first one first.
		{"A -> B a : (0 $0 $1)\nA -> x : (1 $0)\nB -> C b : (2 $0 $1)\nB -> y : (3 $0)\nC -> A c : (4 $0 $1)\nC -> B e : (5 $0 $1)\n",
			"A -> B a : (0 $0 $1)\nA -> x : (1 $0)\nB -> C b : (2 $0 $1)\nB -> y : (3 $0)\n" +
				"C -> y a c : (4 (0 (3 $0) $1) $2)\nC -> y a c C+ : <$3 (4 (0 (3 $0) $1) $2)>\nC -> x c : (4 (1 $0) $1)\nC -> x c C+ : <$2 (4 (1 $0) $1)>\nC -> y e : (5 (3 $0) $1)\nC -> y e C+ : <$2 (5 (3 $0) $1)>\n" +
				"C+ -> b a c : (4 (0 (2 [] $0) $1) $2)\nC+ -> b a c C+ : <$3 (4 (0 (2 [] $0) $1) $2)>\nC+ -> b e : (5 (2 [] $0) $1)\nC+ -> b e C+ : <$2 (5 (2 [] $0) $1)>\n"},
		// A head behind does not stand in its place, nor one that stands in a
		// Body alone.
		{"A -> B c : (0 $0 $1)\nB -> C a : (1 $0 $1)\nB -> b : (2 $0)\n", "A -> B c : (0 $0 $1)\nB -> C a : (1 $0 $1)\nB -> b : (2 $0)\n"},
		// The order is that of the Heads, not that of the Bodies.
		{"S -> A b : (0 $0 $1)\nB -> S c : (1 $0 $1)\nA -> B d : (2 $0 $1)\nB -> B e : (3 $0 $1)\n",
			"S -> A b : (0 $0 $1)\nB -> A b c : (1 (0 $0 $1) $2)\nB -> A b c B+ : <$3 (1 (0 $0 $1) $2)>\nB+ -> e : (3 [] $0)\nB+ -> e B+ : <$1 (3 [] $0)>\n" +
				"A+ -> b c d : (2 (1 (0 [] $0) $1) $2)\nA+ -> b c d A+ : <$3 (2 (1 (0 [] $0) $1) $2)>\nA+ -> b c B+ d : (2 <$2 (1 (0 [] $0) $1)> $3)\nA+ -> b c B+ d A+ : <$4 (2 <$2 (1 (0 [] $0) $1)> $3)>\n"},
		// A head all of whose Mades begin with itself: what begins with it goes.
		{"A -> A a : (0 $0 $1)\n", "A+ -> a : (0 [] $0)\nA+ -> a A+ : <$1 (0 [] $0)>\n"},
		{"A -> A a : (0 $0 $1)\nB -> A b : (1 $0 $1)\nB -> c A : (2 $0 $1)\n", "A+ -> a : (0 [] $0)\nA+ -> a A+ : <$1 (0 [] $0)>\nB -> c A : (2 $0 $1)\n"},
		{"A -> A a : (0 $0 $1)\nB -> A b : (1 $0 $1)\nC -> B c : (2 $0 $1)\nC -> d : (3 $0)\n", "A+ -> a : (0 [] $0)\nA+ -> a A+ : <$1 (0 [] $0)>\nC -> d : (3 $0)\n"},
		// Alone in a Body.
		{"A -> a b : (0 $0 $1)\nA -> A c : (1 $0 $1)\nB -> A : (2 $0)\n",
			"A -> a b : (0 $0 $1)\nA -> a b A+ : <$2 (0 $0 $1)>\nA+ -> c : (1 [] $0)\nA+ -> c A+ : <$1 (1 [] $0)>\nB -> a b : (2 (0 $0 $1))\nB -> a b A+ : (2 <$2 (0 $0 $1)>)\n"},
		// What was straight stays.
		{"E -> n : (1 $0)\nE -> n E+ : <$1 (1 $0)>\nE+ -> p n : (0 [] $0 $1)\nE+ -> p n E+ : <$2 (0 [] $0 $1)>\n", "E -> n : (1 $0)\nE -> n E+ : <$1 (1 $0)>\nE+ -> p n : (0 [] $0 $1)\nE+ -> p n E+ : <$2 (0 [] $0 $1)>\n"},
		// Heads of whatever name.
		{"E+ -> E+ p : (0 $0 $1)\nE+ -> n : (1 $0)\nlong1 -> E+ q : (2 $0 $1)\n",
			"E+ -> n : (1 $0)\nE+ -> n E++ : <$1 (1 $0)>\nE++ -> p : (0 [] $0)\nE++ -> p E++ : <$1 (0 [] $0)>\nlong1 -> n q : (2 (1 $0) $1)\nlong1 -> n E++ q : (2 <$1 (1 $0)> $2)\n"},
		// What stands behind a head that is alone is nothing.
		{"S -> S : (0 $0)\nS -> a : (1 $0)\n", "S -> a : (1 $0)\nS -> a S+ : <$1 (1 $0)>\nS+ -> : (0 [])\nS+ -> S+ : <$0 (0 [])>\n"},
	} {
		checkStraight(t, mades(c[0]), c[1])
	}
	same(t, "no Mades at all", reflect.DeepEqual(impl.Straight(nil), impl.MadesOut{}), true)
	same(t, "an empty list", len(impl.Straight([]impl.Made{}).Mades), 0)
}

// One whose Head and Body another one has already is not laid.
func TestStraightLaysNoneTwice(t *testing.T) {
	for _, c := range [][2]string{
		// That one stands ahead, was laid of another Made, or of the same head.
		{"A -> a : (0 $0)\nB -> a b : (1 $0 $1)\nB -> A b : (2 $0 $1)\n", "A -> a : (0 $0)\nB -> a b : (1 $0 $1)\n"},
		{"A -> a : (0 $0)\nA -> a b : (1 $0 $1)\nB -> A b c : (2 $0 $1 $2)\nB -> A c : (3 $0 $1)\n",
			"A -> a : (0 $0)\nA -> a b : (1 $0 $1)\nB -> a b c : (2 (0 $0) $1 $2)\nB -> a b b c : (2 (1 $0 $1) $2 $3)\nB -> a c : (3 (0 $0) $1)\n"},
		{"A -> a : (0 $0)\nC -> a : (1 $0)\nB -> A b : (2 $0 $1)\nB -> C b : (3 $0 $1)\n", "A -> a : (0 $0)\nC -> a : (1 $0)\nB -> a b : (2 (0 $0) $1)\n"},
		{"A -> a : (0 $0)\nB -> A b : (1 $0 $1)\nB -> A b : (2 $0 $1)\n", "A -> a : (0 $0)\nB -> a b : (1 (0 $0) $1)\n"},
		// Laid one behind the other: the one laid first stays.
		{"A -> a : (0 $0)\nB -> A b : (1 $0 $1)\nB -> a b : (2 $0 $1)\n", "A -> a : (0 $0)\nB -> a b : (1 (0 $0) $1)\n"},
		// The other Head is another one.
		{"A -> a : (0 $0)\nB -> a : (1 $0)\n", "A -> a : (0 $0)\nB -> a : (1 $0)\n"},
		// In what does not begin with the head, and in what does.
		{"S -> a : (0 $0)\nS -> S b : (1 $0 $1)\nS -> a : (2 $0)\nS -> S b : (3 $0 $1)\n", "S -> a : (0 $0)\nS -> a S+ : <$1 (0 $0)>\nS+ -> b : (1 [] $0)\nS+ -> b S+ : <$1 (1 [] $0)>\n"},
		// One that is as if made so.
		{"S -> a S+ : (0 $0 $1)\nS -> a : (1 $0)\nS -> S b : (2 $0 $1)\n",
			"S -> a S+ : (0 $0 $1)\nS -> a S+ S+ : <$2 (0 $0 $1)>\nS -> a : (1 $0)\nS+ -> b : (2 [] $0)\nS+ -> b S+ : <$1 (2 [] $0)>\n"},
		{"S -> a : (1 $0)\nS -> a S+ : (0 $0 $1)\nS -> S b : (2 $0 $1)\nS -> S b S+ : (3 $0 $1 $2)\n",
			"S -> a : (1 $0)\nS -> a S+ : <$1 (1 $0)>\nS -> a S+ S+ : <$2 (0 $0 $1)>\nS+ -> b : (2 [] $0)\nS+ -> b S+ : <$1 (2 [] $0)>\nS+ -> b S+ S+ : <$2 (3 [] $0 $1)>\n"},
	} {
		checkStraight(t, mades(c[0]), c[1])
	}
}

// Where a head with + is handed in, too, it has those Mades that were laid
// behind the other head, and its own, in the order in which they stand.
func TestStraightOfMarksHandedIn(t *testing.T) {
	const ofS = "S -> b : (1 $0)\nS -> b S+ : <$1 (1 $0)>\nS+ -> a : (0 [] $0)\nS+ -> a S+ : <$1 (0 [] $0)>\n"
	const turn, end, own, last = "S -> S a : (0 $0 $1)\n", "S -> b : (1 $0)\n", "S+ -> c : (2 $0)\n", "T -> S+ d : (3 $0 $1)\n"
	const lastOfS = "T -> a d : (3 (0 [] $0) $1)\nT -> a S+ d : (3 <$1 (0 [] $0)> $2)\n"
	const lastOfOwn = "T -> c d : (3 (2 $0) $1)\n"
	for _, c := range [][2]string{
		{turn + end + own + last, ofS + own + lastOfS + lastOfOwn},
		{own + turn + end + last, own + ofS + lastOfOwn + lastOfS},
		{turn + own + last + end, ofS + own + lastOfS + lastOfOwn},
		// The head that is turned behind, or the one with + behind all.
		{own + last + turn + end, own + lastOfOwn + ofS},
		{last + own + turn + end, last + own + ofS},
		{turn + end + last + own, ofS + last + own},
		{last + turn + end + own, last + ofS + own},
		// One that is not handed in is no head that is gone through.
		{turn + end + last, ofS + last},
		// Its own are gone through, by heads ahead and by itself.
		{turn + end + "S+ -> S c : (2 $0 $1)\n" + last, ofS + "S+ -> b c : (2 (1 $0) $1)\nS+ -> b S+ c : (2 <$1 (1 $0)> $2)\n" +
			lastOfS + "T -> b c d : (3 (2 (1 $0) $1) $2)\nT -> b S+ c d : (3 (2 <$1 (1 $0)> $2) $3)\n"},
		{turn + end + own + "S+ -> S+ e : (4 $0 $1)\n" + last, ofS + own + "S+ -> c S++ : <$1 (2 $0)>\nS++ -> e : (4 [] $0)\nS++ -> e S++ : <$1 (4 [] $0)>\n" +
			lastOfS + lastOfOwn + "T -> c S++ d : (3 <$1 (2 $0)> $2)\n"},
		// Those that were laid stay as they are, and stand for none ahead.
		{"S -> S T : (0 $0 $1)\n" + end + "T -> d : (3 $0)\n" + own + "U -> S+ e : (4 $0 $1)\n",
			end + "S -> b S+ : <$1 (1 $0)>\nS+ -> T : (0 [] $0)\nS+ -> T S+ : <$1 (0 [] $0)>\nT -> d : (3 $0)\n" + own +
				"U -> T e : (4 (0 [] $0) $1)\nU -> T S+ e : (4 <$1 (0 [] $0)> $2)\nU -> c e : (4 (2 $0) $1)\n"},
		// All of its own are gone, but those that were laid are there.
		{"Q -> Q x : (5 $0 $1)\n" + turn + end + "S+ -> Q c : (2 $0 $1)\n" + last, "Q+ -> x : (5 [] $0)\nQ+ -> x Q+ : <$1 (5 [] $0)>\n" + ofS + lastOfS},
		// Of two alike the first one stays, wherever it was laid.
		{turn + end + "S+ -> a : (2 $0)\n" + last, ofS + lastOfS},
		{turn + end + "S+ -> a :\n" + last, ofS + lastOfS},
		{"S+ -> a : (2 $0)\n" + turn + end + last, "S+ -> a : (2 $0)\n" + end + "S -> b S+ : <$1 (1 $0)>\nS+ -> a S+ : <$1 (0 [] $0)>\n" +
			"T -> a d : (3 (2 $0) $1)\nT -> a S+ d : (3 <$1 (0 [] $0)> $2)\n"},
		{turn + end + "S+ -> c S+ : (2 $0 $1)\nS+ -> a S+ : (2 $0 $1)\n", ofS + "S+ -> c S+ : (2 $0 $1)\n"},
		// The head with two + likewise.
		{"S+ -> S+ a : (0 $0 $1)\nS+ -> b : (1 $0)\nS++ -> c : (2 $0)\nT -> S++ d : (3 $0 $1)\n",
			"S+ -> b : (1 $0)\nS+ -> b S++ : <$1 (1 $0)>\nS++ -> a : (0 [] $0)\nS++ -> a S++ : <$1 (0 [] $0)>\nS++ -> c : (2 $0)\n" +
				"T -> a d : (3 (0 [] $0) $1)\nT -> a S++ d : (3 <$1 (0 [] $0)> $2)\nT -> c d : (3 (2 $0) $1)\n"},
		// What stands behind a head that is alone is nothing, also where it is
		// put in, and begins with none.
		{"S -> S : (0 $0)\n" + end + own + "T -> S+ : (3 $0)\nU -> T : (4 $0)\n",
			end + "S -> b S+ : <$1 (1 $0)>\nS+ -> : (0 [])\nS+ -> S+ : <$0 (0 [])>\n" + own +
				"T -> : (3 (0 []))\nT -> S+ : (3 <$0 (0 [])>)\nT -> c : (3 (2 $0))\n" +
				"U -> : (4 (3 (0 [])))\nU -> S+ : (4 (3 <$0 (0 [])>))\nU -> c : (4 (3 (2 $0)))\n"},
	} {
		checkStraight(t, mades(c[0]), c[1])
	}
}

// A head with + has those that were laid behind the other one, and its own: with
// these it has MaxMades at most at some time.
func TestStraightOfMostMadesOfAMark(t *testing.T) {
	for _, own := range []int{1, 2, 99, 100, impl.MaxMades - 3, impl.MaxMades - 2, impl.MaxMades - 1, impl.MaxMades} {
		// All its own begin with A, and are gone.
		l := slices.Concat(mades(goneHead+"S -> S a : (0 $0 $1)\n"), gone("S+", own))
		code := map[bool]int64{true: impl.OK, false: impl.ErrFull}[own+2 <= impl.MaxMades]
		checkCode(t, fmt.Sprint("own, ", own), l, code)
		sameMades(t, fmt.Sprint("own, ", own), impl.Straight(l).Mades, straightBy(l).Mades)
	}
	for _, n := range []int{1, 49, 50, 51, 99, 100, 101} {
		// Some stand in the place of what begins with it.
		l := append(plusMades(n), made("A+ -> b : (1 $0)"), made("T -> A+ d : (2 $0 $1)"))
		got, want := impl.Straight(l), straightBy(l)
		same(t, fmt.Sprint("code of ", n), got.Code, want.Code)
		same(t, fmt.Sprint("full of ", n), got.Code == impl.ErrFull, 4*n+2 > impl.MaxMades)
		sameMades(t, fmt.Sprint("put together of ", n), got.Mades, want.Mades)
	}
}

// Terms of all kinds are put in, boxes and plugs too, and where a Term has more
// variables than its Body, these are moved, too.
func TestStraightPutsTermsIn(t *testing.T) {
	for _, c := range [][2]string{
		{"A -> a b : (1 $1 $0)\nB -> A c : (2 $1 $0 $0 $5)\n", "A -> a b : (1 $1 $0)\nB -> a b c : (2 $2 (1 $1 $0) (1 $1 $0) $6)\n"},
		{"A -> a b : $4\nB -> A c : <$1 (3 [] $0)>\n", "A -> a b : $4\nB -> a b c : <$2 (3 [] $4)>\n"},
		{"A -> a : []\nB -> A c : <(3 $0 []) $1>\n", "A -> a : []\nB -> a c : <(3 [] []) $1>\n"},
		{"A -> a : (5)\nB -> A : $1\n", "A -> a : (5)\nB -> a : $1\n"},
		{"S -> S a : (0 $1 $0 $0 $7)\nS -> b c : (1 $0)\n", "S -> b c : (1 $0)\nS -> b c S+ : <$2 (1 $0)>\nS+ -> a : (0 $0 [] [] $6)\nS+ -> a S+ : <$1 (0 $0 [] [] $6)>\n"},
		{"S -> S a : $1\nS -> b : []\n", "S -> b : []\nS -> b S+ : <$1 []>\nS+ -> a : $0\nS+ -> a S+ : <$1 $0>\n"},
		{"S -> S a : $0\nS -> b : $9223372036854775807\n", "S -> b : $9223372036854775807\nS -> b S+ : <$1 $9223372036854775807>\nS+ -> a : []\nS+ -> a S+ : <$1 []>\n"},
	} {
		checkStraight(t, mades(c[0]), c[1])
	}
}

// Faults, and the limits.

func TestStraightOfEmptyBodies(t *testing.T) {
	empty := impl.Made{Head: "S", Term: term("(0)")}
	for what, l := range map[string][]impl.Made{
		"alone": {empty}, "an empty list": {{Head: "S", Body: []string{}, Term: term("(0)")}}, "a zero Made": {{}},
		"first": append([]impl.Made{empty}, manyMades(3)...), "last": append(manyMades(3), empty),
		"amid others": slices.Concat(manyMades(3), []impl.Made{empty}, manyMades(2)),
		// It is asked ahead of what is too much.
		"behind one of a wrong Term":  {{Head: "S", Body: words("a")}, empty},
		"behind a long one":           {{Head: "S", Body: many("a", 50), Term: tmVar(0)}, empty},
		"behind more than MaxMades":   append(manyMades(impl.MaxMades+1), empty),
		"as the last one of MaxList":  append(manyMades(impl.MaxList-1), empty),
		"where it could be made such": append(mades("A -> A a : (0 $0 $1)\nS -> A : (1 $0)\n"), empty),
	} {
		checkCode(t, what, l, impl.ErrForm)
	}
	// What has one symbol that is the empty text is no empty Body.
	checkCode(t, "an empty symbol", []impl.Made{{Head: "S", Body: []string{""}, Term: tmVar(0)}}, impl.OK)
}

// gone is Mades that begin with a head of which there are none in the end.
func gone(head string, n int) []impl.Made {
	l := manyMades(n)
	for i := range l {
		l[i].Head, l[i].Body = head, append([]string{"A"}, l[i].Body...)
	}
	return l
}

// goneHead is Mades of the head A that all begin with it, and straightGone what
// is made of these.
const goneHead, straightGone = "A -> A a : (0 $0 $1)\n", "A+ -> a : (0 [] $0)\nA+ -> a A+ : <$1 (0 [] $0)>\n"

// MaxList Mades are taken, also where few stay; one more is not, whatever else
// is wrong.
func TestStraightOfMostItems(t *testing.T) {
	l := slices.Concat(mades(goneHead), gone("B", impl.MaxMades), gone("C", impl.MaxList-impl.MaxMades-1))
	same(t, "how many", len(l), impl.MaxList)
	checkCode(t, "MaxList", l, impl.OK)
	sameMades(t, "MaxList", impl.Straight(l).Mades, mades(straightGone))
	for what, one := range map[string]impl.Made{
		"right": made("C -> c : (0 $0)"), "of an empty Body": made("C -> : (0)"), "of a wrong Term": {Head: "C", Body: words("c")},
	} {
		checkCode(t, "one more, "+what, append(slices.Clone(l), one), impl.ErrSize)
	}
	checkCode(t, "many empty Bodies", make([]impl.Made, impl.MaxList+1), impl.ErrSize)
	checkCode(t, "far more", manyMades(2*impl.MaxList), impl.ErrSize)
}

// A Body of 12 symbols may stay, one of 13 may not, however it came to be.
func TestStraightOfMostSymbols(t *testing.T) {
	body := func(head string, first string, n int) impl.Made {
		return impl.Made{Head: head, Body: append([]string{first}, many("b", n-1)...), Term: term("(1 $0)")}
	}
	a := func(n int) impl.Made { return body("A", "a", n) }
	for _, n := range []int{mostBody - 1, mostBody, mostBody + 1, mostBody + 2, 5000} {
		code := map[bool]int64{true: impl.OK, false: impl.ErrFull}[n <= mostBody]
		for what, l := range map[string][]impl.Made{
			"handed in":            {a(n)},
			"the last one":         append(manyMades(5), a(n)),
			"of an unknown head":   {body("A", "Q", n)},
			"of a head behind":     {body("A", "B", n), made("B -> b : (0 $0)")},
			"put together":         {a(5), body("B", "A", n-4)},
			"put together of most": {a(min(n, mostBody)), body("B", "A", n+1-min(n, mostBody))},
			"of one symbol":        {a(1), body("B", "A", n)},
			"in a head that stays": {a(1), body("A", "A", 2), body("B", "A", n-1)},
			"with + behind":        {a(n - 1), body("A", "A", 2)},
			"in +, with it behind": {a(1), body("A", "A", n)},
			"without others":       {body("A", "A", n)},
		} {
			checkCode(t, fmt.Sprint(what, ", ", n), l, code)
			sameMades(t, fmt.Sprint(what, ", ", n), impl.Straight(l).Mades, straightBy(l).Mades)
		}
		// It is asked at the end.
		l := append(mades(goneHead), body("B", "A", n))
		checkCode(t, fmt.Sprint("gone, ", n), l, impl.OK)
		sameMades(t, fmt.Sprint("gone, ", n), impl.Straight(l).Mades, mades(straightGone))
	}
}

// other is as many Mades of a head that do not begin with one.
func other(head string, n int) []impl.Made {
	l := manyMades(n)
	for i := range l {
		l[i].Head = head
	}
	return l
}

// MaxMades Mades may stay, one more may not, of one head or of several.
func TestStraightOfMostMades(t *testing.T) {
	const most = impl.MaxMades
	turn, twoTurns := mades("S -> S a : (0 $0 $1)\n"), mades("S -> S a : (0 $0 $1)\nS -> S b : (1 $0 $1)\n")
	for what, c := range map[string]struct {
		l []impl.Made
		n int
	}{
		"one less":            {manyMades(most - 1), most - 1},
		"of one head":         {manyMades(most), most},
		"one more":            {manyMades(most + 1), most + 1},
		"as many as may be":   {manyMades(impl.MaxList), impl.MaxList},
		"of two heads":        {slices.Concat(other("S", most/2), other("T", most/2)), most},
		"of two, one more":    {slices.Concat(other("S", most/2+1), other("T", most/2)), most + 1},
		"the last one more":   {slices.Concat(other("S", most/2), other("T", most/2), other("U", 1)), most + 1},
		"turned":              {append(other("S", most/2-1), turn...), most},
		"turned, two more":    {append(other("S", most/2), turn...), most + 2},
		"turned, one more":    {slices.Concat(other("S", most/2-1), turn, other("T", 1)), most + 1},
		"turned twice":        {append(other("S", most/2-2), twoTurns...), most},
		"turned twice, more":  {slices.Concat(other("S", most/2-2), twoTurns, other("T", 1)), most + 1},
		"put together":        {slices.Concat(other("S", 10), mades("T -> S a : (0 $0 $1)\n"), other("U", most-20)), most},
		"put together, more":  {slices.Concat(other("S", 10), mades("T -> S a : (0 $0 $1)\n"), other("U", most-19)), most + 1},
		"put together, many":  {slices.Concat(other("S", 13), mades("T -> S a a : (0 $0)\nT -> S b b : (0 $0)\n"), other("U", most-39)), most},
		"many, and one more":  {slices.Concat(other("S", 13), mades("T -> S a a : (0 $0)\nT -> S b b : (0 $0)\n"), other("U", most-38)), most + 1},
		"of as many heads":    {ownHeads(most), most},
		"of one head more":    {ownHeads(most + 1), most + 1},
		"of heads, far more":  {ownHeads(impl.MaxList), impl.MaxList},
		"all in the head's +": {plusMades(most / 2), most},
		"more in the head's+": {plusMades(most/2 + 1), most + 2},
	} {
		code := map[bool]int64{true: impl.OK, false: impl.ErrFull}[c.n <= most]
		checkCode(t, what, c.l, code)
		if code == impl.OK {
			same(t, "how many, "+what, len(impl.Straight(c.l).Mades), c.n)
			sameMades(t, what, impl.Straight(c.l).Mades, straightBy(c.l).Mades)
		}
	}
}

// ownHeads is as many Mades, each of its own head.
func ownHeads(n int) []impl.Made {
	var l []impl.Made
	for i := range n {
		l = append(l, impl.Made{Head: fmt.Sprint("H", i), Body: []string{"a"}, Term: tmNode(int64(i))})
	}
	return l
}

// plusMades is as many Mades that all begin with their head.
func plusMades(n int) []impl.Made {
	l := gone("A", n)
	for i := range l {
		l[i].Term = term("(1 $0)")
	}
	return l
}

// What one head has at some time is asked at once: also where in the end fewer
// would stay.
func TestStraightOfMostMadesAtSomeTime(t *testing.T) {
	for _, n := range []int{impl.MaxMades - 1, impl.MaxMades, impl.MaxMades + 1, impl.MaxMades + 50} {
		code := map[bool]int64{true: impl.OK, false: impl.ErrFull}[n <= impl.MaxMades]
		l := append(mades(goneHead), gone("B", n)...)
		checkCode(t, fmt.Sprint("handed in, ", n), l, code)
		sameMades(t, fmt.Sprint("handed in, ", n), impl.Straight(l).Mades, straightBy(l).Mades)
	}
	for _, c := range []struct {
		first, last int
		code        int64
	}{{20, 10, impl.OK}, {21, 10, impl.ErrFull}, {20, 11, impl.ErrFull}, {100, 2, impl.OK}, {101, 2, impl.ErrFull}, {2, 100, impl.OK}, {1, 200, impl.OK}} {
		// All of C begin with B, then with A, and are gone.
		l := slices.Concat(gone("B", c.first), mades(goneHead))
		for _, m := range gone("C", c.last) {
			m.Body[0] = "B"
			l = append(l, m)
		}
		what := fmt.Sprint("put together of ", c.first, " and ", c.last)
		checkCode(t, what, l, c.code)
		if c.code == impl.OK {
			same(t, "how many, "+what, len(impl.Straight(l).Mades), c.first+2)
		}
	}
	// One that is not laid does not count.
	l := append(other("A", 1), other("B", impl.MaxMades-2)...)
	l[0].Body = []string{"a"}
	l = append(l, made("B -> A a : (5 $0 $1)"), made("B -> A b : (5 $0 $1)"))
	checkCode(t, "those that are not laid", l, impl.OK)
	same(t, "how many without these", len(impl.Straight(l).Mades), impl.MaxMades-1)
}

// A Term that is not right may not stay, but it is asked at the end.
func TestStraightOfWrongTerms(t *testing.T) {
	wrong := wrongTerms()
	for what, x := range hugeTerms() {
		wrong[what] = x
	}
	for i := range 3 {
		list := make([]impl.Term, i+1)
		for k := range list {
			list[k] = impl.Term{Kind: impl.TmNode, Kids: list}
		}
		wrong[fmt.Sprint("one without end of ", i+1)] = list[0]
	}
	bad := func(line string, x impl.Term) impl.Made {
		m := made(line + " : $0")
		m.Term = x
		return m
	}
	for what, x := range wrong {
		for where, l := range map[string][]impl.Made{
			"alone":                        {bad("S -> a", x)},
			"behind others":                append(manyMades(3), bad("T -> a", x)),
			"with + behind":                {bad("S -> a", x), made("S -> S b : (0 $0 $1)")},
			"in +":                         {made("S -> a : (0 $0)"), bad("S -> S b", x)},
			"in the place of a variable":   {bad("S -> a", x), made("T -> S b : (0 $0 $1)")},
			"where one is put in":          {made("S -> a : (0 $0)"), bad("T -> S b", x)},
			"where the last one is put in": {made("S -> a : (0 $0)"), made("T -> a b : $0"), bad("T -> S c", x)},
		} {
			checkCode(t, what+", "+where, l, impl.ErrFull)
		}
		for where, c := range map[string]struct {
			l    []impl.Made
			want string
		}{
			"gone":                 {append(mades(goneHead), bad("B -> A b", x)), straightGone},
			"gone where it was in": {append(mades(goneHead), made("B -> A b : (0 $1)"), bad("C -> B c", x)), straightGone},
			"not laid":             {[]impl.Made{made("A -> a : $0"), made("B -> a b : $1"), bad("B -> A b", x)}, "A -> a : $0\nB -> a b : $1\n"},
			"not laid in +":        {[]impl.Made{made("A -> A a : (0 $0 $1)"), bad("A -> A a", x)}, straightGone},
		} {
			checkCode(t, what+", "+where, c.l, impl.OK)
			sameMades(t, what+", "+where, impl.Straight(c.l).Mades, mades(c.want))
		}
	}
}

// Terms as deep and as large as may be stay; what is put together of such may
// be too deep or too large.
func TestStraightOfLargestTerms(t *testing.T) {
	deep := func(n int) impl.Term { return deepTerm(n-1, inNode, tmVar(0)) }
	wide := func(n int) impl.Term { return wideTerm(n-1, tmVar(0)) }
	plain := func(line string, x impl.Term) impl.Made {
		m := made(line + " :")
		m.Term = x
		return m
	}
	for what, c := range map[string]struct {
		of   func(int) impl.Term
		most int
	}{"deep": {deep, mostDeep}, "terms": {wide, impl.MaxTree}} {
		for _, n := range []int{c.most - 3, c.most - 2, c.most - 1, c.most, c.most + 1} {
			x := c.of(n)
			for where, l := range map[string][]impl.Made{
				"alone":         {plain("S -> a", x)},
				"with + behind": {plain("S -> a", x), made("S -> S b : (0 $0 $1)")},
				"in +":          {made("S -> a : (0 $0)"), plain("S -> S b", x)},
				"put in":        {plain("S -> a", x), made("T -> S b : (0 $0)")},
				"put in as is":  {plain("S -> a", x), made("T -> S b : $0")},
				"where it is":   {made("S -> a : []"), plain("T -> S b", x)},
				"of two":        {plain("S -> a", c.of(3)), plain("T -> S b", x)},
			} {
				got, want := impl.Straight(l), straightBy(l)
				same(t, fmt.Sprint(what, ", ", where, ", ", n), got.Code, want.Code)
				sameMades(t, fmt.Sprint(what, ", ", where, ", ", n), got.Mades, want.Mades)
			}
		}
		checkCode(t, what+", most", []impl.Made{plain("S -> a", c.of(c.most))}, impl.OK)
		checkCode(t, what+", one more", []impl.Made{plain("S -> a", c.of(c.most+1))}, impl.ErrFull)
		step := map[string]int{"deep": 1, "terms": 2}[what]
		checkCode(t, what+", a plug of most", []impl.Made{plain("S -> a", c.of(c.most-step)), made("S -> S b : $0")}, impl.OK)
		checkCode(t, what+", a plug of one more", []impl.Made{plain("S -> a", c.of(c.most-step+1)), made("S -> S b : $0")}, impl.ErrFull)
		checkCode(t, what+", a plug of most in +", []impl.Made{made("S -> a : $0"), plain("S -> S b", c.of(c.most-step))}, impl.OK)
		checkCode(t, what+", a plug of one more in +", []impl.Made{made("S -> a : $0"), plain("S -> S b", c.of(c.most-step+1))}, impl.ErrFull)
	}
}

// Bodies that would double from head to head, and Terms that no memory would
// hold, come to an answer all the same.
func TestStraightOfWhatGrows(t *testing.T) {
	var bodies, terms []impl.Made
	for i := range impl.MaxList {
		head, next := fmt.Sprint("H", i), fmt.Sprint("H", i+1)
		if i > 0 {
			next = "H0"
		}
		bodies = append(bodies, impl.Made{Head: head, Body: []string{next, "x"}, Term: term("(0 $0 $1)")})
	}
	checkCode(t, "Bodies", bodies, impl.OK)
	for i := range bodies {
		bodies[i].Head, bodies[i].Body[0] = fmt.Sprint("H", i), fmt.Sprint("H", i+1)
	}
	bodies = bodies[:impl.MaxMades]
	for i := range bodies {
		bodies = append(bodies, impl.Made{Head: fmt.Sprint("H", i), Body: []string{"H0", "y"}, Term: term("(1 $0 $1)")})
	}
	checkCode(t, "Bodies that double", bodies, impl.ErrFull)
	for i := range impl.MaxMades {
		terms = append(terms, impl.Made{Head: "A", Body: []string{"Z", fmt.Sprint("x", i)}, Term: wideTerm(impl.MaxTree-1, tmVar(0))})
	}
	terms[0] = made("Z -> Z z : (0 $0 $1)")
	for i := range impl.MaxList - len(terms) {
		terms = append(terms, impl.Made{Head: fmt.Sprint("H", i), Body: []string{"A", "y"}, Term: wideTerm(impl.MaxTree-1, tmVar(0))})
	}
	checkCode(t, "wide Terms, gone", terms, impl.OK)
	terms[0].Body[0] = "z"
	checkCode(t, "wide Terms", terms, impl.ErrFull)
}

// LeftFree.

func TestLeftFree(t *testing.T) {
	for text, want := range map[string]bool{
		"":                             true,
		"S -> a : $0\n":                true,
		"S -> : (0)\n":                 true,
		"S -> S : $0\n":                false,
		"S -> S a : $0\n":              false,
		"S -> a S : $0\nS -> b S : $0": true,
		"S -> a : $0\nS -> S a : $0\n": false,
		// Through others.
		"A -> B a : $0\nB -> A b : $0\n":                             false,
		"A -> B a : $0\nB -> b A : $0\n":                             true,
		"A -> B : $0\nB -> C : $0\nC -> A : $0\n":                    false,
		"A -> B : $0\nB -> C : $0\nC -> a A : $0\n":                  true,
		"A -> B : $0\nB -> C : $0\nC -> a A : $0\nC -> B : $0":       false,
		"A -> a : $0\nA -> B : $0\nB -> b : $0\nB -> A : $0":         false,
		"A -> B c : $0\nA -> C b : $0\nB -> C : $0\nC -> c A B : $0": true,
		// A head that leads to one that comes round, and one that is led to.
		"S -> A a : $0\nA -> A : $0\n":                          false,
		"S -> S a : $0\nS -> A a : $0\nA -> a : $0":             false,
		"S -> A a : $0\nT -> U a : $0\nU -> T : $0\nA -> a: $0": false,
		// What has no Made leads to none, nor does what is nothing.
		"S -> Q S : $0\n":                          true,
		"S -> A S : $0\nA -> : (0)\n":              true,
		"S -> A S : $0\nA -> : (0)\nA -> S : $0\n": false,
		// A token is no head, also where it stands as one.
		"a -> a : $0\n":                                 true,
		"S -> a b : $0\na -> S c : $0\n":                true,
		"S -> a b : $0\na -> a S : $0\n":                true,
		"a -> b : $0\nb -> a : $0\n":                    true,
		"S -> T b : $0\nT -> a c : $0\na -> S b : $0\n": true,
		"a -> S b : $0\nS -> S a : $0\n":                false,
		"abcd -> abcd : $0\n":                           true,
		"abcde -> abcde : $0\n":                         false,
		"A -> A : $0\na -> a : $0\n":                    false,
		// What is no token is a head.
		"1 -> 1 a : $0\n":                  false,
		"S+ -> S+ a : $0\n":                false,
		"aB -> S b : $0\nS -> aB c : $0\n": false,
		// The Heads of + are others, and told apart.
		"E -> n E+ : $0\nE+ -> p E E+ : $0\n":         true,
		"E -> E+ n : $0\nE+ -> E p : $0\n":            false,
		"E -> E+ n : $0\nE+ -> E++ p : $0\n":          true,
		"SS -> S a : $0\nS -> SSS a : $0\n":           true,
		"S -> a : $0\nS -> b : $0\nS -> a : $0\n":     true,
		"S -> A a : $0\nS -> A a : $0\nA -> a S : $0": true,
	} {
		l := mades(text)
		same(t, "LeftFree of "+text, impl.LeftFree(l), want)
		slices.Reverse(l)
		same(t, "LeftFree of the other way round of "+text, impl.LeftFree(l), want)
	}
	// Terms are not asked, nor how long a Body is.
	for what, x := range wrongTerms() {
		l := []impl.Made{{Head: "S", Body: append([]string{"A"}, many("S", 5000)...), Term: x}, {Head: "A", Body: words("a S A"), Term: x}}
		same(t, "LeftFree, "+what, impl.LeftFree(l), true)
		same(t, "LeftFree, round, "+what, impl.LeftFree(append(l, impl.Made{Head: "A", Body: words("S"), Term: x})), false)
	}
}

// A list of MaxList Mades is taken, one of one more is not.
func TestLeftFreeOfMostItems(t *testing.T) {
	for _, n := range []int{impl.MaxMades + 1, impl.MaxList - 1, impl.MaxList, impl.MaxList + 1, 2 * impl.MaxList} {
		same(t, fmt.Sprint("LeftFree of ", n), impl.LeftFree(manyMades(n)), n <= impl.MaxList)
		// A line of heads, of which the last one leads to one of them.
		var line []impl.Made
		for i := range n {
			line = append(line, impl.Made{Head: fmt.Sprint("H", i), Body: []string{fmt.Sprint("H", i+1), "a"}})
		}
		for _, back := range []int{0, 1, n / 2, n - 1, n} {
			line[n-1].Body[0] = fmt.Sprint("H", back)
			same(t, fmt.Sprint("LeftFree of a line of ", n, " back to ", back), impl.LeftFree(line), n <= impl.MaxList && back == n)
		}
	}
}

// Promise 9.

// leftMades is Mades of a few heads, of which some are often at the left.
func leftMades(r *rand.Rand) []impl.Made {
	return leftMadesOf(r, words("S A B C"))
}

// leftMadesOf is such Mades of these four heads.
func leftMadesOf(r *rand.Rand, heads []string) []impl.Made {
	tokens := words("a b c")
	var l []impl.Made
	for range 1 + r.Intn(9) {
		one := impl.Made{Head: heads[r.Intn(4)], Term: someTerm(r, 1+r.Intn(3))}
		for i := range []int{1, 1, 2, 2, 2, 3, 4}[r.Intn(7)] {
			symbol := tokens[r.Intn(3)]
			if r.Intn(5) < 3-min(i, 2) {
				symbol = heads[r.Intn(4)]
			}
			one.Body = append(one.Body, symbol)
		}
		if r.Intn(80) == 0 {
			one.Body = nil
		}
		if r.Intn(40) == 0 {
			one.Term = turnTerm(r, one.Term)
		}
		l = append(l, one)
	}
	return l
}

// hasEmpty tells whether a Body is nothing. Where a head stood alone in a Body
// of its own, there is one of its + that leads round.
func hasEmpty(l []impl.Made) bool {
	return slices.ContainsFunc(l, func(m impl.Made) bool { return len(m.Body) == 0 })
}

func TestStraightOfWhateverMades(t *testing.T) {
	r := rand.New(rand.NewSource(27))
	count := map[string]int{}
	for range 20000 {
		if t.Failed() {
			return
		}
		l := leftMades(r)
		text := fmt.Sprintf("%+v", l)
		got, want := impl.Straight(l), straightBy(l)
		same(t, "Code of "+text, got.Code, want.Code)
		sameMades(t, "Straight of "+text, got.Mades, want.Mades)
		free := impl.LeftFree(l)
		same(t, "LeftFree of "+text, free, leftFreeBy(l))
		same(t, "LeftFree of Straight of "+text, impl.LeftFree(got.Mades), leftFreeBy(got.Mades))
		same(t, "promise 9, "+text, impl.LeftFree(got.Mades) || hasEmpty(got.Mades), true)
		count[fmt.Sprint("code ", got.Code)]++
		count[fmt.Sprint("free ", free)]++
		if got.Code == impl.OK && !free && !hasEmpty(got.Mades) {
			count["made free"]++
		}
	}
	enough(t, count, map[string]int{"code 0": 5000, fmt.Sprint("code ", impl.ErrForm): 300, fmt.Sprint("code ", impl.ErrFull): 500, "free true": 1000, "free false": 5000, "made free": 2000})
}

// Also of heads with + and of tokens as Heads it is to the letter what chapter 9
// says, though it is not said that no head comes round then.
func TestStraightOfWhateverHeads(t *testing.T) {
	r := rand.New(rand.NewSource(30))
	count := map[string]int{}
	for range 20000 {
		if t.Failed() {
			return
		}
		heads := words([]string{"S S+ A B", "S S+ S++ A", "S A A+ S+", "S a A b", "S+ a a+ A"}[r.Intn(5)])
		r.Shuffle(len(heads), func(i, k int) { heads[i], heads[k] = heads[k], heads[i] })
		l := leftMadesOf(r, heads)
		text := fmt.Sprintf("%+v", l)
		got, want := impl.Straight(l), straightBy(l)
		same(t, "Code of "+text, got.Code, want.Code)
		sameMades(t, "Straight of "+text, got.Mades, want.Mades)
		free := impl.LeftFree(l)
		same(t, "LeftFree of "+text, free, leftFreeBy(l))
		same(t, "LeftFree of Straight of "+text, impl.LeftFree(got.Mades), leftFreeBy(got.Mades))
		count[fmt.Sprint("code ", got.Code)]++
		count[fmt.Sprint("free ", free)]++
	}
	enough(t, count, map[string]int{"code 0": 5000, fmt.Sprint("code ", impl.ErrFull): 500, "free true": 1000, "free false": 5000})
}

// grownMade is a tree that Mades tell of a head, and the tokens of which it is
// told, or false if none was met with.
func grownMade(r *rand.Rand, l []impl.Made, symbol string, deep int) (impl.Tree, []string, bool) {
	if impl.IsToken(symbol) {
		return leaf(symbol), []string{symbol}, true
	}
	var of []impl.Made
	for _, m := range l {
		if m.Head == symbol {
			of = append(of, m)
		}
	}
	if len(of) == 0 || deep == 0 {
		return impl.Tree{}, nil, false
	}
	m := of[r.Intn(len(of))]
	var kids []impl.Tree
	var w []string
	for _, x := range m.Body {
		kid, part, ok := grownMade(r, l, x, deep-1)
		w = append(w, part...)
		if !ok || len(w) > 100 {
			return impl.Tree{}, nil, false
		}
		kids = append(kids, kid)
	}
	return impl.Build(m.Term, kids), w, true
}

// checkGrown fails the test if a tree that Mades tell is no right one of the
// Gram, or does not say what it was told of; it tells whether there was one.
func checkGrown(t *testing.T, r *rand.Rand, g impl.Gram, l []impl.Made) bool {
	t.Helper()
	start := g.Rules[0].Head
	x, w, ok := grownMade(r, l, start, 7)
	if !ok {
		return false
	}
	what := impl.MadesText(l) + "of " + impl.GramText(g) + "as " + textBy(x)
	same(t, "right, "+what, rightBy(g, start, x), true)
	sameDeep(t, "says, "+what, yieldBy(x), w)
	return true
}

// What is made straight of a Gram has no head that comes round, says what the
// Gram says, but for the text that is nothing, and tells right trees.
func TestWhatIsMadeStraight(t *testing.T) {
	r := rand.New(rand.NewSource(28))
	count := map[string]int{}
	for i := range 6000 {
		if t.Failed() {
			return
		}
		g := madeGram(r)
		if i%3 == 0 {
			g = read(t, roundGrams[i/3%len(roundGrams)])
			r.Shuffle(len(g.Rules), func(i, k int) { g.Rules[i], g.Rules[k] = g.Rules[k], g.Rules[i] })
		}
		text, start := impl.GramText(g), g.Rules[0].Head
		l := impl.NoUnit(impl.NoEmpty(g), start)
		got, want := impl.Straight(l), straightBy(l)
		same(t, "Code of "+text, got.Code, want.Code)
		sameMades(t, "Straight of "+text, got.Mades, want.Mades)
		same(t, "promise 9, "+text, impl.LeftFree(got.Mades), true)
		same(t, "promise 9, plainly, "+text, leftFreeBy(got.Mades), true)
		count[fmt.Sprint("code ", got.Code)]++
		if got.Code != impl.OK {
			continue
		}
		checkPlain(t, "Straight of "+text, got.Mades, false)
		count[fmt.Sprint("free ", impl.LeftFree(l))]++
		if checkGrown(t, r, g, got.Mades) {
			count["told"]++
		}
		if w := saidText(r, g, 5); len(w) > 0 && len(got.Mades) < 60 {
			said := impl.Derives(g, w)
			same(t, fmt.Sprint("Straight says ", w, " as ", text), saysBy(got.Mades, start, w), said)
			count[fmt.Sprint("said ", said)]++
		}
	}
	enough(t, count, map[string]int{"code 0": 2000, fmt.Sprint("code ", impl.ErrFull): 10, "free true": 500, "free false": 500, "told": 500, "said true": 200, "said false": 200})
}

// Chapter 1.

// What is handed in stays as it was, the room behind it too; no two lists of
// an answer share memory, nor do they with what was handed in, and the next
// answer is the same.
func TestStraightMadesStayAsTheyWere(t *testing.T) {
	r := rand.New(rand.NewSource(29))
	for range 4000 {
		if t.Failed() {
			return
		}
		l := leftMades(r)
		// What is handed in may share lists.
		if len(l) > 1 {
			l[0].Body, l[0].Term = l[1].Body, tmNode(3, l[1].Term, l[1].Term)
		}
		l = madesWithRoom(l)
		if len(l) > 3 {
			l[2].Body, l[2].Term = l[3].Body, l[3].Term
		}
		was := wholeMades(l)
		met := newMemory()
		met.meetMades(l, false)
		free := impl.LeftFree(l)
		first := impl.Straight(l)
		text := allOf(first.Mades)
		same(t, "memory of the answer to "+was, met.meetMades(first.Mades, true), true)
		same(t, "changed", wholeMades(l), was)
		again := impl.Straight(l)
		same(t, "asked again", fmt.Sprint(again.Code, allOf(again.Mades)), fmt.Sprint(first.Code, text))
		same(t, "LeftFree asked again", impl.LeftFree(l), free)
	}
}

// With another code than OK all else is zero.
func TestZeroAnswersOfStraight(t *testing.T) {
	for _, l := range [][]impl.Made{make([]impl.Made, impl.MaxList+1), {{}}, manyMades(impl.MaxMades + 1), {{Head: "S", Body: strings.Fields("a")}}} {
		got := impl.Straight(l)
		same(t, "OK", got.Code == impl.OK, false)
		same(t, "zero", reflect.DeepEqual(got, impl.MadesOut{Code: got.Code}), true)
	}
}
