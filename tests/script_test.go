package tests

import (
	"fmt"
	"math/rand"
	"regexp"
	"strings"
	"testing"

	"loop.example/g00828/impl"
)

// What chapter 12 says, read plainly.

// The lines of a script, as patterns.
var (
	ruleLine  = regexp.MustCompile(`\A[^ ]* ->`)
	textLine  = regexp.MustCompile(`\A(read|says)(( [a-z]{1,4}){0,12})\n\z`)
	leftLine  = regexp.MustCompile(`\Aleft ([A-Z]{1,4})\n\z`)
	otherLine = regexp.MustCompile(`\A((read|says)( [a-z]{1,4}){0,12}|left [A-Z]{1,4}|made)\n\z`)
)

// readTold is what is told of "read" and a text.
func readTold(g impl.Gram, w []string) string {
	out := impl.ReadAll(g, w)
	switch out.Code {
	case impl.OK:
		return impl.TreeText(out.Tree)
	case impl.ErrSyntax:
		return fmt.Sprint("at ", out.At)
	}
	return fmt.Sprint("error ", out.Code)
}

// saysTold is what is told of "says" and a text.
func saysTold(g impl.Gram, w []string) string {
	return map[bool]string{true: "yes", false: "no"}[impl.Derives(g, w)]
}

// leftTold is what is told of "left" and a head.
func leftTold(g impl.Gram, head string) string {
	if heads := impl.LeftOf(g, head); len(heads) > 0 {
		return strings.Join(heads, ",")
	}
	return "-"
}

// madeTold is what is told of "made".
func madeTold(g impl.Gram) string {
	out := impl.Compile(g)
	if out.Code == impl.OK {
		return fmt.Sprint(len(out.Comp.Rules))
	}
	return strings.TrimSuffix(fmt.Sprint("error ", out.Code, " ", out.What), " ")
}

// lineTold is what is told of a right line.
func lineTold(g impl.Gram, line string) string {
	if x := textLine.FindStringSubmatch(line); x != nil {
		if x[1] == "read" {
			return readTold(g, words(x[2]))
		}
		return saysTold(g, words(x[2]))
	}
	if x := leftLine.FindStringSubmatch(line); x != nil {
		return leftTold(g, x[1])
	}
	return madeTold(g)
}

// scriptBy is what a script of at most MaxBytes tells.
func scriptBy(text string) impl.ScriptOut {
	var out impl.ScriptOut
	lines := strings.SplitAfter(text, "\n")
	if lines[len(lines)-1] == "" {
		lines = lines[:len(lines)-1]
	}
	first := 0
	for first < len(lines) && ruleLine.MatchString(lines[first]) {
		first++
	}
	g := impl.GramRead(strings.Join(lines[:first], ""))
	if g.Code != impl.OK {
		return impl.ScriptOut{Code: impl.ErrSyntax}
	}
	for i, line := range lines[first:] {
		if i == impl.MaxLines || !otherLine.MatchString(line) {
			return impl.ScriptOut{Line: int64(first + i), Code: impl.ErrSyntax}
		}
		out.Text += lineTold(g.Gram, line) + "\n"
	}
	return out
}

// checkScript fails the test if not both calls answer as is wanted, again and
// again.
func checkScript(t *testing.T, text string, want impl.ScriptOut) {
	t.Helper()
	for range 2 {
		same(t, fmt.Sprintf("ScriptRun of %.600q", text), impl.ScriptRun(text), want)
		same(t, fmt.Sprintf("ScriptFault of %.600q", text), impl.ScriptFault(text), impl.ScriptOut{Line: want.Line, Code: want.Code})
	}
}

// checkLines fails the test if a line, of each that stands ahead of a ":", does
// not tell what stands behind it, alone, or with all the others.
func checkLines(t *testing.T, text string, cases ...string) {
	t.Helper()
	script, told := text, ""
	for _, one := range cases {
		line, want, _ := strings.Cut(one, " : ")
		checkScript(t, text+line+"\n", impl.ScriptOut{Text: want + "\n"})
		script, told = script+line+"\n", told+want+"\n"
		same(t, "promise 11", impl.ScriptRun(script).Text, told)
	}
	checkScript(t, script, impl.ScriptOut{Text: told})
	same(t, "plainly, "+script, impl.ScriptRun(script), scriptBy(script))
}

// checkWrong fails the test if something else is named than that line.
func checkWrong(t *testing.T, text string, line int64) {
	t.Helper()
	checkScript(t, text, impl.ScriptOut{Line: line, Code: impl.ErrSyntax})
	same(t, fmt.Sprintf("plainly, %q", text), scriptBy(text).Line, line)
}

// What each word tells.

func TestScriptRead(t *testing.T) {
	e := "E -> E p T\nE -> T\nT -> n\n"
	checkLines(t, e, "read n p n : (0 (1 (2 n)) p (2 n))", "read n : (1 (2 n))", "read n p n p n : (0 (0 (1 (2 n)) p (2 n)) p (2 n))",
		"read : at 0", "read n p : at 2", "read n n : at 1", "read p : at 0", "read n p n abcd : at 3")
	checkLines(t, "S -> ~\nS -> a S\n", "read : (0)", "read a : (1 a (0))", "read b : at 0", "read a b a : at 1")
	checkLines(t, "S -> abcd\n", "read abcd : (0 abcd)", "read abc : at 0", "read : at 0")
	// What can't be made ready is read by none, whatever the text.
	for text, code := range map[string]int{
		"S -> A\n": impl.ErrNone, "S -> a\nT -> Q\n": impl.ErrNone, "S -> S a\n": impl.ErrRange,
		"S -> a\nS -> S\n": impl.ErrState, "S -> a a N\n" + nullOf198: impl.ErrFull,
	} {
		told := fmt.Sprint(" : error ", code)
		checkLines(t, text, "read"+told, "read a"+told, "read a a"+told, "read b c"+told)
	}
	// The most tokens.
	list := "S -> S a\nS -> ~\n"
	most := strings.Repeat(" a", mostTokens)
	checkLines(t, list, "read"+most+" : "+strings.Repeat("(0 ", mostTokens)+"(1)"+strings.Repeat(" a)", mostTokens),
		"read"+most[2:]+" b : at 11", "says"+most+" : yes", "says"+most[2:]+" b : no")
	checkWrong(t, list+"read a\nread"+most+" a\n", 3)
	checkWrong(t, list+"says"+most+" a\n", 2)
	checkWrong(t, list+"says"+strings.Repeat(" a", impl.MaxList+1)+"\n", 2)
	checkWrong(t, list+"read"+strings.Repeat(" a", impl.MaxList+1)+"\n", 2)
}

// A tree that is too large for a text tells the empty one, in a line of its own.
func TestScriptReadsLargeTrees(t *testing.T) {
	checkLines(t, "S -> a N S\nS -> ~\n"+strings.Replace(nullOf198, " X", "", 1), "read : (1)", "read a a : ", "says a a : yes", "read a a b : at 2", "read b : at 0")
	most := "(1 " + renumbered(impl.TermText(nullsBy(read(t, nullOf198))["N"]), 2) + " (3))"
	checkLines(t, "S -> a\nS -> N E\n"+nullOf198, "read : "+most, "says : yes", "read b : at 0")
	checkLines(t, "S -> a\nS -> N E E\n"+nullOf198, "read : ", "says : yes", "read a : (0 a)", "made : 1", "read : ")
	for _, c := range []struct{ heads, many int }{{5, 5}, {9, 5}, {11, 5}, {14, 5}, {18, 2}, {impl.MaxRules - 1, impl.MaxBody}} {
		text := impl.GramText(wideOrToken(c.heads, c.many))
		told := strings.Repeat("\nyes\n", impl.MaxLines/2)
		checkScript(t, text+strings.Repeat("read\nsays\n", impl.MaxLines/2), impl.ScriptOut{Text: told})
	}
}

// renumbered is a tree's text with as much more in each Rule's number.
func renumbered(text string, more int) string {
	return regexp.MustCompile(`\(\d+`).ReplaceAllStringFunc(text, func(x string) string {
		var n int
		fmt.Sscan(x[1:], &n)
		return fmt.Sprint("(", n+more)
	})
}

func TestScriptSays(t *testing.T) {
	checkLines(t, "E -> E p T\nE -> T\nT -> n\n", "says n : yes", "says n p n : yes", "says : no", "says p : no", "says n p : no", "says n n : no")
	checkLines(t, "S -> ~\nS -> a S b\n", "says : yes", "says a b : yes", "says a a b b : yes", "says a : no", "says b a : no")
	// Also where it can't be made ready.
	checkLines(t, "S -> S\nS -> a\nS -> Q\n", "says a : yes", "says : no", "read a : error 6")
	checkLines(t, "S -> S a\n", "says a : no", "says : no", "read a : error 8")
}

func TestScriptLeft(t *testing.T) {
	e := "E -> E p T\nE -> T\nT -> F\nF -> n\nF -> l E r\n"
	checkLines(t, e, "left E : E,T,F", "left T : F", "left F : -", "left X : -", "left EE : -", "left ABCD : -")
	// In the order of Heads; useful or not; behind what comes to nothing.
	checkLines(t, "S -> C B A\nA -> a\nB -> ~\nC -> ~\nC -> x D\nD -> S\n", "left S : A,B,C", "left D : S,A,B,C", "left C : -", "left A : -")
	checkLines(t, "S -> a\nT -> Q T\nT -> T\n", "left T : T", "left Q : -", "left S : -")
	checkLines(t, "ABCD -> WXYZ a\nWXYZ -> a\n", "left ABCD : WXYZ", "left WXYZ : -")
}

func TestScriptMade(t *testing.T) {
	checkLines(t, "E -> E p T\nE -> T\nT -> n\n", "made : 5", "made : 5")
	checkLines(t, "S -> a\n", "made : 1")
	checkLines(t, "S -> ~\n", "made : 0", "read : (0)", "says : yes")
	checkLines(t, "S -> a\nT -> b\n", "made : 1")
	checkLines(t, impl.GramText(manySaid()), fmt.Sprint("made : ", impl.MaxMades))
	// Of a code what it is of, too, if it is told.
	checkLines(t, "S -> A\n", "made : error 6 A", "read a : error 6")
	checkLines(t, "S -> ABCD Q a\n", "made : error 6 ABCD")
	checkLines(t, "STU -> STU a\n", "made : error 8 STU")
	checkLines(t, "S -> A\nA -> B\nB -> A\nA -> a\n", "made : error 10 A")
	checkLines(t, "S -> a a N\n"+nullOf198, "made : error 9", "says a a : yes")
	checkLines(t, impl.GramText(manySaid(rule("S", "q"))), "made : error 9")
}

// The words in turn, and a script without any.
func TestScripts(t *testing.T) {
	checkLines(t, "S -> A S b\nS -> c\nA -> ~\nA -> a\n", "made : 7", "left S : S,A", "says a c b : yes", "read c b : (0 (2) (1 c) b)", "left A : -", "read a a : at 2", "made : 7", "read c b : (0 (2) (1 c) b)")
	for _, g := range []string{"S -> a\n", "S -> ~\n", "S -> Q\n", "S -> S\n", impl.GramText(fullGram()), nullOf198} {
		checkScript(t, g, impl.ScriptOut{})
	}
}

// What is no script.

// The first lines are no right Gram.
func TestScriptsWithoutGram(t *testing.T) {
	twenty := strings.Repeat("S -> a\n", impl.MaxRules)
	checkScript(t, twenty, impl.ScriptOut{})
	for _, text := range []string{
		"", "\n", " ", "\n\n", "made\n", "made", "read a\nS -> a\n", "made\nS -> a\n", "\nS -> a\n", "boom\n",
		"S\n", "S ->\n", "S -> \n", "S->a\n", "S - > a\n", "S  -> a\n", "S\t-> a\n", "S ->a\n", " S -> a\n", " -> a\n", "-> a\n", "S = a\n",
		"s -> a\n", "ABCDE -> a\n", "S+ -> a\n", "S -> abcde\n", "S -> aB\n", "S -> a+\n", "S -> a  b\n", "S -> a \n", "S -> ~ a\n", "S -> a ~\n", "S -> ~ ~\n",
		"S -> a b c d e f\n", "S -> a\r\n", "S -> a\x00\n", "S -> \xc3\n", "S -> -> a\n", "S -> a -> b\n",
		twenty + "S -> a\n", twenty + "S -> a\nmade\n",
		// One that is wrong behind others, and with other lines behind.
		"S -> a\ns -> b\n", "S -> a\nS ->\n", "S -> a\nS ->b\n", "S -> a\nS -> \nmade\n", "S -> a\nread -> a\n", "S -> a\nmade -> a\nmade\n",
		"S -> a\nleft ->\n", "S -> a\nS -> b  c\nboom\n", "s -> a\nboom\n", "S -> a\nS -> a b c d e f\nread\n", "s -> a\nmade", "s -> a\n\n",
		// The last of them lacks its line feed.
		"S -> a", "S -> a\nS -> b", "S -> a\nT -> ~", "S -> a\nS ->",
	} {
		checkWrong(t, text, 0)
	}
}

// The first other line that is none.
func TestScriptsWithWrongLines(t *testing.T) {
	wrong := []string{
		"", " ", "  ", "boom", "Made", "MADE", "mad", "madee", "reads", "say", "lefts", "S", "->", "a", "~",
		"made ", " made", "made a", "made S", "made  ", "made\r", "made\x00", "mad\xc3",
		"read ", " read", "read  a", "read a ", "read a  b", "read A", "read a B", "read a B c", "read ~", "read abcde", "read a1", "read a,b", "read a\tb", "read -", "read \xff", "READ a", "read\ta",
		"says ", " says", "says  a", "says a ", "says a  b", "says S", "says abcde", "says a S", "says ~", "says \u00e4",
		"left", "left ", " left S", "left  S", "left S ", "left S T", "left s", "left a", "left ABCDE", "left S+", "left ~", "left Ab", "left S a", "left S,T", "left  ",
		"S - > a", "S->a", "S  -> a", "-> a", "boom S -> a", "made S -> a", "read a -> b", "left S -> a",
	}
	g := "S -> a T\nT -> ~\n"
	for _, line := range wrong {
		checkWrong(t, g+line+"\n", 2)
		checkWrong(t, g+line+"\nmade\n", 2)
		checkWrong(t, g+"made\nread a\n"+line+"\nmade\n", 4)
		checkWrong(t, g+line+"\n"+line+"\nboom\n", 2)
		// It is none either with its line feed.
		if line != "" {
			checkWrong(t, g+line, 2)
			checkWrong(t, g+"says\nleft T\n"+line, 4)
		}
	}
	// A Rule behind another line.
	for _, line := range []string{"S -> a", "S -> ~", "S ->", "s -> a", " -> a", "read -> a"} {
		checkWrong(t, g+"made\n"+line+"\n", 3)
		checkWrong(t, g+"made\n"+line, 3)
		checkWrong(t, g+"made\n"+line+"\nmade\n", 3)
		checkWrong(t, g+"boom\n"+line+"\n", 2)
	}
	// What lacks its line feed, right but for that.
	for _, line := range words("made,read,read_a,read_b,says,says_a_a,left_S,left_Q") {
		for _, line := range strings.Split(strings.ReplaceAll(line, "_", " "), ",") {
			checkWrong(t, g+line, 2)
			checkWrong(t, g+"read a\nmade\n"+line, 4)
			checkScript(t, g+line+"\n", scriptBy(g+line+"\n"))
		}
	}
}

// As many other lines as may be, and more.
func TestScriptsOfMostLines(t *testing.T) {
	for _, g := range []string{"S -> a\n", "S -> ~\nS -> a\nS -> b\n", strings.Repeat("S -> a\n", impl.MaxRules)} {
		first := int64(strings.Count(g, "\n"))
		most := g + strings.Repeat("left S\n", impl.MaxLines)
		told := strings.Repeat("-\n", impl.MaxLines)
		checkScript(t, g+strings.Repeat("left S\n", impl.MaxLines-1), impl.ScriptOut{Text: told[2:]})
		checkScript(t, most, impl.ScriptOut{Text: told})
		for _, more := range []string{"left S\n", "left S", "boom\n", "\n", " ", "S -> a\n", "left S\nleft S\n", "left S\nboom\n"} {
			checkWrong(t, most+more, first+impl.MaxLines)
		}
		// One ahead of these is named first.
		checkWrong(t, g+"boom\n"+strings.Repeat("left S\n", impl.MaxLines), first)
		checkWrong(t, g+strings.Repeat("left S\n", impl.MaxLines-1)+"boom\nleft S\n", first+impl.MaxLines-1)
		checkWrong(t, g+strings.Repeat("left S\n", impl.MaxLines-1)+"left S", first+impl.MaxLines-1)
	}
	// The Gram is asked for ahead of all lines.
	checkWrong(t, "s -> a\n"+strings.Repeat("made\n", impl.MaxLines+1), 0)
}

// Chapter 1.

// A text of more than MaxBytes is refused, whatever is in it.
func TestScriptsThatAreTooLong(t *testing.T) {
	for _, text := range []string{"", "S -> a\n", "S -> a\nboom\n", "S -> a\nmade\n", strings.Repeat("S -> a\n", impl.MaxRules)} {
		for _, more := range []string{"a", "\n", " ", "made\n", "\xff"} {
			long := text + strings.Repeat(more, impl.MaxBytes+1)
			most := long[:impl.MaxBytes]
			checkScript(t, long[:impl.MaxBytes+1], impl.ScriptOut{Code: impl.ErrSize})
			checkScript(t, long, impl.ScriptOut{Code: impl.ErrSize})
			checkWrong(t, most, scriptBy(most).Line)
		}
	}
	// Also where it is a right script but for that.
	long := "S -> a\n" + strings.Repeat("read"+strings.Repeat(" abcd", mostTokens)+"\n", impl.MaxBytes/(mostTokens*5))
	checkScript(t, long, impl.ScriptOut{Code: impl.ErrSize})
	checkWrong(t, long[:impl.MaxBytes], 1+impl.MaxLines)
}

// What is told may be longer than a text that is handed in.
func TestScriptsThatTellMuch(t *testing.T) {
	g := "S -> a\nS -> N E\n" + nullOf198
	tree := impl.TreeText(impl.ReadAll(read(t, g), nil).Tree)
	told := strings.Repeat(tree+"\n", impl.MaxLines)
	same(t, "longer than MaxBytes", len(told) > 2*impl.MaxBytes, true)
	checkScript(t, g+strings.Repeat("read\n", impl.MaxLines), impl.ScriptOut{Text: told})
	checkWrong(t, g+strings.Repeat("read\n", impl.MaxLines+1), 8+impl.MaxLines)
}

// Promise 11.

// someLine is a right line: its heads and tokens are the Gram's, or others.
func someLine(r *rand.Rand, g impl.Gram) string {
	switch r.Intn(6) {
	case 0:
		return "made\n"
	case 1:
		heads := append(impl.Heads(g), "S", "QQ", "ABCD")
		return "left " + heads[r.Intn(len(heads))] + "\n"
	case 2, 3:
		return strings.Join(append(words("says"), saidText(r, g, mostTokens)...), " ") + "\n"
	}
	return strings.Join(append(words("read"), saidText(r, g, mostTokens)...), " ") + "\n"
}

// whatTold is what kind of a line was told.
func whatTold(line string, told string) string {
	return words(line)[0] + regexp.MustCompile(`\(.*|[A-Z0-9]+(,[A-Z]+)*`).ReplaceAllString(" "+told, "")
}

func TestWhatScriptsTell(t *testing.T) {
	r := rand.New(rand.NewSource(41))
	count := map[string]int{}
	for range 600 {
		if t.Failed() {
			return
		}
		g := compGram(t, r)
		script, told := impl.GramText(g), ""
		for range r.Intn(8) + r.Intn(2)*r.Intn(impl.MaxLines-7) {
			line := someLine(r, g)
			script += line
			more := lineTold(g, line)
			told += more + "\n"
			count[whatTold(line, more)]++
			same(t, "with one more line, "+script, impl.ScriptRun(script), impl.ScriptOut{Text: told})
		}
		checkScript(t, script, impl.ScriptOut{Text: told})
		// What stands behind, and is no line, is named, and all else is as it was.
		lines := int64(strings.Count(script, "\n"))
		checkWrong(t, script+"boom\n", lines)
		checkWrong(t, script+"made", lines)
	}
	enough(t, count, map[string]int{
		"read ": 300, "read at ": 300, "read error ": 300, "says yes": 300, "says no": 300, "left ": 200, "left -": 200, "made ": 200, "made error  ": 200, "made error ": 5,
	})
}

// Scripts next to right ones: what is wrong is named as the chapter has it.
func TestTurnedScripts(t *testing.T) {
	r := rand.New(rand.NewSource(42))
	count := map[string]int{}
	for range 8000 {
		if t.Failed() {
			return
		}
		g := compGram(t, r)
		text := impl.GramText(g)
		first := int64(strings.Count(text, "\n"))
		for range r.Intn(6) {
			text += someLine(r, g)
		}
		if r.Intn(4) == 0 {
			text += strings.Repeat("left S\n", impl.MaxLines-r.Intn(6))
		}
		for range 1 + r.Intn(2) {
			text = turnText(r, text)
		}
		want := scriptBy(text)
		checkScript(t, text, want)
		count[fmt.Sprint("code ", want.Code)]++
		count[fmt.Sprint("in the first lines ", want.Code != impl.OK && want.Line == 0)]++
		count[fmt.Sprint("in another one ", want.Line > 0)]++
		count[fmt.Sprint("behind all that may be ", want.Line > first+impl.MaxLines-2)]++
	}
	enough(t, count, map[string]int{
		"code 0": 500, "code 3": 4000, "in the first lines true": 2000, "in another one true": 1000, "behind all that may be true": 50,
	})
}

// Each call answers, whatever text is handed in.
func TestWhateverScripts(t *testing.T) {
	r := rand.New(rand.NewSource(43))
	const bytes = "SABab ->~\n\n  made read says left\x00\xff,+"
	for range 20000 {
		text := make([]byte, r.Intn(40))
		for i := range text {
			text[i] = bytes[r.Intn(len(bytes))]
		}
		begin := []string{"", "S -> a\n", "S -> a\nmade\n", "S -> a\nread"}[r.Intn(4)]
		checkScript(t, begin+string(text), scriptBy(begin+string(text)))
	}
}
