package tests

import (
	"slices"
	"strconv"
	"strings"
	"testing"

	"loop.example/ensemble/impl"
)

// asksSession asks Session against answers that are found line by line.
func asksSession(t *testing.T, lines []string, want string) {
	t.Helper()
	if got := impl.Session(lines); got != want || sessionSeen(lines) != want {
		t.Errorf("%q: %q, want %q, seen %q", lines, got, want, sessionSeen(lines))
	}
}

// asksLines asks for lines, each alone, with its answer.
func asksLines(t *testing.T, rows [][2]string) {
	t.Helper()
	for _, row := range rows {
		asksSession(t, row[:1], row[1]+"\n")
	}
}

// asksTalk asks for one session, told as lines with `;` between, and its answers, `|` being a newline in one.
func asksTalk(t *testing.T, lines string, answers string) {
	t.Helper()
	want := strings.NewReplacer(";", "\n", "|", "\n").Replace(answers) + "\n"
	asksSession(t, strings.Split(lines, ";"), want)
}

// The example of chapter 14.
const (
	sessionLines = `type rec map f = fun l -> case l of nil -> nil | h :: t -> f h :: map f t in map
type fun x -> x x
type let id = fun x -> x in (id 1, id true)
eval rec sum l = case l of nil -> 0 | h :: t -> h + sum t in sum (1 :: 2 :: 3 :: nil)
eval (1 :: nil) :: nil
eval 7 / 0
eval out recv
tidy fun y -> x y
code fun x -> x + 1
fold let x = 2 in if x < 3 then x * 5 else 0
step (fun x -> (x, x)) true
mach (1, 2 :: nil)
run let p = spawn (fun x -> out (recv + 1)) in send p 41
pick 0
pick 1
mean
pick 0
pick 1
pick 1
still
pick 0
pick 1
mean
machs
run let p = spawn (fun x -> 1 / 0) in let a = link p in recv
turns 3
mean
eval 1 +
kill x
what`
	sessionAnswers = `(a -> b) -> a list -> b list
told c
none
int * bool
told a
6
(1 :: nil) :: nil
want 102
want 19
fun w0 -> x w0
fun 2
give
var 0
num 1
op 1
give
10
(true, true)
(1, 2 :: nil)
most 2
ok
ok
ok
outs
ends 0 0
left 0 0
ok
ok
ok
no
ok
ok
outs 1:42
ends 1 1
left 0 0
outs 1:42
ends 1 1
left 0 0
ok
ok
outs
ends 5 2
left 0 0
wrong
what
what
`
)

func TestSessionExample(t *testing.T) {
	asksSession(t, strings.Split(sessionLines, "\n"), sessionAnswers)
}

// No lines, SessionMax, one more, and many more.
func TestSessionSizes(t *testing.T) {
	asksSession(t, nil, "")
	asksSession(t, []string{}, "")
	for _, count := range []int{1, 2, impl.SessionMax - 1, impl.SessionMax, impl.SessionMax + 1, impl.SessionMax + 2, 1000} {
		var lines []string
		want := ""
		for i := range count {
			lines = append(lines, "eval "+strconv.Itoa(i))
			if i < 40 {
				want += strconv.Itoa(i) + "\n"
			}
		}
		asksSession(t, lines, want)
	}
	// a line that tells nothing does nothing either
	last := slices.Concat(slices.Repeat([]string{"pick 0"}, 39), []string{"mean", "mean"})
	asksSession(t, last, strings.Repeat("ok\n", 39)+"outs\nends 1\nleft 0\n")
}

// askWords are the words that ask of an expression.
var askWords = []string{"type", "eval", "mach", "tidy", "code", "fold", "step", "run"}

// unread are texts that ExprGet does not take: no expressions, too long as they stand, or as they are written, of too many parts, too deep.
func unread(t *testing.T) []string {
	t.Helper()
	blanks := strings.Repeat(" ", impl.TextMax)
	return []string{
		"", " ", "  ", "1 +", "(1", "1)", "01", "1000000", "in", "fun x", "(1, 2", "1\n", "\n1", "\t1", "1\x00", "A", "\xff", "1; 2", "= 1", blanks, blanks + "1", "1" + blanks,
		strings.ReplaceAll(longSource(longText(t, impl.TextMax+1)), ", ", ","), plainSource(grown(impl.NodeMax + 1)), strings.Repeat("fst (", impl.DeepMax-1) + "fst x" + strings.Repeat(")", impl.DeepMax-1),
	}
}

// What ExprGet does not take is wrong, whatever is asked of it; all that stands behind the blank is the text, be it blanks.
func TestSessionReads(t *testing.T) {
	answers := []string{"int\ntold a", "1", "1\nmost 0", "1", "num 1\ngive", "1", "no", "ok"}
	for i, word := range askWords {
		for _, text := range unread(t) {
			asksLines(t, [][2]string{{word + " " + text, "wrong"}})
		}
		for _, text := range []string{"1", " 1", "1 ", "   1   ", "(1)", "((1))", strings.Repeat(" ", impl.TextMax-1) + "1"} {
			asksLines(t, [][2]string{{word + " " + text, answers[i]}})
		}
	}
}

// What is no line of the chapter, be it all but one, does nothing.
func TestSessionWhat(t *testing.T) {
	lines := []string{"", " ", "  ", "\n", "what", "wrong", "none", "1", "quit", "ok", "mean mean", "\x00", "\xff", "type\xff 1", "telling 1"}
	for _, word := range append(slices.Clone(askWords), "pick", "kill", "turns") {
		lines = append(lines, word, word+"0", word+"\t0", word+"\n0", word+"\n", " "+word+" 0", word+"x 0", word+": 0", strings.ToUpper(word)+" 0", word[:2]+" 0", word+"\x00 0")
	}
	for _, word := range []string{"mean", "machs", "still"} {
		lines = append(lines, word+" ", " "+word, word+"\n", word+" 0", word+" x", word+"x", word[:3], word+"\x00", strings.ToUpper(word), "\n"+word)
	}
	for _, line := range lines {
		asksLines(t, [][2]string{{line, "what"}})
		asksSession(t, []string{"run out 5", "pick 0", line, "mean"}, "ok\nok\nwhat\nouts 0:5\nends 0\nleft 0\n")
	}
}

// A number has 1 to 6 figures, and no needless noughts ahead; what is no number picks nothing.
func TestSessionNumbers(t *testing.T) {
	for _, word := range []string{"pick", "kill", "turns"} {
		for _, n := range []string{"0", "1", "9", "10", "20", "21", "100", "12345", "100000", "123456", "999999"} {
			asksLines(t, [][2]string{{word + " " + n, "ok"}})
		}
		for _, n := range []string{
			"", " ", "00", "01", "007", "000000", "0000000", "000001", "1000000", "1234567", "9999999", "18446744073709551616", "-1", "+1", "-0", "+0", " 1", "1 ", " 0", "0 ", "1 1", "0 0", "(1)",
			"x", "1x", "x1", "1.0", "1e1", "0x1", "1_0", "1\n", "\n1", "1\x00", "\xff", "\u0661",
		} {
			asksSession(t, []string{word + " " + n, "mean"}, "what\nouts\nends 0\nleft 0\n")
		}
	}
}

func TestSessionType(t *testing.T) {
	more, _ := sized(impl.TypeMax + 1)
	asksLines(t, [][2]string{
		{"type 1", "int\ntold a"}, {"type recv", "a\ntold a"}, {"type fun x -> x", "a -> a\ntold b"}, {"type nil", "a list\ntold b"}, {"type send self (1, true)", "int\ntold int * bool"}, {"type recv :: 1 :: nil", "int list\ntold int"}, {"type self", "pid\ntold a"}, {"type 1 / 0", "int\ntold a"},
		{"type fun f -> f recv", "(a -> b) -> b\ntold a"}, {"type x", "none"}, {"type fun x -> y", "none"}, {"type 1 + true", "none"}, {"type send 1 2", "none"}, {"type " + doubled + more, "none"},
	})
}

// calls300 calls CallMax functions, and not too many in each other.
const calls300 = "rec f n = if n < 1 then 0 else f (n - 1) in f 49 + f 49 + f 49 + f 49 + f 49 + f 49"

// A value, or what is wanted in its place: of what has no type that is WantStuck.
func TestSessionValues(t *testing.T) {
	asksLines(t, [][2]string{
		{"eval 7", "7"}, {"eval 0 - 7", "-7"}, {"eval (fun x -> x, true)", "(fun, true)"}, {"eval nil", "nil"}, {"eval self", "pid 0"}, {"eval out 5", "0"}, {"eval rec f x = f x in f", "fun"},
		{"eval 1 / 0", "want 102"}, {"eval rec f x = f x in f 0", "want 0"}, {"eval spawn (fun x -> x)", "want 16"}, {"eval send self 1", "want 17"}, {"eval recv", "want 19"}, {"eval link self", "want 21"}, {"eval (1, recv)", "want 19"},
		{"eval x", "want 103"}, {"eval 1 2", "want 103"}, {"eval if true then 1 else x", "want 103"}, {"eval fun x -> x x", "want 103"},
		{"mach 7", "7\nmost 0"}, {"mach (1, (2, 3))", "(1, (2, 3))\nmost 2"}, {"mach fst (1, 2) :: nil", "1 :: nil\nmost 2"}, {"mach self", "pid 0\nmost 0"}, {"mach let x = out 5 in x", "0\nmost 1"}, {"mach fun x -> x", "fun\nmost 1"}, {"mach nil", "nil\nmost 0"},
		{"mach 1 / 0", "want 102\nmost 0"}, {"mach (1, 2 :: recv)", "want 19\nmost 0"}, {"mach let x = 1 in spawn (fun y -> y)", "want 16\nmost 2"}, {"mach send self 1", "want 17\nmost 0"}, {"mach let a = 1 in link self", "want 21\nmost 1"},
		{"mach " + listing + "case l 58 of nil -> 0 | h :: t -> h", "58\nmost 120"}, {"mach " + listing + "l 59", "want 104\nmost 120"}, {"mach rec f x = f x in f 0", "want 104\nmost 120"}, {"mach " + calls300, "want 0\nmost 120"}, {"eval " + calls300, "want 0"},
		{"mach x", "want 103\nmost 0"}, {"mach 1 2", "want 103\nmost 0"}, {"mach (1, x)", "want 103\nmost 0"}, {"mach fun x -> x x", "want 103\nmost 0"},
	})
}

// tidy asks for no type, and its text has no bound.
func TestSessionTidy(t *testing.T) {
	asksLines(t, [][2]string{
		{"tidy x", "x"}, {"tidy fun x -> x x", "fun w0 -> w0 w0"}, {"tidy 1 true", "1 true"}, {"tidy fun x -> w0 x y", "fun w1 -> w0 w1 y"}, {"tidy let x = x in rec f x = f x in f", "let w0 = x in rec w1 w2 = w1 w2 in w1"}, {"tidy case x of nil -> y | h :: t -> t x", "case x of nil -> y | w0 :: w1 -> w1 x"},
		{"tidy  ( 1+2 )*3", "(1 + 2) * 3"}, {"tidy (1)", "1"},
	})
	cases := strings.Repeat("case x of nil -> x | h :: t -> ", 11)
	for text, bytes := range map[string]int{cases + "case x of nil -> x | h :: t -> x": 411, "fun x -> " + cases + "x": 410, "fun x -> " + cases + "x x": 413} {
		tidy := spelled(impl.NameTidy(mustRead(t, text)))
		if len(tidy) != bytes || impl.ExprPut(impl.NameTidy(mustRead(t, text))) != "" {
			t.Fatalf("%s: %d bytes", text, len(tidy))
		}
		asksLines(t, [][2]string{{"tidy " + text, tidy}})
	}
}

func TestSessionCode(t *testing.T) {
	asksLines(t, [][2]string{
		{"code 1", "num 1\ngive"}, {"code true", "bool 1\ngive"}, {"code let x = 1 in x", "num 1\nbind\nvar 0\ndrop 1\ngive"}, {"code fun x -> fun y -> x", "fun 2\ngive\nfun 4\ngive\nvar 1\ngive"}, {"code if true then 1 else 2", "bool 1\nif 4\nnum 1\ngo 5\nnum 2\ngive"},
		{"code spawn (fun x -> x)", "fun 3\nspawn\ngive\nvar 0\ngive"}, {"code send self recv", "self\nrecv\nsend\ngive"}, {"code x", "none"}, {"code 1 2", "none"}, {"code fun x -> y", "none"}, {"code fun x -> x x", "none"},
	})
	// the longest code that a line can ask for is not as long as CodeMax
	e := recsOf(26)
	answer := impl.Session([]string{"code " + impl.ExprPut(e)})
	if answer != codeLabelled(e) || strings.Count(answer, "\n") != 26*4+27+1 {
		t.Errorf("%d lines: %s", strings.Count(answer, "\n"), answer)
	}
}

// recsOf is an expression of so many ExprRec, that is not deep, and numbers.
func recsOf(count int) impl.Expr {
	if count == 0 {
		return number(1)
	}
	left := (count - 1) / 2
	return impl.Expr{Kind: impl.ExprRec, Name: "f", Tail: "x", Kids: []impl.Expr{recsOf(left), recsOf(count - 1 - left)}}
}

// manyIfs is a text of so many ExprIf, that is not deep, whose other parts are all x.
func manyIfs(count int) string {
	if count == 0 {
		return "x"
	}
	third := (count - 1) / 3
	return "if " + manyIfs(third) + " then " + manyIfs(third) + " else " + manyIfs(count-1-2*third)
}

func TestSessionFold(t *testing.T) {
	asksLines(t, [][2]string{
		{"fold 1 + 2", "3"}, {"fold 1", "1"}, {"fold x", "none"}, {"fold recv", "recv"}, {"fold fun x -> x + 1", "fun x -> x + 1"}, {"fold 1 / 0", "1 / 0"}, {"fold 0 - 1", "0 - 1"}, {"fold (1)", "1"}, {"fold fun x->(x+1)", "fun x -> x + 1"}, {"fold let x = 1 in y", "none"}, {"fold 1 + true", "none"}, {"fold if true then 1 else nil", "none"},
		// what is folded is written as ExprPut writes it, that has nothing for more than TextMax bytes
		{"fold fun yyy -> let x = yyy in " + manyIfs(17), "fun yyy -> " + strings.ReplaceAll(manyIfs(17), "x", "yyy")}, {"fold fun yyyy -> let x = yyyy in " + manyIfs(17), ""},
	})
}

func TestSessionStep(t *testing.T) {
	asksLines(t, [][2]string{
		{"step 1 + 2", "3"}, {"step (1 + 2) * (3 + 4)", "3 * (3 + 4)"}, {"step let x = 1 in x", "1"}, {"step x", "none"}, {"step 1 2", "none"}, {"step fun x -> x x", "none"}, {"step let x = y in 1", "none"},
		// a value; what waits for others, or has no result; what is not ok behind the step
		{"step 1", "no"}, {"step true", "no"}, {"step nil", "no"}, {"step fun x -> 1 + 1", "no"}, {"step (1, fun x -> x) :: nil", "no"}, {"step self", "no"}, {"step recv", "no"}, {"step out 1", "no"}, {"step send self 1", "no"}, {"step spawn (fun x -> x)", "no"}, {"step link self", "no"}, {"step 1 / 0", "no"}, {"step 0 - 1", "no"},
		{"step 999999 + 1", "no"}, {"step (recv, 1 + 1)", "no"}, {"step let x = " + tree(30) + " in (x, x)", "no"}, {"step let x = " + nest(12) + " in ((x, 1), 1)", "no"}, {"step let x = " + tree(29) + " in (x, x)", "(" + tree(29) + ", " + tree(29) + ")"},
		{"step (fun x -> " + manyIfs(17) + ") true", strings.ReplaceAll(manyIfs(17), "x", "true")}, {"step (fun x -> " + manyIfs(17) + ") false", ""},
	})
}

// mean, machs and still ahead of any run: 0 runs, and it can be picked and ended; behind a run nothing was picked.
func TestSessionRuns(t *testing.T) {
	asksTalk(t, "mean;machs;still", "outs|ends 0|left 0;outs|ends 0|left 0;no")
	asksTalk(t, "pick 0;mean;machs;still", "ok;outs|ends 1|left 0;outs|ends 1|left 0;yes")
	asksTalk(t, "kill 0;mean;machs;still;pick 0;mean", "ok;outs|ends 6|left 0;outs|ends 6|left 0;yes;ok;outs|ends 6|left 0")
	asksTalk(t, "turns 1;mean;run 1;mean;turns 1;mean", "ok;outs|ends 1|left 0;ok;outs|ends 0|left 0;ok;outs|ends 1|left 0")
	asksTalk(t, "run out 5;mean;still;pick 0;mean;still;pick 0;mean;still", "ok;outs|ends 0|left 0;no;ok;outs 0:5|ends 0|left 0;no;ok;outs 0:5|ends 1|left 0;yes")
	asksTalk(t, "run recv;still;pick 0;still;mean;pick 0;mean;kill 0;still;mean", "ok;no;ok;yes;outs|ends 0|left 0;ok;outs|ends 0|left 0;ok;yes;outs|ends 6|left 0")
	asksTalk(t, "run (out 1, out 2);pick 0;run out 7;pick 0;mean;run (out 1, out 2);mean;turns 2;machs", "ok;ok;ok;ok;outs 0:7|ends 0|left 0;ok;outs|ends 0|left 0;ok;outs 0:1 0:2|ends 0|left 0")
	// what is wrong, or has no type, leaves what runs, and what was picked
	asksTalk(t, "run out 5;pick 0;run 1 +;mean;run x;mean;run 1 2;mean;machs;run;run ;pick 0;mean", "ok;ok;wrong;outs 0:5|ends 0|left 0;none;outs 0:5|ends 0|left 0;none;outs 0:5|ends 0|left 0;outs 0:5|ends 0|left 0;what;wrong;ok;outs 0:5|ends 1|left 0")
	asksTalk(t, "run 1 +;mean;run x;pick 0;mean", "wrong;outs|ends 0|left 0;none;ok;outs|ends 1|left 0")
}

// Processes that are not there, picked and ended; one that comes to be there later was not picked.
func TestSessionPicks(t *testing.T) {
	asksTalk(t, "run spawn (fun x -> out 5);pick 1;kill 1;pick 999999;kill 999999;pick 6;pick 0;mean;pick 1;mean;kill 1;pick 1;mean;machs;still;pick 0;still",
		"ok;ok;ok;ok;ok;ok;ok;outs|ends 0 0|left 0 0;ok;outs 1:5|ends 0 0|left 0 0;ok;ok;outs 1:5|ends 0 6|left 0 0;outs 1:5|ends 0 6|left 0 0;no;ok;yes")
	asksTalk(t, "run let p = spawn (fun x -> recv) in let a = send p 1 in send p 2;turns 1;mean;turns 1;mean;turns 1;mean;turns 1;mean",
		"ok;ok;outs|ends 0 0|left 0 0;ok;outs|ends 0 0|left 0 0;ok;outs|ends 0 1|left 0 0;ok;outs|ends 1 1|left 0 0")
	asksTalk(t, "run let p = spawn (fun x -> recv) in let a = send p 1 in send p 2;pick 0;pick 0;pick 0;mean;pick 0;mean;kill 1;mean", "ok;ok;ok;ok;outs|ends 0 0|left 0 2;ok;outs|ends 1 0|left 0 2;ok;outs|ends 1 6|left 0 0")
	// machines have no room where the meaning goes on
	asksTalk(t, "run let a = out 1 in "+listing+"l 59;turns 3;turns 3;mean;machs", "ok;ok;ok;outs 0:1|ends 1|left 0;outs 0:1|ends 4|left 0")
}

// turns of rounds that RunTurns takes, and of more: these pick nothing. Events behind EventMax are none.
func TestSessionEvents(t *testing.T) {
	outs := "run rec f n = let a = out n in f (n + 1) in f 1;"
	told := func(count int) string {
		text := "outs"
		for n := 1; n <= count; n++ {
			text += " 0:" + strconv.Itoa(n)
		}
		return text + "|ends 0|left 0"
	}
	for _, n := range []int{0, 1, 2, 19, 20, 21, 22, 100, 999999} {
		want := n
		if n > impl.EventMax/impl.ProcMax {
			want = 0
		}
		asksTalk(t, outs+"turns "+strconv.Itoa(n)+";mean;machs", "ok;ok;"+told(want)+";"+told(want))
	}
	asksTalk(t, outs+"turns 20;mean;pick 0;mean;turns 20;mean;kill 0;mean;machs;still;run 1;pick 0;mean", "ok;ok;"+told(20)+";ok;"+told(20)+";ok;"+told(20)+";ok;"+told(20)+";"+told(20)+";no;ok;ok;outs|ends 1|left 0")
	asksTalk(t, outs+"turns 19;pick 0;pick 0;pick 0;pick 0;pick 0;mean;pick 0;mean;pick 0;mean", "ok;ok;ok;ok;ok;ok;ok;"+told(24)+";ok;"+told(25)+";ok;"+told(25))
	asksTalk(t, outs+"turns 19;pick 9;kill 9;pick 999999;kill 1;pick 0;mean;kill 0;mean", "ok;ok;ok;ok;ok;ok;ok;"+told(20)+";ok;"+strings.Replace(told(20), "ends 0", "ends 6", 1))
	asksTalk(t, outs+"turns 19;pick 9;kill 9;pick 999999;kill 1;pick 0;kill 9;kill 0;mean", "ok;ok;ok;ok;ok;ok;ok;ok;ok;"+told(20))
}
