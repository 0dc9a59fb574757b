package tests

import (
	"slices"
	"strconv"
	"strings"
	"testing"

	"loop.example/ensemble/impl"
)

// eventsOf are events written with blanks between: `2` picks process 2, `k2` ends it, `3x2` picks it three times.
func eventsOf(text string) []impl.Event {
	var list []impl.Event
	for _, word := range strings.Fields(text) {
		times, kind := 1, impl.EventRun
		if count, proc, ok := strings.Cut(word, "x"); ok {
			times, _ = strconv.Atoi(count)
			word = proc
		}
		if rest, ok := strings.CutPrefix(word, "k"); ok {
			kind, word = impl.EventKill, rest
		}
		proc, _ := strconv.Atoi(word)
		for range times {
			list = append(list, impl.Event{Kind: kind, Proc: proc})
		}
	}
	return list
}

// answerTold is an answer in one line: `PROC:NUM` of Outs, Ends, and Boxes, with `;` between.
func answerTold(a impl.Answer) string {
	var outs, ends, boxes []string
	for _, out := range a.Outs {
		outs = append(outs, strconv.Itoa(out.Proc)+":"+strconv.Itoa(out.Num))
	}
	for _, end := range a.Ends {
		ends = append(ends, strconv.Itoa(end))
	}
	for _, box := range a.Boxes {
		boxes = append(boxes, strconv.Itoa(box))
	}
	return strings.Join(outs, " ") + ";" + strings.Join(ends, " ") + ";" + strings.Join(boxes, " ")
}

// asksRuns asks RunMean and RunMach, with and without always, against players that wait where they are; they are told in this order.
func asksRuns(t *testing.T, e impl.Expr, list []impl.Event) [3]string {
	t.Helper()
	var told [3]string
	for k := range told {
		got, want := impl.Answer{}, impl.Answer{}
		if k == 0 {
			got, want = impl.RunMean(e, list), meanStaged(e, list)
		} else {
			got, want = impl.RunMach(e, list, k == 2), machStaged(e, list, k == 2)
		}
		told[k] = answerTold(got)
		if told[k] != answerTold(want) {
			t.Fatalf("%s, run %d of %v: %s, want %s", impl.ExprPut(e), k, list, told[k], answerTold(want))
		}
	}
	return told
}

// runRow is a text, events, and what comes of them, as answerTold tells it.
type runRow struct {
	text   string
	events string
	want   string
}

// asksRows asks for rows that come to the same by meaning and on machines.
func asksRows(t *testing.T, rows []runRow) {
	t.Helper()
	for _, row := range rows {
		for k, told := range asksRuns(t, mustType(t, row.text), eventsOf(row.events)) {
			if told != row.want {
				t.Errorf("%s, run %d of %s: %s, want %s", row.text, k, row.events, told, row.want)
			}
		}
	}
}

// asksMachRows asks for rows of which machines alone come to this, having no room; by meaning they come to the second.
func asksMachRows(t *testing.T, rows []runRow, means ...string) {
	t.Helper()
	for i, row := range rows {
		told := asksRuns(t, mustType(t, row.text), eventsOf(row.events))
		if told[0] != means[i] || told[1] != row.want || told[2] != row.want {
			t.Errorf("%s, run of %s: %v, want %s and %s", row.text, row.events, told, means[i], row.want)
		}
	}
}

func TestRunAlone(t *testing.T) {
	asksRows(t, []runRow{
		{"7", "", ";0;0"}, {"7", "0", ";1;0"}, {"7", "0 0", ";1;0"}, {"1 / 0", "0", ";2;0"}, {"1 / 0", "", ";0;0"}, {"fun x -> 1 / 0", "0", ";1;0"}, {"(1, 2 :: nil)", "0", ";1;0"},
		{"out 5", "0", "0:5;0;0"}, {"out 5", "0 0", "0:5;1;0"}, {"out (0 - 5)", "0 0", "0:-5;1;0"}, {"out (out 5)", "0 0", "0:5 0:0;0;0"}, {"out (out 5 + 7)", "3x0", "0:5 0:7;1;0"}, {"(out 1, out 2)", "5x0", "0:1 0:2;1;0"},
		{"out (65536 * 32768)", "0", "0:-2147483648;0;0"}, {"out 1 / out 2", "3x0", "0:1 0:2;2;0"}, {"let a = out 1 in 1 / 0", "0", "0:1;0;0"}, {"let a = out 1 in 1 / 0", "0 0", "0:1;2;0"},
		{"self", "0", ";1;0"}, {"recv", "0", ";0;0"}, {"recv", "9x0", ";0;0"}, {"out recv", "9x0", ";0;0"},
	})
}

// Events of no kind, of no process, of one that is not there yet, and of one that has ended.
func TestRunEvents(t *testing.T) {
	spawns := "let p = spawn (fun x -> out 8) in out 7"
	asksRows(t, []runRow{
		{spawns, "", ";0;0"}, {spawns, "1 1 0", ";0 0;0 0"}, {spawns, "k1 0 1", "1:8;0 0;0 0"}, {spawns, "0 k1 1", ";0 6;0 0"}, {spawns, "2 -1 6 k-1 k2 0", ";0 0;0 0"}, {spawns, "0 0 1 2 3 4 5 6 7", "0:7 1:8;0 0;0 0"},
		{spawns, "k0 0 0", ";6;0"}, {spawns, "0 k0 0 1 1", "1:8;6 1;0 0"}, {spawns, "0 0 0 k0 1 1 k1", "0:7 1:8;1 1;0 0"}, {spawns, "k0 k0", ";6;0"}, {"1 / 0", "0 k0", ";2;0"}, {"7", "0 k0", ";1;0"}, {"recv", "0 k0 0", ";6;0"},
	})
	e := mustType(t, spawns)
	for _, kind := range []int{0, 3, -1, 1 << 40, -1 << 63, 1<<63 - 1} {
		for _, proc := range []int{0, 1} {
			list := append(eventsOf("0"), impl.Event{Kind: kind, Proc: proc}, impl.Event{Kind: kind, Proc: proc})
			for k, told := range asksRuns(t, e, append(list, eventsOf("0 1")...)) {
				if told != "0:7 1:8;0 0;0 0" {
					t.Errorf("kind %d of process %d, run %d: %s", kind, proc, k, told)
				}
			}
		}
	}
	for _, proc := range []int{-1, 2, 5, 6, 1 << 40, -1 << 63, 1<<63 - 1} {
		for _, kind := range []int{impl.EventRun, impl.EventKill} {
			list := append(eventsOf("0"), impl.Event{Kind: kind, Proc: proc})
			for k, told := range asksRuns(t, e, append(list, eventsOf("0 1")...)) {
				if told != "0:7 1:8;0 0;0 0" {
					t.Errorf("kind %d of process %d, run %d: %s", kind, proc, k, told)
				}
			}
		}
	}
}

// EventMax events, and one more, those that do nothing among them.
func TestRunEventMax(t *testing.T) {
	outs := "rec f n = if n < 1 then 0 else let o = out n in f (n - 1) in let a = f 30 in let b = f 30 in let c = f 30 in let d = f 29 in out "
	told := ""
	for _, n := range []int{30, 30, 30, 29} {
		for ; n > 0; n-- {
			told += "0:" + strconv.Itoa(n) + " "
		}
	}
	asksRows(t, []runRow{
		{outs + "7", "119x0", strings.TrimSpace(told) + ";0;0"}, {outs + "7", "120x0", told + "0:7;0;0"}, {outs + "7", "121x0", told + "0:7;0;0"}, {outs + "7", "500x0", told + "0:7;0;0"}, {outs + "(1 / 0)", "120x0", strings.TrimSpace(told) + ";2;0"},
		{"7", "119x5 0", ";1;0"}, {"7", "120x5 0", ";0;0"}, {"7", "120x5 k0", ";0;0"}, {"7", "119x5 k0", ";6;0"},
	})
}

// RunMax calls of one pick, and one more; the count begins anew at each pick, and behind what was wanted.
func TestRunCalls(t *testing.T) {
	f := "rec f n = if n < 1 then 0 else f (n - 1) in " // f n is n + 1 calls
	asksRows(t, []runRow{
		{f + "f 38", "0", ";1;0"}, {f + "f 39", "0", ";0;0"}, {f + "f 39", "0 0", ";1;0"}, {f + "f 40", "0", ";0;0"}, {f + "f 40", "0 0", ";1;0"}, {f + "f 39 + f 38", "0 0", ";1;0"}, {f + "f 39 + f 39", "0 0", ";0;0"}, {f + "f 39 + f 39", "3x0", ";1;0"},
		{f + "f 38 / 0", "0", ";2;0"}, {f + "f 39 / 0", "0", ";0;0"}, {f + "f 39 / 0", "0 0", ";2;0"}, {f + "out (f 38)", "0", "0:0;0;0"}, {f + "out (f 39)", "0", ";0;0"}, {f + "out (f 39)", "0 0", "0:0;0;0"},
		{f + "out (f 30) + f 38", "0 0", "0:0;1;0"}, {f + "out (f 30) + f 39", "0 0", "0:0;0;0"}, {f + "out (f 30) + f 39", "3x0", "0:0;1;0"}, {f + "f 20 + f 17", "0", ";1;0"}, {f + "f 20 + f 18", "0", ";0;0"}, {f + "f 38 + recv", "0", ";0;0"},
		{f + "let a = send self 1 in let b = f 38 in out recv", "3x0", "0:1;0;0"}, {f + "let a = send self 1 in let b = f 39 in out recv", "4x0", "0:1;0;0"}, {f + "let a = send self 1 in let b = f 39 in out recv", "3x0", ";0;0"},
	})
}

// The first call of a function that is spawned is not counted.
func TestRunFirstCall(t *testing.T) {
	f := "rec f n = if n < 1 then 0 else f (n - 1) in "
	asksRows(t, []runRow{
		{f + "let p = spawn (fun x -> f 38) in 0", "0 1", ";0 1;0 0"}, {f + "let p = spawn (fun x -> f 39) in 0", "0 1", ";0 0;0 0"}, {f + "let p = spawn (fun x -> f 39) in 0", "0 1 1", ";0 1;0 0"}, {f + "let p = spawn f in 0", "0 1", ";0 1;0 0"},
		{"rec f n = if 38 < n then 0 else f (n + 1) in let p = spawn f in 0", "0 1", ";0 1;0 0"}, {"rec f n = if 39 < n then 0 else f (n + 1) in let p = spawn f in 0", "0 1", ";0 0;0 0"},
		{"rec f n = if 40 < n then 0 else f (n + 1) in let p = spawn f in 0", "0 1", ";0 0;0 0"}, {"rec f n = if 39 < n then 0 else f (n + 1) in let p = spawn f in 0", "0 1 1", ";0 1;0 0"},
		{f + "let a = f 38 in spawn (fun x -> 1)", "0", ";0 0;0 0"}, {f + "let a = f 38 in spawn (fun x -> out 5)", "0 1 0", "1:5;1 0;0 0"}, {"spawn (fun x -> out (x + 3))", "0 1", "1:3;0 0;0 0"}, {"rec f n = if n < 1 then out 9 else out n in spawn f", "0 1", "1:9;0 0;0 0"},
	})
}

// ProcMax processes, and one more; those that have ended count.
func TestRunProcesses(t *testing.T) {
	five := "let s = fun k -> spawn (fun x -> out k) in let a = s 1 in let b = s 2 in let c = s 3 in let d = s 4 in let e = s 5 in "
	asksRows(t, []runRow{
		{five + "out 9", "6x0 1 2 3 4 5", "0:9 1:1 2:2 3:3 4:4 5:5;0 0 0 0 0 0;0 0 0 0 0 0"}, {five + "s 6", "5x0", ";0 0 0 0 0 0;0 0 0 0 0 0"}, {five + "s 6", "6x0", ";4 0 0 0 0 0;0 0 0 0 0 0"},
		{five + "s 6", "6x0 1 1 5", "1:1 5:5;4 1 0 0 0 0;0 0 0 0 0 0"}, {five + "s 6", "5x0 1 1 k2 0", "1:1;4 1 6 0 0 0;0 0 0 0 0 0"}, {"rec f n = let p = spawn f in f (n + 1) in f 0", "0 1 2 3 4 5 0 1", ";4 4 0 0 0 4;0 0 0 0 0 0"},
		{five + "let l = link a in s 6", "7x0", ";4 5 0 0 0 0;0 0 0 0 0 0"}, {"let p = spawn (fun x -> out 1) in send p self", "0 0 1", "1:1;0 0;0 1"},
		{"let p = spawn (fun x -> let q = spawn (fun y -> link recv) in send q self) in 1 / 0", "0 1 1 1 2 2 2 0", ";2 1 1;0 0 0"},
	})
}

// BoxMax are told, and one more; who was told too much has ended, with all that are linked.
func TestRunBoxes(t *testing.T) {
	box := "let p = spawn (fun x -> recv) in rec f n = if n = 0 then 0 else let a = send p n in f (n - 1) in f "
	self := "rec f n = if n = 0 then 0 else let a = send self n in f (n - 1) in f "
	asksRows(t, []runRow{
		{box + "6", "7x0", ";0 0;0 6"}, {box + "6", "8x0", ";1 0;0 6"}, {box + "7", "7x0", ";0 0;0 6"}, {box + "7", "8x0", ";0 4;0 0"}, {box + "7", "9x0", ";1 4;0 0"}, {box + "9", "10x0", ";0 4;0 0"}, {box + "9", "11x0", ";1 4;0 0"},
		{box + "7", "7x0 1 0", ";0 0;0 6"}, {box + "7", "7x0 1 1 0", ";0 1;0 0"}, {box + "8", "7x0 1 0 0", ";0 4;0 0"}, {box + "8", "0 1 7x0", ";0 4;0 0"}, {box + "8", "0 1 0 1 6x0", ";0 0;0 6"}, {box + "8", "0 1 0 1 7x0", ";0 4;0 0"},
		{self + "6", "6x0", ";0;6"}, {self + "6", "7x0", ";1;0"}, {self + "7", "6x0", ";0;6"}, {self + "7", "7x0", ";4;0"}, {self + "7", "8x0", ";4;0"},
		{"let p = spawn (fun x -> recv) in let k = link p in rec f n = if n = 0 then 0 else let a = send p n in f (n - 1) in f 9", "8x0", ";0 0;0 6"},
		{"let p = spawn (fun x -> recv) in let k = link p in rec f n = if n = 0 then 0 else let a = send p n in f (n - 1) in f 9", "9x0", ";5 4;0 0"},
		{"let p = spawn (fun x -> recv) in let k = link p in rec f n = if n = 0 then 0 else let a = send p n in f (n - 1) in f 9", "12x0 1", ";5 4;0 0"},
	})
}

// What is told to a process that has ended, in each way, and to oneself; what is told comes in the order in which it was told.
func TestRunTells(t *testing.T) {
	asksRows(t, []runRow{
		{"let p = spawn (fun x -> 1) in out (send p 5)", "0 1 0 0", "0:0;0 1;0 0"}, {"let p = spawn (fun x -> 1 / 0) in out (send p 5)", "0 1 0 0", "0:0;0 2;0 0"}, {"let p = spawn (fun x -> 1) in out (send p 5)", "0 k1 0 0 0", "0:0;1 6;0 0"},
		{"let p = spawn (fun x -> 1) in out (send p 5)", "0 0 1", ";0 1;0 0"}, {"let p = spawn (fun x -> 1) in out (send p 5)", "0 0", ";0 0;0 1"}, {"let p = spawn (fun x -> recv) in send p 5", "0 0 1 1", ";0 1;0 0"},
		{"let a = send self 5 in out recv", "0", ";0;1"}, {"let a = send self 5 in out recv", "0 0", ";0;0"}, {"let a = send self 5 in out recv", "3x0", "0:5;0;0"}, {"let a = send self 5 in out recv", "4x0", "0:5;1;0"},
		{"let a = send self 5 in let b = send self 6 in let c = out recv in out recv", "6x0", "0:5 0:6;0;0"}, {"let a = send self 5 in let b = out recv in let c = send self 6 in out recv", "6x0", "0:5 0:6;0;0"},
		{"let p = spawn (fun x -> let a = out recv in let b = out recv in out recv) in let a = send p 1 in let b = send p 2 in send p 3", "4x0 6x1", "1:1 1:2 1:3;0 0;0 0"},
		{"send self (1 / 0)", "0", ";2;0"}, {"send self 1 / 0", "0", ";0;1"}, {"send self 1 / 0", "0 0", ";2;0"}, {"(send self 1, send self 2)", "0 0", ";0;2"}, {"(send self 1, send self 2)", "3x0", ";1;0"}, {"let a = send self 1 in let b = send self 2 in out recv", "4x0", "0:1;0;1"},
	})
}

// A process that waits, is picked, told, and picked again: it takes, and goes on at the next pick.
func TestRunWaits(t *testing.T) {
	text := "let p = spawn (fun x -> out (recv + recv)) in let a = send p 5 in send p 6"
	asksRows(t, []runRow{
		{text, "0 1", ";0 0;0 0"}, {text, "0 1 1 1", ";0 0;0 0"}, {text, "0 1 1 0", ";0 0;0 1"}, {text, "0 1 0 1", ";0 0;0 0"}, {text, "0 1 0 1 1", ";0 0;0 0"}, {text, "0 1 0 1 1 1 1", ";0 0;0 0"}, {text, "0 1 0 1 1 0", ";0 0;0 1"},
		{text, "0 1 0 1 1 0 1", ";0 0;0 0"}, {text, "0 1 0 1 1 0 1 1", "1:11;0 0;0 0"}, {text, "0 1 0 0 1", ";0 0;0 1"}, {text, "0 1 0 0 1 1", ";0 0;0 0"}, {text, "0 1 0 0 1 1 1", "1:11;0 0;0 0"}, {text, "3x0 1", ";0 0;0 1"}, {text, "3x0 1 1", ";0 0;0 0"},
		{text, "3x0 1 1 1", "1:11;0 0;0 0"}, {text, "4x0 4x1", "1:11;1 1;0 0"}, {text, "0 1 k1 0 0", ";0 6;0 0"}, {text, "0 1 0 k1 0", ";0 6;0 0"}, {"recv / 0", "0 0", ";0;0"},
		{"let p = spawn (fun x -> recv / 0) in send p 5", "0 1 0 1", ";0 0;0 0"}, {"let p = spawn (fun x -> recv / 0) in send p 5", "0 1 0 1 1", ";0 2;0 0"},
	})
}

// Links with oneself, with one that has ended, done or otherwise, and with one that has not.
func TestRunLinks(t *testing.T) {
	asksRows(t, []runRow{
		{"link self", "0", ";0;0"}, {"out (link self)", "0 0", "0:0;0;0"}, {"link self", "0 0", ";1;0"}, {"link self / 0", "0 0", ";2;0"}, {"link self", "0 k0", ";6;0"},
		{"let p = spawn (fun x -> 1) in out (link p)", "0 1 0 0", "0:0;0 1;0 0"}, {"let p = spawn (fun x -> 1 / 0) in out (link p)", "0 1 0 0", ";5 2;0 0"}, {"let p = spawn (fun x -> 1) in out (link p)", "0 k1 0 0", ";5 6;0 0"},
		{"let p = spawn (fun x -> 1) in out (link p)", "0 0 1 0", "0:0;0 1;0 0"}, {"let p = spawn (fun x -> 1 / 0) in out (link p)", "0 0 1 0", ";5 2;0 0"}, {"let p = spawn (fun x -> 1) in out (link p)", "0 0 k1 0", ";5 6;0 0"},
		{"let p = spawn (fun x -> recv) in link p / 0", "0 0 0", ";2 5;0 0"}, {"let p = spawn (fun x -> recv) in link p", "3x0 k1", ";1 6;0 0"}, {"let p = spawn (fun x -> recv) in link p", "3x0 1", ";1 0;0 0"}, {"let p = spawn (fun x -> recv) in link p", "0 0 k0 1", ";6 5;0 0"},
		{"let p = spawn (fun x -> recv) in let a = link p in let b = link p in 1 / 0", "4x0", ";2 5;0 0"}, {"let p = spawn (fun x -> link recv) in let a = send p self in 1 / 0", "0 0 1 1 0", ";2 5;0 0"}, {"let p = spawn (fun x -> link recv) in let a = send p self in 1 / 0", "0 0 0 1 1", ";2 5;0 0"},
		{"let p = spawn (fun x -> link recv) in let a = send p self in 1", "0 0 0 1 1 1", ";1 1;0 0"}, {"let p = spawn (fun x -> 1 / 0) in let q = spawn (fun x -> link p) in link q", "0 0 1 2 0", ";5 2 5;0 0 0"}, {"let p = spawn (fun x -> 1 / 0) in let q = spawn (fun x -> link p) in link q", "0 0 2 0 1", ";5 2 5;0 0 0"},
		{"let p = spawn (fun x -> 1 / 0) in let q = spawn (fun x -> link p) in link q", "0 0 2 2 0 1", ";0 2 1;0 0 0"},
	})
	full := "let p = spawn (fun x -> recv) in rec f n = if n < 1 then 0 else let a = send p n in f (n - 1) in let a = f 7 in out (link p)"
	asksRows(t, []runRow{{full, "7x0", ";0 0;0 6"}, {full, "8x0", ";0 4;0 0"}, {full, "9x0", ";5 4;0 0"}})
}

// Links in a ring of four: whoever ends first, in whatever way, ends all, unless it is done.
func TestRunRings(t *testing.T) {
	ring := "let w = fun l -> spawn (fun x -> let a = link l in recv / recv) in let p = w self in let q = w p in let r = w q in let b = link r in recv / recv"
	begin := "4x0 1 2 3 "
	asksRows(t, []runRow{
		{ring, begin, ";0 0 0 0;0 0 0 0"}, {ring, begin + "k0", ";6 5 5 5;0 0 0 0"}, {ring, begin + "k1", ";5 6 5 5;0 0 0 0"}, {ring, begin + "k2", ";5 5 6 5;0 0 0 0"}, {ring, begin + "k3", ";5 5 5 6;0 0 0 0"}, {ring, begin + "k3 k2 0 1", ";5 5 5 6;0 0 0 0"},
		{ring, "4x0 2 3 k2", ";5 5 6 5;0 0 0 0"}, {ring, "3x0 2 3 k2", ";0 5 6 5;0 0 0 0"}, {ring, "3x0 2 3 k2 0", ";5 5 6 5;0 0 0 0"}, {ring, "3x0 3 1 k2", ";0 0 6 5;0 0 0 0"}, {ring, "3x0 3 1 k2 0", ";5 5 6 5;0 0 0 0"}, {ring, "3x0 k3 0", ";5 0 0 6;0 0 0 0"},
	})
	done := strings.ReplaceAll(ring, "recv / recv", "1")
	asksRows(t, []runRow{
		{done, begin + "1 k0", ";6 1 5 5;0 0 0 0"}, {done, begin + "1 3 k0", ";6 1 0 1;0 0 0 0"}, {done, begin + "1 k2", ";5 1 6 5;0 0 0 0"}, {done, begin + "0 1 2 3", ";1 1 1 1;0 0 0 0"}, {done, begin + "1 3 k2 k0", ";6 1 6 1;0 0 0 0"},
	})
}

// Who ends was told nothing any more.
func TestRunEndsEmpty(t *testing.T) {
	text := "let p = spawn (fun x -> 1 / x) in let a = send p 1 in let b = send p 2 in let c = link p in out 3"
	asksRows(t, []runRow{
		{text, "3x0", ";0 0;0 2"}, {text, "3x0 1", ";0 2;0 0"}, {text, "3x0 k1", ";0 6;0 0"}, {text, "4x0 k0", ";6 5;0 0"}, {text, "4x0 1", ";5 2;0 0"}, {text, "4x0", ";0 0;0 2"}, {text, "6x0", "0:3;1 0;0 2"}, {text, "0 0 1 0", ";0 2;0 0"},
		{"let p = spawn (fun x -> x) in let a = send p 1 in send p 2", "3x0 1", ";0 1;0 0"}, {"let a = send self 1 in 2", "0 0", ";1;0"}, {"let a = send self 1 in 1 / 0", "0 0", ";2;0"}, {"let a = send self 1 in 2", "0 k0", ";6;0"},
	})
}

// Functions, lists, pairs and processes that are told; functions that are told and spawned have with them what they know.
func TestRunLoads(t *testing.T) {
	asksRows(t, []runRow{
		{"let p = spawn (fun x -> out (recv 5)) in let k = 3 in send p (fun y -> y * k)", "3x0 3x1", "1:15;1 1;0 0"},
		{"let k = 3 in let g = fun y -> y * k in let p = spawn (fun x -> out (g 5)) in let k = 4 in out k", "0 0 1", "0:4 1:15;0 0;0 0"},
		{"let p = spawn (fun x -> out (recv 4)) in rec f n = if n < 1 then 1 else n * f (n - 1) in send p f", "0 0 1 1", "1:24;0 0;0 0"},
		{"let s = (1, 2 :: 3 :: nil) in let p = spawn (fun x -> case snd s of nil -> 0 | h :: t -> out (fst s + h)) in 0", "0 1", "1:3;0 0;0 0"},
		{"let p = spawn (fun x -> case recv of nil -> out 0 | h :: t -> out (fst h)) in send p ((7, true) :: nil)", "0 0 1 1", "1:7;0 0;0 0"},
		{"let p = spawn (fun x -> let m = recv in send (fst m) (self, snd m + 1)) in let a = send p (self, 1) in out (snd recv)", "0 0 1 1 0 0", "0:2;0 0;0 0"},
		{"let p = spawn (fun x -> send recv recv) in let a = send p self in let b = send p p in link recv", "3x0 3x1 0 0 k1", ";5 6;0 0"},
		{"let p = spawn (fun x -> link (recv 0)) in let a = send p (fun x -> self) in link p", "3x0 1 1 1", ";0 1;0 0"},
		{"let p = spawn (fun x -> let a = send recv self in 0) in let a = send p self in let q = recv in link q", "0 0 1 1 0 0 k1", ";5 6;0 0"},
		{"let f = fun y -> out y in let p = spawn (fun x -> recv 5) in let a = send p f in f 6", "0 0 0 1 1", "0:6 1:5;0 0;0 0"},
		{"let p = spawn (fun x -> out (recv 0)) in let a = send p (fun x -> recv 1) in send p (fun x -> x + 8)", "3x0 3x1", "1:9;0 0;0 0"},
		{"let p = spawn (fun x -> if recv then out 1 else out 2) in let a = send p false in send p true", "3x0 1 1", "1:2;0 0;0 1"},
		{"let p = spawn (fun x -> case recv of nil -> out 1 | h :: t -> h) in send p nil", "0 0 1 1", "1:1;0 0;0 0"},
		{"rec f n = if n < 3 then let p = spawn (fun x -> f (n + 1)) in out n else out 9 in f 0", "0 0 1 1 2 2 3", "0:0 1:1 2:2 3:9;0 0 0 0;0 0 0 0"},
	})
}

// listing is the function that makes a list of so many numbers, its name and its cell being two.
const listing = "rec l n = if n < 1 then nil else n :: l (n - 1) in "

// lists is an expression that knows 66 + k cells, lists of 60 + k numbers among them; it does something ahead of that, and something then.
func lists(ahead string, k int, then string) string {
	return listing + ahead + "let b = l 20 in let c = l 20 in let d = l 20 in let e = l " + strconv.Itoa(k) + " in " + then
}

// What is taken, where there is just room for its cells, and for one less: at once, and by a process that waits.
func TestRunRoom(t *testing.T) {
	for _, row := range []struct {
		ahead  string
		then   string
		events string
		most   int
		taken  string
		full   string
	}{
		{"let a = send self (l 30) in ", "recv", "4x0", 23, ";0;0", ";4;0"},
		{"let a = send self (l 30) in ", "recv", "5x0", 23, ";1;0", ";4;0"},
		{"let a = send self (l 29) in ", "recv", "5x0", 24, ";1;0", ";4;0"},
		{"let a = send self (l 30) in ", "(fun x -> 7) recv", "5x0", 22, ";1;0", ";4;0"}, // the function's own cell makes room for the name
		{"let a = send self (let m = l 30 in (m, m)) in ", "recv", "4x0", 22, ";0;0", ";4;0"},
		{"let a = send self (let m = l 30 in fun x -> m) in ", "recv", "4x0", 19, ";0;0", ";4;0"}, // a function, m, its list, l and its name
		{"let m = self in let p = spawn (fun x -> send m (l 30)) in ", "recv", "4x0 1 0", 22, ";0 0;0 0", ";4 0;0 0"},
		{"let m = self in let p = spawn (fun x -> send m (l 30)) in ", "recv", "4x0 1 0 0", 22, ";1 0;0 0", ";4 0;0 0"},
		{"let m = self in let p = spawn (fun x -> send m (l 30)) in ", "recv", "0 1 3x0", 22, ";0 0;0 0", ";4 0;0 0"},
	} {
		for k := 17; k <= 25; k++ {
			told := asksRuns(t, mustType(t, lists(row.ahead, k, row.then)), eventsOf(row.events))
			if want := map[bool]string{true: row.taken, false: row.full}[k <= row.most]; told[0] != row.taken || told[1] != want || told[2] != want {
				t.Errorf("%s .. %s, %d: %v, want %s", row.ahead, row.then, k, told, want)
			}
		}
	}
	// What is known still is copied nonetheless: b and c, and a pair, once more.
	again := "let a = send self (b, c) in snd (recv, 1)"
	asksRows(t, []runRow{{lists("", 11, again), "5x0", ";1;0"}})
	asksMachRows(t, []runRow{{lists("", 12, again), "4x0", ";4;0"}}, ";1;0")
}

// knows is an expression that knows so many cells, 117 or more; the third pick comes to what it does then.
func knows(cells int, then string) string {
	text := listing
	for _, n := range []string{"20", "20", "20", "20", "15", "8"} {
		text += "let b = l " + n + " in "
	}
	return text + "let c = 1 :: 2 :: 3 :: 4 :: 5 :: nil in " + strings.Repeat("let d = 1 in ", cells-117) + then
}

// A process has no room: while it goes on, or as it is spawned.
func TestRunFull(t *testing.T) {
	asksRows(t, []runRow{
		{listing + "l 58", "0 0", ";1;0"}, {knows(119, "spawn (fun x -> 1)"), "3x0 1", ";0 1;0 0"}, {knows(117, "rec g x = 1 in spawn g"), "3x0 1", ";0 1;0 0"},
		{"rec f n = if n < 1 then 7 else (fun x -> f (n - 1)) 0 in (fun y -> f 29) 0", "0 0", ";1;0"}, {"rec f n = if n < 1 then 7 else (fun x -> f (n - 1)) 0 in spawn (fun y -> (fun z -> f 29) 0)", "0 1 1", ";0 1;0 0"},
	})
	asksMachRows(t, []runRow{
		{listing + "l 59", "0 0", ";4;0"}, {"let x = 1 in " + listing + "l 58", "0 0", ";4;0"}, {listing + "let a = l 59 in recv", "0 0 0", ";4;0"},
		{knows(118, "rec g x = 1 in spawn g"), "3x0", ";0 4;0 0"}, {knows(118, "rec g x = 1 in spawn g"), "4x0 1", ";1 4;0 0"}, {knows(120, "spawn (fun x -> 1)"), "3x0", ";4;0"}, {knows(119, "rec g x = 1 in spawn g"), "3x0", ";4;0"},
		{"rec f n = if n < 1 then 7 else (fun x -> f (n - 1)) 0 in f 30", "0 0", ";4;0"}, {"rec f n = if n < 1 then 7 else (fun x -> f (n - 1)) 0 in spawn (fun y -> (fun z -> f 30) 0)", "0 1 1", ";0 4;0 0"},
		{"let p = spawn (fun x -> recv) in let k = link p in " + listing + "let a = l 59 in 1", "4x0", ";4 5;0 0"}, {"let p = spawn (fun x -> " + listing + "let a = l 59 in 1) in let k = link p in recv", "0 0 0 1 1", ";5 4;0 0"},
	}, ";1;0", ";1;0", ";0;0", ";0 0;0 0", ";1 1;0 0", ";0 0;0 0", ";0 0;0 0", ";1;0", ";0 1;0 0", ";1 0;0 0", ";0 1;0 0")
}

func TestRunTurns(t *testing.T) {
	for rounds := -3; rounds <= 30; rounds++ {
		list := impl.RunTurns(rounds)
		if rounds < 0 || rounds > 20 {
			if len(list) > 0 {
				t.Errorf("%d rounds: %d events", rounds, len(list))
			}
			continue
		}
		if want := eventsOf(strings.Repeat("0 1 2 3 4 5 ", rounds)); !slices.Equal(list, want) {
			t.Errorf("%d rounds: %v", rounds, list)
		}
	}
	for _, rounds := range []int{1 << 40, 1<<63 - 1, -1 << 63, impl.EventMax, impl.EventMax/impl.ProcMax + 1} {
		if list := impl.RunTurns(rounds); len(list) > 0 {
			t.Errorf("%d rounds: %d events", rounds, len(list))
		}
	}
	if list := impl.RunTurns(impl.EventMax / impl.ProcMax); len(list) != impl.EventMax {
		t.Errorf("%d events", len(list))
	}
	list := impl.RunTurns(2)
	list[0].Proc = 5
	if again := impl.RunTurns(2); again[0].Proc != 0 {
		t.Error("an answer is kept")
	}
}

// What has no type, or is not ok.
func TestRunWrong(t *testing.T) {
	list := wrongExprs()
	for _, s := range []string{"x", "1 2", "1 + true", "fun x -> x x", "spawn 1", "spawn (fun x -> true)", "send 1 2", "link 1", "out true", "(send self 1, send self true)", "let a = send self 1 in fst recv"} {
		list = append(list, mustRead(t, s))
	}
	for i, e := range list {
		for _, events := range [][]impl.Event{nil, eventsOf("0"), eventsOf("k0"), impl.RunTurns(20)} {
			for _, a := range []impl.Answer{impl.RunMean(e, events), impl.RunMach(e, events, false), impl.RunMach(e, events, true)} {
				if len(a.Outs)+len(a.Ends)+len(a.Boxes) > 0 {
					t.Errorf("wrong expression %d: %s", i, answerTold(a))
				}
			}
		}
	}
}
