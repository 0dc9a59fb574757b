package tests

import (
	"math/rand"
	"slices"
	"strconv"
	"strings"
	"testing"

	"loop.example/ensemble/impl"
)

// textTold is how AnswerPut writes what answerTold tells in one line.
func textTold(told string) string {
	text := ""
	for i, part := range strings.Split(told, ";") {
		text += []string{"outs", "ends", "left"}[i]
		if part != "" {
			text += " " + part
		}
		text += "\n"
	}
	return text
}

func TestAnswerPutTable(t *testing.T) {
	for i, r := range []struct {
		a    impl.Answer
		want string
	}{
		{impl.Answer{}, "outs\nends\nleft\n"},
		{impl.Answer{Outs: []impl.Told{}, Ends: []int{}, Boxes: []int{}}, "outs\nends\nleft\n"},
		{impl.Answer{Outs: []impl.Told{{}}}, "outs 0:0\nends\nleft\n"},
		{impl.Answer{Ends: []int{0}}, "outs\nends 0\nleft\n"},
		{impl.Answer{Boxes: []int{0}}, "outs\nends\nleft 0\n"},
		{impl.Answer{Outs: []impl.Told{{Proc: 1, Num: 5}, {Num: -7}}, Ends: []int{1, 0, 6}, Boxes: []int{0, 2, 0}}, "outs 1:5 0:-7\nends 1 0 6\nleft 0 2 0\n"},
		{impl.Answer{Outs: []impl.Told{{Proc: -1, Num: 1<<63 - 1}}, Ends: []int{-3, 1 << 40}, Boxes: []int{-1 << 63}}, "outs -1:9223372036854775807\nends -3 1099511627776\nleft -9223372036854775808\n"},
	} {
		if got := impl.AnswerPut(r.a); got != r.want || answerText(r.a) != r.want {
			t.Errorf("%d: %q, want %q", i, got, r.want)
		}
	}
	e := mustType(t, "let p = spawn (fun x -> out recv) in send p 5")
	if got := impl.AnswerPut(impl.RunMean(e, eventsOf("0 0 1 1 0"))); got != "outs 1:5\nends 1 0\nleft 0 0\n" {
		t.Errorf("%q", got)
	}
}

// someAnswer is any answer, of few numbers, so that two are often the same.
func someAnswer(r *rand.Rand) impl.Answer {
	few := []int{0, 0, 0, 1, 10, 11, -1, 1 << 40, -1 << 63}
	number := func() int { return few[r.Intn(len(few))] }
	a := impl.Answer{}
	for range r.Intn(3) {
		a.Outs = append(a.Outs, impl.Told{Proc: number(), Num: number()})
	}
	for range r.Intn(3) {
		a.Ends = append(a.Ends, number())
	}
	for range r.Intn(3) {
		a.Boxes = append(a.Boxes, number())
	}
	return a
}

func sameAnswer(a impl.Answer, b impl.Answer) bool {
	return slices.Equal(a.Outs, b.Outs) && slices.Equal(a.Ends, b.Ends) && slices.Equal(a.Boxes, b.Boxes)
}

// nearly are answers that differ from one in one place alone.
func nearly(a impl.Answer) []impl.Answer {
	var list []impl.Answer
	add := func(change func(b *impl.Answer)) {
		b := impl.Answer{Outs: slices.Clone(a.Outs), Ends: slices.Clone(a.Ends), Boxes: slices.Clone(a.Boxes)}
		change(&b)
		list = append(list, b)
	}
	for i := range a.Outs {
		add(func(b *impl.Answer) { b.Outs[i].Proc++ })
		add(func(b *impl.Answer) { b.Outs[i].Num-- })
		add(func(b *impl.Answer) { b.Outs = slices.Delete(b.Outs, i, i+1) })
	}
	for i := range a.Ends {
		add(func(b *impl.Answer) { b.Ends[i] += 10 })
		add(func(b *impl.Answer) { b.Ends = slices.Delete(b.Ends, i, i+1) })
		add(func(b *impl.Answer) { b.Ends, b.Boxes = slices.Delete(b.Ends, i, i+1), append(b.Boxes, b.Ends[i]) })
	}
	for i := range a.Boxes {
		add(func(b *impl.Answer) { b.Boxes[i] = -b.Boxes[i] - 1 })
		add(func(b *impl.Answer) { b.Boxes = slices.Delete(b.Boxes, i, i+1) })
	}
	add(func(b *impl.Answer) { b.Outs = append(b.Outs, impl.Told{}) })
	add(func(b *impl.Answer) { b.Ends = append(b.Ends, 0) })
	add(func(b *impl.Answer) { b.Boxes = append(b.Boxes, 0) })
	return list
}

// P47: no two answers are written alike.
func TestAnswerPutPromise(t *testing.T) {
	r := rand.New(rand.NewSource(711))
	var list []impl.Answer
	for range 300 {
		a := someAnswer(r)
		list = append(list, a)
		list = append(list, nearly(a)...)
	}
	texts := map[string]impl.Answer{}
	again := 0
	for _, a := range list {
		s := impl.AnswerPut(a)
		if s != answerText(a) || strings.Count(s, "\n") != 3 || !strings.HasSuffix(s, "\n") {
			t.Fatalf("%v: %q", a, s)
		}
		if b, ok := texts[s]; ok {
			again++
			if !sameAnswer(a, b) {
				t.Fatalf("%v and %v are both %q", a, b, s)
			}
		}
		texts[s] = a
	}
	for _, a := range list[:100] {
		for _, b := range nearly(a) {
			if impl.AnswerPut(a) == impl.AnswerPut(b) {
				t.Fatalf("%v and %v are written alike", a, b)
			}
		}
	}
	if again < 50 || len(texts) < 500 {
		t.Errorf("%d of %d were written again", again, len(list))
	}
}

// asksWays asks WaysOf against players, and that its answers are ascending, each once; they are told.
func asksWays(t *testing.T, e impl.Expr, picks int) []string {
	t.Helper()
	all := impl.WaysOf(e, picks)
	if want := waysStaged(e, nil, picks); !slices.Equal(all, want) {
		t.Fatalf("%s, %d picks: %q, want %q", impl.ExprPut(e), picks, all, want)
	}
	for i := 1; i < len(all); i++ {
		if all[i-1] >= all[i] {
			t.Fatalf("%s, %d picks: %q is not ascending", impl.ExprPut(e), picks, all)
		}
	}
	return all
}

// wayRow is a text, how many picks there are, and all answers, as answerTold tells them.
type wayRow struct {
	text  string
	picks int
	want  []string
}

func asksWayRows(t *testing.T, rows []wayRow) {
	t.Helper()
	for _, row := range rows {
		var want []string
		for _, told := range row.want {
			want = append(want, textTold(told))
		}
		if all := asksWays(t, mustType(t, row.text), row.picks); !slices.Equal(all, want) {
			t.Errorf("%s, %d picks: %q, want %q", row.text, row.picks, all, want)
		}
	}
}

// One process alone has one way; where it can do nothing any more there are fewer picks than may be.
func TestWaysAlone(t *testing.T) {
	asksWayRows(t, []wayRow{
		{"7", 0, []string{";0;0"}}, {"7", 1, []string{";1;0"}}, {"7", 2, []string{";1;0"}}, {"7", 6, []string{";1;0"}}, {"1 / 0", 0, []string{";0;0"}}, {"1 / 0", 6, []string{";2;0"}},
		{"recv", 0, []string{";0;0"}}, {"recv", 1, []string{";0;0"}}, {"recv", 6, []string{";0;0"}}, {"out 5", 1, []string{"0:5;0;0"}}, {"out 5", 2, []string{"0:5;1;0"}}, {"out 5", 6, []string{"0:5;1;0"}},
		{"let a = send self 5 in 7", 1, []string{";0;1"}}, {"let a = send self 5 in 7", 2, []string{";1;0"}}, {"let a = send self 5 in out recv", 6, []string{"0:5;1;0"}}, {"rec f n = f n in f 0", 6, []string{";0;0"}},
		{"rec f n = let a = out n in f (n - 1) in f 2", 6, []string{"0:2 0:1 0:0 0:-1 0:-2 0:-3;0;0"}}, {"rec f n = let a = out n in f (n - 1) in f 2", 5, []string{"0:2 0:1 0:0 0:-1 0:-2;0;0"}},
	})
}

// Two processes, in all orders; ways that lead to the same answer are told once.
func TestWaysTable(t *testing.T) {
	race := "let p = spawn (fun x -> out 5) in out 4"
	asksWayRows(t, []wayRow{
		{race, 0, []string{";0;0"}}, {race, 1, []string{";0 0;0 0"}}, {race, 2, []string{"0:4;0 0;0 0", "1:5;0 0;0 0"}}, {race, 3, []string{"0:4;1 0;0 0", "0:4 1:5;0 0;0 0", "1:5;0 1;0 0", "1:5 0:4;0 0;0 0"}},
		{race, 4, []string{"0:4 1:5;0 1;0 0", "0:4 1:5;1 0;0 0", "1:5 0:4;0 1;0 0", "1:5 0:4;1 0;0 0"}}, {race, 5, []string{"0:4 1:5;1 1;0 0", "1:5 0:4;1 1;0 0"}}, {race, 6, []string{"0:4 1:5;1 1;0 0", "1:5 0:4;1 1;0 0"}},
		{"let p = spawn (fun x -> 1) in 2", 3, []string{";1 1;0 0"}}, {"let p = spawn (fun x -> out 4) in out 4", 6, []string{"0:4 1:4;1 1;0 0", "1:4 0:4;1 1;0 0"}},
		{"let p = spawn (fun x -> 1 / 0) in link p", 3, []string{";1 0;0 0", ";5 2;0 0"}}, {"let p = spawn (fun x -> 1 / 0) in link p", 6, []string{";1 2;0 0", ";5 2;0 0"}},
	})
}

// A process that waits and was told something, that waits and was not, that waits and has ended, that was told something and does not wait.
func TestWaysOfWaiting(t *testing.T) {
	told := "let p = spawn (fun x -> out recv) in send p 5"
	asksWayRows(t, []wayRow{
		{told, 1, []string{";0 0;0 0"}}, {told, 2, []string{";0 0;0 0", ";0 0;0 1"}}, {told, 3, []string{";0 0;0 0", ";0 0;0 1", ";1 0;0 1"}}, {told, 6, []string{"1:5;0 1;0 0", "1:5;1 0;0 0", "1:5;1 1;0 0"}},
		{"let p = spawn (fun x -> recv) in 7", 3, []string{";1 0;0 0"}}, {"let p = spawn (fun x -> recv) in 7", 6, []string{";1 0;0 0"}}, {"let p = spawn (fun x -> recv) in recv", 6, []string{";0 0;0 0"}},
		{"let p = spawn (fun x -> recv) in let a = link p in 1 / 0", 6, []string{";2 5;0 0"}}, {"let p = spawn (fun x -> recv) in let a = link p in 1 / 0", 3, []string{";0 0;0 0", ";2 5;0 0"}},
		{"let p = spawn (fun x -> out x) in send p 5", 3, []string{";1 0;0 1", "1:0;0 0;0 1", "1:0;0 1;0 0"}}, {"let p = spawn (fun x -> x) in send p 5", 6, []string{";1 1;0 0"}},
	})
}

// A process that is spawned behind a pick, by one that was spawned, too; and more than there may be.
func TestWaysOfSpawned(t *testing.T) {
	text := "let p = spawn (fun x -> let q = spawn (fun y -> out 2) in out 1) in out 0"
	full := []string{";0 0 0 0 0 4;0 0 0 0 0 0", ";0 0 0 0 4 0;0 0 0 0 0 0", ";0 0 0 4 0 0;0 0 0 0 0 0", ";0 0 4 0 0 0;0 0 0 0 0 0", ";0 4 0 0 0 0;0 0 0 0 0 0", ";4 0 0 0 0 0;0 0 0 0 0 0"}
	asksWayRows(t, []wayRow{
		{text, 2, []string{";0 0 0;0 0 0", "0:0;0 0;0 0"}}, {text, 3, []string{"0:0;0 0 0;0 0 0", "0:0;1 0;0 0", "1:1;0 0 0;0 0 0", "2:2;0 0 0;0 0 0"}},
		{"rec f n = let p = spawn f in f (n + 1) in f 0", 5, []string{";0 0 0 0 0 0;0 0 0 0 0 0"}}, {"rec f n = let p = spawn f in f (n + 1) in f 0", 6, full},
	})
}

// Picks out of bounds, and expressions that are not ok, have free names, or no type.
func TestWaysWrong(t *testing.T) {
	race := mustType(t, "let p = spawn (fun x -> out 5) in out 4")
	for _, picks := range []int{-1, impl.WaysMax + 1, 1 << 40, 1<<63 - 1, -1 << 63, impl.EventMax} {
		if all := impl.WaysOf(race, picks); len(all) > 0 {
			t.Errorf("%d picks: %q", picks, all)
		}
	}
	if len(impl.WaysOf(race, 0)) != 1 || len(impl.WaysOf(race, impl.WaysMax)) != 2 {
		t.Error("the least and the most picks that may be have no answers")
	}
	list := wrongExprs()
	for _, s := range append(withoutType(), "x", "let p = spawn (fun x -> y) in 1") {
		list = append(list, mustRead(t, s))
	}
	for i, e := range list {
		for _, picks := range []int{0, 1, impl.WaysMax, -1, impl.WaysMax + 1} {
			if all := impl.WaysOf(e, picks); len(all) > 0 {
				t.Errorf("wrong expression %d, %d picks: %q", i, picks, all)
			}
		}
		for _, events := range [][]impl.Event{nil, eventsOf("0"), eventsOf("k0 0"), impl.RunTurns(20)} {
			if trace := impl.WaysTrace(e, events); len(trace) > 0 || impl.WaysStill(e, events) {
				t.Errorf("wrong expression %d: %v", i, trace)
			}
		}
	}
}

// asksTrace asks WaysTrace and WaysStill against players; both are told.
func asksTrace(t *testing.T, e impl.Expr, list []impl.Event) ([]int, bool) {
	t.Helper()
	trace, still := impl.WaysTrace(e, list), impl.WaysStill(e, list)
	_, wanted, can := staged(e, list)
	if !slices.Equal(trace, wanted) || still != (len(can) == 0) {
		t.Fatalf("%s, behind %v: %v %v, want %v %v", impl.ExprPut(e), list, trace, still, wanted, can)
	}
	return trace, still
}

// traceRow is a text, events, what was wanted, and whether no process can then.
type traceRow struct {
	text   string
	events string
	want   string
	still  bool
}

func asksTraceRows(t *testing.T, rows []traceRow) {
	t.Helper()
	numbers := map[string]int{"-": -1, "more": 0, "done": 101, "div": 102, "spawn": 16, "send": 17, "recv": 19, "out": 20, "link": 21}
	for _, row := range rows {
		var want []int
		for _, word := range strings.Fields(row.want) {
			want = append(want, numbers[word])
		}
		if trace, still := asksTrace(t, mustType(t, row.text), eventsOf(row.events)); !slices.Equal(trace, want) || still != row.still {
			t.Errorf("%s, behind %s: %v %v, want %v %v", row.text, row.events, trace, still, want, row.still)
		}
	}
}

// Each Kind that can be wanted, WantDone, WantDiv, and RunMax functions called ahead of anything, and one less.
func TestTraceWants(t *testing.T) {
	calls := "rec f n = if n < 1 then 0 else f (n - 1) in let a = f "
	asksTraceRows(t, []traceRow{
		{"7", "", "", false}, {"recv", "", "", false}, {"7", "0", "done", true}, {"7", "0 0 0", "done - -", true}, {"1 / 0", "0 0", "div -", true}, {"recv", "0 0", "recv -", true}, {"out 5", "0 0", "out done", true}, {"out 5", "0", "out", false},
		{"let a = send self 5 in recv", "0 0 0 0", "send recv done -", true}, {"let a = send self 5 in recv", "0 0", "send recv", false}, {"link self", "0", "link", false}, {"link self", "0 0", "link done", true}, {"spawn (fun x -> 1)", "0", "spawn", false}, {"spawn (fun x -> 1)", "0 0 1", "spawn done done", true},
		{"rec f n = f n in f 0", "0 0 0", "more more more", false}, {calls + "38 in out 5", "0 0", "out done", true}, {calls + "39 in out 5", "0 0 0", "more out done", true}, {calls + "39 in recv", "0", "more", false}, {calls + "39 in recv", "0 0", "more recv", true}, {calls + "39 in 1 / 0", "0 0", "more div", true}, {calls + "38 in 1 / 0", "0", "div", true},
	})
	asksTraceRows(t, []traceRow{
		{"rec f n = if n < 1 then 7 else f (n - 1) in f 38", "0", "done", true}, {"rec f n = if n < 1 then 7 else f (n - 1) in f 39", "0", "more", false}, {"rec f n = if n < 1 then 7 else f (n - 1) in f 39", "0 0", "more done", true}, {"rec f n = if n < 1 then 7 else f (n - 1) in f 79", "0 0 0", "more more done", true},
	})
}

// A process that waits, was told something, was not, or has ended; one that was told something and does not wait; ends of all kinds.
func TestTraceOfWaiting(t *testing.T) {
	told := "let p = spawn (fun x -> out recv) in send p 5"
	linked := "let p = spawn (fun x -> recv) in let a = link p in 1 / 0"
	many := "rec f n = let p = spawn f in f (n + 1) in f 0"
	box := "rec f n = let a = send self n in f (n + 1) in f 0"
	asksTraceRows(t, []traceRow{
		{told, "0 1", "spawn recv", false}, {told, "0 1 1 0", "spawn recv - send", false}, {told, "0 1 1 0 0", "spawn recv - send done", false}, {told, "0 1 1 0 1 1 1 1 0 0", "spawn recv - send recv out done - done -", true}, {told, "0 0 1 1 1 0", "spawn send recv out done done", true},
		{told, "0 1 k0", "spawn recv -", true}, {told, "0 1 0 0 k1 1", "spawn recv send done - -", true}, {told, "0 1 0 k0", "spawn recv send -", false}, {told, "1 0 1", "- spawn recv", false}, {told, "0 k1 0 0", "spawn - send done", true},
		{"let p = spawn (fun x -> out x) in send p 5", "0 0 1 1 0", "spawn send out done done", true}, {"let p = spawn (fun x -> out x) in send p 5", "0 0", "spawn send", false}, {"let p = spawn (fun x -> recv) in recv", "0 1 0", "spawn recv recv", true}, {"let p = spawn (fun x -> recv) in recv", "0 0", "spawn recv", false}, {"let p = spawn (fun x -> recv) in recv", "0 1", "spawn recv", false},
		{linked, "0 1 0 0 1 0", "spawn recv link div - -", true}, {linked, "0 0 0 1", "spawn link div -", true}, {linked, "0 0 1 k1 0", "spawn link recv - -", true}, {"let p = spawn (fun x -> 1 / 0) in link p", "0 1 0 0", "spawn div link -", true}, {"let p = spawn (fun x -> 1) in link p", "0 1 0 0", "spawn done link done", true},
		{many, "6x0 0", "spawn spawn spawn spawn spawn spawn -", false}, {many, "5x0 5 5 0", "spawn spawn spawn spawn spawn spawn - spawn", false}, {box, "6x0", "send send send send send send", false}, {box, "8x0", "send send send send send send send -", true},
		{"let p = spawn (fun x -> recv) in " + strings.ReplaceAll(box, "self", "p"), "0 1 7x0 1 0", "spawn recv send send send send send send send - send", false},
	})
}

// Events that are not EventRun, or of a process that is not there.
func TestTraceEvents(t *testing.T) {
	asksTraceRows(t, []traceRow{
		{"7", "1 -1 6 2 0", "- - - - done", true}, {"7", "k0", "-", true}, {"7", "k0 0 k0", "- - -", true}, {"out 5", "k1 0 k-1 k6 0", "- out - - done", true}, {"out 5", "0 k0 0", "out - -", true}, {"recv", "0 k0 0", "recv - -", true}, {"spawn (fun x -> out x)", "k1 0 1 k1 1 0", "- spawn out - - done", true},
	})
	e := mustType(t, "let p = spawn (fun x -> out 8) in out 7")
	for _, kind := range []int{0, 3, -1, 1 << 40, -1 << 63, 1<<63 - 1} {
		list := []impl.Event{{Kind: kind}, {Kind: impl.EventRun}, {Kind: kind, Proc: 1}, {Kind: impl.EventRun, Proc: 1}, {Kind: kind}, {Kind: impl.EventRun, Proc: 1}, {Kind: impl.EventRun}}
		if trace, still := asksTrace(t, e, list); still || !slices.Equal(trace, []int{-1, impl.ExprSpawn, -1, impl.ExprOut, -1, impl.WantDone, impl.ExprOut}) {
			t.Errorf("kind %d: %v %v", kind, trace, still)
		}
	}
	for _, proc := range []int{-1, 2, 5, 6, 1 << 40, -1 << 63, 1<<63 - 1} {
		for _, kind := range []int{impl.EventRun, impl.EventKill} {
			if trace, still := asksTrace(t, e, []impl.Event{{Kind: impl.EventRun}, {Kind: kind, Proc: proc}, {Kind: impl.EventRun}}); still || !slices.Equal(trace, []int{impl.ExprSpawn, -1, impl.ExprOut}) {
				t.Errorf("process %d: %v %v", proc, trace, still)
			}
		}
	}
}

// No events, EventMax events, and one more, those that do nothing among them.
func TestTraceEventMax(t *testing.T) {
	outs := mustType(t, "rec f n = let a = out n in f (n + 1) in f 0")
	for _, count := range []int{0, 1, impl.EventMax - 1, impl.EventMax, impl.EventMax + 1, 500} {
		trace, still := asksTrace(t, outs, eventsOf(strconv.Itoa(count)+"x0"))
		if still || len(trace) != min(count, impl.EventMax) || len(trace) != len(impl.RunMean(outs, eventsOf(strconv.Itoa(count)+"x0")).Outs) {
			t.Errorf("%d events: %d wants", count, len(trace))
		}
	}
	seven := mustType(t, "7")
	for _, ahead := range []int{impl.EventMax - 1, impl.EventMax} {
		for _, event := range []string{"0", "k0"} {
			trace, still := asksTrace(t, seven, eventsOf(strconv.Itoa(ahead)+"x5 "+event))
			if still != (ahead < impl.EventMax) || len(trace) != impl.EventMax || (trace[impl.EventMax-1] == impl.WantDone) != (still && event == "0") {
				t.Errorf("%d events ahead of %s: %v", ahead, event, still)
			}
		}
	}
}

// abler are processes that can behind events: those of which something is done, if they are picked.
func abler(e impl.Expr, list []impl.Event) []int {
	var can []int
	for n := -1; n <= impl.ProcMax; n++ {
		trace := impl.WaysTrace(e, append(list[:len(list):len(list)], impl.Event{Kind: impl.EventRun, Proc: n}))
		if trace[len(trace)-1] != -1 {
			can = append(can, n)
		}
	}
	return can
}

// P43: whatever is picked, it leads to one of all answers; and these are just those that players come to.
func TestWaysPromise(t *testing.T) {
	r := rand.New(rand.NewSource(712))
	many, fewer := 0, 0
	for i, e := range append(plots(713, 500), typedOf(714, 150)...) {
		picks := max(r.Intn(impl.WaysMax+1), r.Intn(impl.WaysMax+1), r.Intn(impl.WaysMax+1))
		all := impl.WaysOf(e, picks)
		if i%3 == 0 {
			asksWays(t, e, picks)
		}
		if !slices.IsSorted(all) || len(slices.Compact(slices.Clone(all))) != len(all) {
			t.Fatalf("%s, %d picks: %q", impl.ExprPut(e), picks, all)
		}
		if len(all) > 3 {
			many++
		}
		for range 8 {
			var list []impl.Event
			for len(list) < picks && !impl.WaysStill(e, list) {
				can := abler(e, list)
				list = append(list, impl.Event{Kind: impl.EventRun, Proc: can[r.Intn(len(can))]})
			}
			if len(list) < picks {
				fewer++
			}
			if s := impl.AnswerPut(impl.RunMean(e, list)); !slices.Contains(all, s) {
				t.Fatalf("%s, behind %v: %q is none of %q", impl.ExprPut(e), list, s, all)
			}
		}
	}
	if many < 40 || fewer < 200 {
		t.Errorf("%d had more than three answers, %d fewer picks", many, fewer)
	}
}

// P44: without picks there is one answer, and a process alone has one way.
func TestWaysOne(t *testing.T) {
	alone := 0
	for _, e := range append(plots(715, 300), withTypes(716, 600)...) {
		first := impl.AnswerPut(impl.RunMean(e, nil))
		if all := impl.WaysOf(e, 0); len(all) != 1 || all[0] != first || first != textTold(";0;0") {
			t.Fatalf("%s: %q, want %q", impl.ExprPut(e), all, first)
		}
		all := impl.WaysOf(e, 4)
		several := slices.ContainsFunc(all, func(s string) bool { return strings.Count(strings.Split(s, "\n")[1], " ") > 1 })
		if len(all) == 0 || !several && len(all) != 1 {
			t.Fatalf("%s: %q", impl.ExprPut(e), all)
		}
		if !several {
			alone++
			if want := impl.AnswerPut(impl.RunMean(e, eventsOf("4x0"))); all[0] != want {
				t.Fatalf("%s: %q, want %q", impl.ExprPut(e), all, want)
			}
		}
	}
	if alone < 500 {
		t.Errorf("%d were alone", alone)
	}
}

// countOf is how many of a list are a number.
func countOf(list []int, n int) int {
	count := 0
	for _, m := range list {
		if m == n {
			count++
		}
	}
	return count
}

// P45: a trace tells of each event what was wanted; against players.
func TestTracePromise(t *testing.T) {
	wants := map[int]int{}
	runs(717, 1200, func(e impl.Expr, list []impl.Event) {
		trace, _ := asksTrace(t, e, list)
		a := impl.RunMean(e, list)
		if len(trace) != min(len(list), impl.EventMax) || countOf(trace, impl.ExprOut) != len(a.Outs) || countOf(trace, impl.WantDone) != countOf(a.Ends, impl.EndDone) || countOf(trace, impl.WantDiv) != countOf(a.Ends, impl.EndDiv) {
			t.Fatalf("%s, behind %v: %v, but %s", impl.ExprPut(e), list, trace, answerTold(a))
		}
		for _, want := range trace {
			wants[want]++
		}
	})
	for _, want := range []int{-1, impl.WantMore, impl.WantDone, impl.WantDiv, impl.ExprSpawn, impl.ExprSend, impl.ExprRecv, impl.ExprOut, impl.ExprLink} {
		if wants[want] < 200 {
			t.Errorf("%d was wanted %d times", want, wants[want])
		}
		delete(wants, want)
	}
	if len(wants) > 0 {
		t.Errorf("others were wanted: %v", wants)
	}
}

// P46: where nothing would be done nothing is.
func TestStillPromise(t *testing.T) {
	count, waiting := map[bool]int{}, 0
	runs(718, 800, func(e impl.Expr, list []impl.Event) {
		list = list[:min(len(list), impl.EventMax-2*impl.ProcMax)]
		still := impl.WaysStill(e, list)
		count[still]++
		for rounds := 1; rounds <= 2; rounds++ {
			more := append(list[:len(list):len(list)], impl.RunTurns(rounds)...)
			behind := impl.WaysTrace(e, more)[len(list):]
			if still != (countOf(behind, -1) == rounds*impl.ProcMax) {
				t.Fatalf("%s, behind %v: %v, but %v", impl.ExprPut(e), list, still, behind)
			}
			a, b := impl.RunMean(e, list), impl.RunMean(e, more)
			if still && (impl.AnswerPut(a) != impl.AnswerPut(b) || !impl.WaysStill(e, more)) {
				t.Fatalf("%s, behind %v: %s, then %s", impl.ExprPut(e), list, answerTold(a), answerTold(b))
			}
			if still && slices.Contains(a.Ends, impl.EndNot) {
				waiting++
			}
		}
	})
	if count[true] < 300 || count[false] < 300 || waiting < 100 {
		t.Errorf("%d are still, %d of them wait, %d are not", count[true], waiting, count[false])
	}
}

// Nothing is written into what is given, nor behind it, and nothing of an answer is shared or kept.
func TestWaysWriteNothing(t *testing.T) {
	runs(719, 60, func(e impl.Expr, list []impl.Event) {
		spare := withSpare(e)
		mark := impl.Event{Kind: 9, Proc: 9}
		events := append(append(make([]impl.Event, 0, len(list)+3), list...), mark)[:len(list)]
		all, trace, still := impl.WaysOf(spare, 4), impl.WaysTrace(spare, events), impl.WaysStill(spare, events)
		if !sameExpr(spare, e) || !spareKept(spare) || !slices.Equal(events, list) || events[:len(list)+1][len(list)] != mark {
			t.Fatalf("%s was written into", impl.ExprPut(e))
		}
		wantAll, wantTrace := slices.Clone(all), slices.Clone(trace)
		clear(all[:cap(all)])
		clear(trace[:cap(trace)])
		if !slices.Equal(impl.WaysOf(e, 4), wantAll) || !slices.Equal(impl.WaysTrace(e, list), wantTrace) || impl.WaysStill(e, list) != still {
			t.Fatalf("%s: another answer", impl.ExprPut(e))
		}
	})
	r := rand.New(rand.NewSource(720))
	for range 300 {
		a := someAnswer(r)
		b := impl.Answer{Outs: slices.Clone(a.Outs), Ends: slices.Clone(a.Ends), Boxes: slices.Clone(a.Boxes)}
		if impl.AnswerPut(a); !sameAnswer(a, b) {
			t.Fatalf("%v was written into", b)
		}
	}
}
