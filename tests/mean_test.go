package tests

import (
	"maps"
	"strconv"
	"strings"
	"testing"

	"loop.example/ensemble/impl"
)

// worth is a value, as the tests see it: a number, truth or process has its text, a list is empty or has two parts.
type worth struct {
	sign  string
	num   int32
	parts []*worth
	call  func(d *thought, x *worth) *worth
}

// stops is what thinking panics with.
type stops struct{ want int }

// thought does what words mean by going into parts; alone, if there is nobody whom it asks for what it wants. A function is thought by who calls it.
type thought struct {
	self  int
	calls int
	asks  func(kind int, parts []*worth) *worth
}

func (d *thought) of(e impl.Expr, known map[string]*worth) *worth {
	with := func(more ...any) map[string]*worth {
		out := maps.Clone(known)
		for i := 0; i < len(more); i += 2 {
			out[more[i].(string)] = more[i+1].(*worth)
		}
		return out
	}
	switch e.Kind {
	case impl.ExprVar:
		return known[e.Name]
	case impl.ExprFun:
		return &worth{sign: "fun", call: func(d *thought, x *worth) *worth { return d.of(e.Kids[0], with(e.Name, x)) }}
	case impl.ExprRec:
		f := &worth{sign: "fun"}
		f.call = func(d *thought, x *worth) *worth { return d.of(e.Kids[0], with(e.Name, f, e.Tail, x)) }
		return d.of(e.Kids[1], with(e.Name, f))
	case impl.ExprLet:
		return d.of(e.Kids[1], with(e.Name, d.of(e.Kids[0], known)))
	case impl.ExprIf:
		if d.of(e.Kids[0], known).num == 1 {
			return d.of(e.Kids[1], known)
		}
		return d.of(e.Kids[2], known)
	case impl.ExprCase:
		list := d.of(e.Kids[0], known)
		if len(list.parts) == 0 {
			return d.of(e.Kids[1], known)
		}
		return d.of(e.Kids[2], with(e.Name, list.parts[0], e.Tail, list.parts[1]))
	}
	var parts []*worth
	for _, kid := range e.Kids {
		parts = append(parts, d.of(kid, known))
	}
	return d.does(e, parts)
}

func (d *thought) does(e impl.Expr, parts []*worth) *worth {
	switch e.Kind {
	case impl.ExprNum:
		return &worth{sign: "int", num: int32(e.Num)}
	case impl.ExprBool:
		return &worth{sign: "bool", num: int32(e.Num)}
	case impl.ExprSelf:
		return &worth{sign: "pid", num: int32(d.self)}
	case impl.ExprNil, impl.ExprCons:
		return &worth{sign: "list", parts: parts}
	case impl.ExprPair:
		return &worth{sign: "pair", parts: parts}
	case impl.ExprFst:
		return parts[0].parts[0]
	case impl.ExprSnd:
		return parts[0].parts[1]
	case impl.ExprApp:
		d.counts()
		return parts[0].call(d, parts[1])
	case impl.ExprOp:
		return opWorth(e.Num, int64(parts[0].num), int64(parts[1].num))
	}
	if d.asks != nil {
		return d.asks(e.Kind, parts)
	}
	if e.Kind == impl.ExprOut {
		return &worth{sign: "int"}
	}
	panic(stops{e.Kind})
}

// counts counts a call, and stops, or asks to go on, if there were as many as may be.
func (d *thought) counts() {
	d.calls++
	if d.asks == nil && d.calls == impl.CallMax {
		panic(stops{impl.WantMore})
	}
	if d.asks != nil && d.calls == impl.RunMax {
		d.asks(impl.WantMore, nil)
	}
}

// opWorth does an op in 64 bits, and wraps by counting.
func opWorth(op int, x int64, y int64) *worth {
	truth := map[bool]int32{true: 1}
	var n int64
	switch op {
	case impl.OpLess:
		return &worth{sign: "bool", num: truth[x < y]}
	case impl.OpSame:
		return &worth{sign: "bool", num: truth[x == y]}
	case impl.OpAdd:
		n = x + y
	case impl.OpSub:
		n = x - y
	case impl.OpMul:
		n = x * y
	case impl.OpDiv:
		if y == 0 {
			panic(stops{impl.WantDiv})
		}
		n = x / y
	}
	n = (n%(1<<32) + 1<<32) % (1 << 32)
	if n >= 1<<31 {
		n -= 1 << 32
	}
	return &worth{sign: "int", num: int32(n)}
}

// told is the text of a value that stands in so many pairs and lists.
func (w *worth) told(around int) string {
	if around >= impl.DeepMax {
		return "..."
	}
	switch w.sign {
	case "int":
		return strconv.Itoa(int(w.num))
	case "bool":
		return []string{"false", "true"}[w.num]
	case "pid":
		return "pid " + strconv.Itoa(int(w.num))
	case "fun", "env":
		return w.sign
	case "pair":
		return "(" + w.parts[0].told(around+1) + ", " + w.parts[1].told(around+1) + ")"
	}
	if len(w.parts) == 0 {
		return "nil"
	}
	head := w.parts[0].told(around + 1)
	if w.parts[0].sign == "list" && len(w.parts[0].parts) > 0 {
		head = "(" + head + ")"
	}
	return head + " :: " + w.parts[1].told(around+1)
}

// evalThought is EvalOf of an expression that has a type, as the tests see it.
func evalThought(e impl.Expr) (text string, want int) {
	defer func() {
		if caught := recover(); caught != nil {
			text, want = "", caught.(stops).want
		}
	}()
	d := &thought{}
	return d.of(e, map[string]*worth{}).told(0), impl.WantDone
}

// evalRow is a text, and what EvalOf is of it.
type evalRow struct {
	text  string
	value string
	want  int
}

func asksValues(t *testing.T, rows []evalRow) {
	t.Helper()
	for _, row := range rows {
		if s, want := impl.EvalOf(mustRead(t, row.text)); s != row.value || want != row.want {
			t.Errorf("%s: %q %d, want %q %d", row.text, s, want, row.value, row.want)
		}
	}
}

func TestEvalOfTable(t *testing.T) {
	var rows []evalRow
	for _, p := range [][2]string{
		{"0", "0"}, {"999999", "999999"}, {"true", "true"}, {"false", "false"}, {"nil", "nil"}, {"self", "pid 0"}, {"fun x -> x", "fun"}, {"rec f x = f x in f", "fun"}, {"(fun x -> fun y -> x) 1", "fun"},
		{"(1, true)", "(1, true)"}, {"((1, 2), (3, self))", "((1, 2), (3, pid 0))"}, {"1 :: 2 :: nil", "1 :: 2 :: nil"}, {"(1 :: nil) :: nil :: nil", "(1 :: nil) :: nil :: nil"}, {"nil :: nil", "nil :: nil"},
		{"(1, nil) :: nil", "(1, nil) :: nil"}, {"(nil, 1 :: nil)", "(nil, 1 :: nil)"}, {"(fun x -> x) :: nil", "fun :: nil"}, {"0 - 1 :: nil", "-1 :: nil"}, {"((1 :: nil) :: nil) :: nil", "((1 :: nil) :: nil) :: nil"},
		{"(fun x -> x) 1", "1"}, {"(fun x -> fun y -> x) 1 2", "1"}, {"(fun x -> fun y -> y) 1 2", "2"}, {"(fun x -> fun x -> x) 1 2", "2"}, {"(fun f -> f (f 1)) (fun x -> x + x)", "4"},
		{"let x = 1 in x", "1"}, {"let x = 1 in let y = x + 1 in let x = y in x + y", "4"}, {"let x = 1 in let f = fun y -> x + y in let x = 5 in f 10", "11"}, {"let x = 1 in let x = x + 1 in x", "2"},
		{"rec f n = if n < 1 then 1 else n * f (n - 1) in f 5", "120"}, {"rec f x = x in let g = f in let f = fun x -> 0 in g 3", "3"}, {"let x = 7 in rec f n = if n < 1 then x else f (n - 1) in let x = 8 in f 2", "7"},
		{"rec f x = fun y -> if x < 1 then y else f (x - 1) (y + y) in f 5 1", "32"}, {"(rec f x = x + 1 in f) 1", "2"}, {"let f = 5 in rec f x = if x = 0 then 1 else f 0 in f 3", "1"},
		{"if true then 1 else 2", "1"}, {"if false then 1 else 2", "2"}, {"if 1 < 2 then 1 else 1 / 0", "1"}, {"if 2 < 1 then 1 / 0 else 2", "2"}, {"if 1 = 1 then fun x -> x else fun x -> x", "fun"},
		{"fst (1, 2)", "1"}, {"snd (1, 2)", "2"}, {"fst (snd (1, (2, 3)))", "2"},
		{"case nil of nil -> 1 | h :: t -> 2", "1"}, {"case 5 :: 6 :: nil of nil -> nil | h :: t -> t", "6 :: nil"}, {"case 5 :: 6 :: nil of nil -> 0 | h :: t -> h", "5"}, {"case 5 :: nil of nil -> (0, nil) | a :: b -> (a, b)", "(5, nil)"},
		{"case nil of nil -> 1 | h :: t -> 1 / 0", "1"}, {"case 1 :: nil of nil -> 1 / 0 | h :: t -> h", "1"}, {"let h = 9 in case nil of nil -> h | h :: t -> 1", "9"},
		{"rec l n = if n = 0 then nil else n :: l (n - 1) in l 4", "4 :: 3 :: 2 :: 1 :: nil"},
		{"1 + 2", "3"}, {"1 - 2", "-1"}, {"3 * 4", "12"}, {"7 / 2", "3"}, {"7 / (0 - 2)", "-3"}, {"(0 - 7) / 2", "-3"}, {"(0 - 7) / (0 - 2)", "3"}, {"0 / 5", "0"}, {"(0 - 1) / 2", "0"},
		{"1 < 2", "true"}, {"2 < 1", "false"}, {"1 < 1", "false"}, {"0 - 1 < 0", "true"}, {"1 = 1", "true"}, {"1 = 2", "false"},
		{"out 5", "0"}, {"out 5 + out 6", "0"}, {"(out 1, out 2)", "(0, 0)"}, {"let x = out 9 in 4", "4"}, {"(fun x -> out x) 3", "0"},
		{"fun x -> 1 / 0", "fun"}, {"fun x -> recv", "fun"}, {"let f = fun x -> spawn x in 1", "1"}, {"rec f x = send self x in (f, self)", "(fun, pid 0)"}, {"if true then 1 else recv", "1"},
	} {
		rows = append(rows, evalRow{p[0], p[1], impl.WantDone})
	}
	asksValues(t, rows)
}

// Numbers have 32 bits.
func TestEvalOfWraps(t *testing.T) {
	big := "let m = 32768 * 65535 + 32767 in let n = 0 - m - 1 in " // the greatest number, and the least
	for _, p := range [][2]string{
		{"m", "2147483647"}, {"n", "-2147483648"}, {"m + 1", "-2147483648"}, {"n - 1", "2147483647"}, {"0 - n", "-2147483648"}, {"n / (0 - 1)", "-2147483648"}, {"n * n", "0"}, {"m * m", "1"}, {"n / 2", "-1073741824"},
		{"m + m", "-2"}, {"m * 2", "-2"}, {"n * (0 - 1)", "-2147483648"}, {"n < m", "true"}, {"m + 1 < m", "true"}, {"m + 1 = n", "true"}, {"m - n", "-1"}, {"n + n", "0"}, {"m / n", "0"}, {"n / m", "-1"}, {"m / (0 - 1)", "-2147483647"},
	} {
		asksValues(t, []evalRow{{big + p[0], p[1], impl.WantDone}})
	}
	asksValues(t, []evalRow{{"65536 * 65536", "0", 101}, {"65536 * 32768", "-2147483648", 101}, {"999999 * 999999", "-729379967", 101}, {big + "n / 0", "", 102}})
}

// What ends a process that has no value yet, and that what stands ahead comes first.
func TestEvalOfWants(t *testing.T) {
	div, spawn, send, recv, link := impl.WantDiv, impl.ExprSpawn, impl.ExprSend, impl.ExprRecv, impl.ExprLink
	rows := []struct {
		text string
		want int
	}{
		{"1 / 0", div}, {"0 / 0", div}, {"1 / (1 - 1)", div}, {"(1 / 0, recv)", div}, {"(recv, 1 / 0)", recv}, {"recv", recv}, {"spawn (fun x -> x)", spawn}, {"spawn (fun x -> 1 / 0)", spawn}, {"send self 1", send}, {"link self", link},
		{"send self (1 / 0)", div}, {"send (spawn (fun x -> x)) (1 / 0)", spawn}, {"send recv (let z = 1 / 0 in self)", recv}, {"out (1 / 0)", div}, {"out recv", recv}, {"out (out 1) + recv", recv}, {"link (spawn (fun x -> x))", spawn},
		{"spawn (let y = 1 / 0 in fun x -> x)", div}, {"(let y = recv in fun x -> x) (1 / 0)", recv}, {"(fun x -> 1) (1 / 0)", div}, {"(fun x -> recv) 1", recv}, {"let x = recv in 1 / 0", recv}, {"let x = 1 / 0 in recv", div},
		{"if recv then 1 else 1 / 0", recv}, {"if 1 / 0 < 1 then recv else 2", div}, {"case recv of nil -> 1 / 0 | h :: t -> h", recv}, {"1 :: (1 / 0) :: recv", div}, {"recv :: (1 / 0) :: nil", recv}, {"(1 / 0) + recv", div}, {"recv + 1 / 0", recv},
		{"fst (1, 1 / 0)", div}, {"fst (1, link self)", link}, {"1 / 0 = send self 1", div}, {"send self 1 = 1 / 0", send}, {"(1 / 0) / recv", div}, {"(send self 1) / 0", send}, {"rec f x = f x in f (1 / 0)", div},
		{"let a = out 1 in let b = out 2 in spawn (fun x -> x)", spawn},
	}
	for _, row := range rows {
		asksValues(t, []evalRow{{row.text, "", row.want}})
	}
}

// CallMax calls, and one less, whatever stands behind them.
func TestEvalOfCalls(t *testing.T) {
	loop := func(stop string, n int) string {
		return "rec f n = if n < 1 then " + stop + " else f (n - 1) in f " + strconv.Itoa(n)
	}
	most := impl.CallMax - 2 // f is called of this, and of all below it, and of 0
	asksValues(t, []evalRow{
		{loop("7", most), "7", impl.WantDone}, {loop("7", most+1), "", impl.WantMore}, {loop("7", 999999), "", impl.WantMore}, {"rec f x = f x in f 0", "", impl.WantMore},
		{loop("1 / 0", most), "", impl.WantDiv}, {loop("1 / 0", most+1), "", impl.WantMore}, {loop("recv", most), "", impl.ExprRecv}, {loop("recv", most+1), "", impl.WantMore},
		{loop("(fun x -> x) 1", most), "", impl.WantMore}, {loop("(fun x -> x) 1", most-1), "1", impl.WantDone}, {loop("(fun x -> x) (1 / 0)", most), "", impl.WantDiv},
		{loop("spawn (fun x -> x)", most), "", impl.ExprSpawn}, {"(" + loop("7", most) + ", (fun x -> x) 1)", "", impl.WantMore}, {"(" + loop("7", most) + ", 1)", "(7, 1)", impl.WantDone},
		{"rec f n = if n < 1 then 0 else let o = out n in f (n - 1) in f " + strconv.Itoa(most), "0", impl.WantDone},
		{"rec f n = if n < 1 then 0 else let o = out n in f (n - 1) in f " + strconv.Itoa(most+1), "", impl.WantMore},
		{"rec f n = if n < 1 then 0 else 1 + f (n - 1) in f " + strconv.Itoa(most), strconv.Itoa(most), impl.WantDone},
		{"rec f n = if n < 1 then 0 else f (n - 1) + f (n - 1) in f 7", "0", impl.WantDone}, {"rec f n = if n < 1 then 0 else f (n - 1) + f (n - 1) in f 8", "", impl.WantMore},
	})
}

// What stands in DeepMax - 1 pairs and lists is told, and what stands in one more is not.
func TestEvalOfDeep(t *testing.T) {
	count := "rec l n = if n = 0 then nil else n :: l (n - 1) in l "
	lists := "rec l n = if n = 0 then nil else (n :: nil) :: l (n - 1) in l "
	nest := "let d = fun x -> (1, (2, (3, x))) in "
	cover := "let d = fun x -> ((x :: nil) :: nil) :: nil in "
	asksValues(t, []evalRow{
		{count + "12", "12 :: 11 :: 10 :: 9 :: 8 :: 7 :: 6 :: 5 :: 4 :: 3 :: 2 :: 1 :: nil", 101},
		{count + "13", "13 :: 12 :: 11 :: 10 :: 9 :: 8 :: 7 :: 6 :: 5 :: 4 :: 3 :: 2 :: 1 :: nil", 101},
		{count + "14", "14 :: 13 :: 12 :: 11 :: 10 :: 9 :: 8 :: 7 :: 6 :: 5 :: 4 :: 3 :: 2 :: ... :: ...", 101},
		{count + "15", "15 :: 14 :: 13 :: 12 :: 11 :: 10 :: 9 :: 8 :: 7 :: 6 :: 5 :: 4 :: 3 :: ... :: ...", 101},
		{count + "50", "50 :: 49 :: 48 :: 47 :: 46 :: 45 :: 44 :: 43 :: 42 :: 41 :: 40 :: 39 :: 38 :: ... :: ...", 101},
		{lists + "13", "(13 :: nil) :: (12 :: nil) :: (11 :: nil) :: (10 :: nil) :: (9 :: nil) :: (8 :: nil) :: (7 :: nil) :: (6 :: nil) :: (5 :: nil) :: (4 :: nil) :: (3 :: nil) :: (2 :: nil) :: (... :: ...) :: nil", 101},
		{lists + "14", "(14 :: nil) :: (13 :: nil) :: (12 :: nil) :: (11 :: nil) :: (10 :: nil) :: (9 :: nil) :: (8 :: nil) :: (7 :: nil) :: (6 :: nil) :: (5 :: nil) :: (4 :: nil) :: (3 :: nil) :: (... :: ...) :: (...) :: ...", 101},
		{nest + "d (d (d (d (4, 5))))", strings.Repeat("(1, (2, (3, ", 4) + "(4, 5)" + strings.Repeat(")", 12), 101},
		{nest + "d (d (d (d (4, (5, 6)))))", strings.Repeat("(1, (2, (3, ", 4) + "(4, (..., ...))" + strings.Repeat(")", 12), 101},
		{nest + "d (d (d (d (4, nil))))", strings.Repeat("(1, (2, (3, ", 4) + "(4, nil)" + strings.Repeat(")", 12), 101},
		{nest + "d (d (d (d (d d))))", strings.Repeat("(1, (2, (3, ", 4) + "(1, (..., ...))" + strings.Repeat(")", 12), 101},
		{cover + "d (d (d (d (1 :: nil))))", strings.Repeat("(", 12) + "1 :: nil" + strings.Repeat(") :: nil", 12), 101},
		{cover + "d (d (d (d ((1 :: nil) :: nil))))", strings.Repeat("(", 12) + "(... :: ...) :: nil" + strings.Repeat(") :: nil", 12), 101},
		{cover + "d (d (d (d (((1 :: nil) :: nil) :: nil))))", strings.Repeat("(", 12) + "((...) :: ...) :: nil" + strings.Repeat(") :: nil", 12), 101},
		{cover + "d (d (d (d ((nil :: nil) :: nil))))", strings.Repeat("(", 12) + "(... :: ...) :: nil" + strings.Repeat(") :: nil", 12), 101},
	})
}

// What has no type, or is not ok, is stuck.
func TestEvalOfWrong(t *testing.T) {
	for _, s := range []string{"x", "1 2", "1 + true", "fun x -> x x", "if 1 then 2 else 3", "let x = 1 in y", "fst 1", "true = true", "(1, x)", "if true then 1 else x", "case 1 of nil -> 1 | h :: t -> 2"} {
		asksValues(t, []evalRow{{s, "", impl.WantStuck}})
	}
	more, _ := sized(impl.TypeMax + 1)
	most, _ := sized(impl.TypeMax)
	asksValues(t, []evalRow{{doubled + more, "", impl.WantStuck}, {doubled + "fst (4, " + most + ")", "4", impl.WantDone}, {doubled + "let z = " + more + " in 4", "", impl.WantStuck}})
	for i, e := range wrongExprs() {
		if s, want := impl.EvalOf(e); s != "" || want != impl.WantStuck {
			t.Errorf("wrong expression %d: %q %d", i, s, want)
		}
	}
}

// P14: what has a type does not go wrong; its value is as the tests see it. P15, P51: names that are bound, and what gives back what it is given, do not matter.
func TestEvalOfPromise(t *testing.T) {
	same := function("x", variable("x"))
	codes := map[int]int{}
	for _, e := range withTypes(91, 4000) {
		s, want := impl.EvalOf(e)
		if text, code := evalThought(e); text != s || code != want {
			t.Fatalf("%s: %q %d, want %q %d", impl.ExprPut(e), s, want, text, code)
		}
		codes[want]++
		if want == impl.WantStuck || (s == "") == (want == impl.WantDone) {
			t.Fatalf("%s: %q %d", impl.ExprPut(e), s, want)
		}
		for _, other := range []impl.Expr{impl.NameTidy(e), letIn("x", e, variable("x"))} {
			if s2, want2 := impl.EvalOf(other); impl.ExprOk(other) && (s2 != s || want2 != want) {
				t.Fatalf("%s: %q %d, but %s: %q %d", impl.ExprPut(e), s, want, impl.ExprPut(other), s2, want2)
			}
		}
		given := apply(same, e)
		if s2, want2 := impl.EvalOf(given); impl.ExprOk(given) && (s2 != s || want2 != want) && (s2 != "" || want2 != impl.WantMore) {
			t.Fatalf("%s: %q %d, but given back %q %d", impl.ExprPut(e), s, want, s2, want2)
		}
	}
	for _, want := range []int{impl.WantMore, impl.WantDone, impl.WantDiv, impl.ExprSpawn, impl.ExprSend, impl.ExprRecv, impl.ExprLink} {
		if codes[want] < 5 {
			t.Errorf("%d came to %d", codes[want], want)
		}
	}
}

// P16: a value is of its type.
func TestEvalOfTypes(t *testing.T) {
	read := 0
	for _, e := range withTypes(92, 4000) {
		s, _ := impl.EvalOf(e)
		v, ok := impl.ExprGet(s)
		if !ok {
			continue
		}
		k, _, ok := impl.TypeOf(v)
		if !ok {
			continue
		}
		read++
		kind, _, _ := impl.TypeOf(e)
		again, want := impl.EvalOf(v)
		if !impl.TypeMore(k, kind) || again != s || want != impl.WantDone {
			t.Fatalf("%s: %q of type %q, not %q; again %q %d", impl.ExprPut(e), s, k, kind, again, want)
		}
	}
	if read < 1000 {
		t.Errorf("%d values were read", read)
	}
}
