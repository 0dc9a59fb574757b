package tests

import (
	"slices"
	"testing"

	"loop.example/ensemble/impl"
)

func TestReadmeExample(t *testing.T) {
	e, _ := impl.ExprGet("fun y -> x y")
	x, _ := impl.ExprGet("(y, 1)")
	out, ok := impl.NameInto(e, "x", x)
	if !ok || impl.ExprPut(out) != "fun v0 -> (y, 1) v0" || !sameNames(impl.NameFree(out), []string{"y"}) || impl.ExprPut(impl.NameTidy(out)) != "fun w0 -> (y, 1) w0" {
		t.Error(impl.ExprPut(out))
	}
	e, _ = impl.ExprGet("let i = fun x -> x in (i (7 / 2), i nil)")
	if kind, told, ok := impl.TypeOf(e); !ok || kind != "int * a list" || told != "b" {
		t.Error(kind, told, ok)
	}
	if value, want := impl.EvalOf(e); value != "(3, nil)" || want != impl.WantDone {
		t.Error(value, want)
	}
	if kind, ok := impl.TypeMeet("a -> b list", "int -> c"); !ok || kind != "int -> a list" || !impl.TypeMore("a -> b", kind) {
		t.Error(kind, ok)
	}
	readmeCode(t)
	readmeCells(t)
	readmeRuns(t)
	readmeSteps(t)
	readmeWays(t)
	readmeSession(t)
	readmeMods(t)
	readmeSlim(t)
	readmeSame(t)
	readmeFlat(t)
	readmeFind(t)
}

func readmeFlat(t *testing.T) {
	e := mustRead(t, "let a = 2 in rec f n = if n < 1 then a else f (n - 1) in f 3")
	funs := impl.FlatOf(e)
	if len(funs) != 2 || funs[1].Free != 1 || !slices.Contains(funs[1].Ops, impl.Op{Kind: impl.FlatSelf}) {
		t.Error(funs)
	}
	if value, want := impl.FlatRun(e); value != "2" || want != impl.WantDone {
		t.Error(value, want)
	}
	if sizes := impl.FlatSize(e); !slices.Equal(sizes, []int{2, 23, 1}) {
		t.Error(sizes)
	}
}

func readmeFind(t *testing.T) {
	e := mustRead(t, "let p = spawn (fun x -> out recv) in 7")
	events, ok := impl.FindDead(e, impl.WaysMax)
	if !ok || !slices.Equal(events, eventsOf("0 0 1")) || impl.FindIs(e, events[:2]) {
		t.Error(events, ok)
	}
	if events, ok := impl.FindTold(e, 7, impl.WaysMax); ok || len(events) > 0 {
		t.Error(events, ok)
	}
	if types := impl.FindTypes(e); !slices.Equal(types, []string{"int", "pid", "a -> int"}) {
		t.Error(types)
	}
}

func readmeSlim(t *testing.T) {
	ops, _ := impl.CodeGet("go 2\nnil\nnum 1\ngo 4\ngive\n")
	if live := impl.SlimLive(ops); !slices.Equal(live, []int{0, 2, 3, 4}) {
		t.Error(live)
	}
	if value, want, done := impl.SlimRun(ops, impl.SlimMax); value != "1" || want != impl.WantDone || done != 4 {
		t.Error(value, want, done)
	}
	ops = impl.SlimOf(ops)
	if value, want, done := impl.SlimRun(ops, 1); impl.CodePut(ops) != "num 1\ngive\n" || value != "" || want != impl.WantMore || done != 1 {
		t.Error(ops, value, want, done)
	}
}

func readmeSame(t *testing.T) {
	one, first := impl.Word{Tag: impl.WordInt, Num: 1}, impl.Word{Tag: impl.WordRef, Num: 1}
	cells := []impl.Cell{{Kind: impl.CellPair}, {Kind: impl.CellCons, A: one}}
	ring := []impl.Cell{{Kind: impl.CellCons, A: one, B: first}, {Kind: impl.CellCons, A: one, B: impl.Word{Tag: impl.WordRef}}}
	own := []impl.Cell{{Kind: impl.CellPair}, {Kind: impl.CellCons, A: one, B: first}}
	if !impl.SameHeap(ring, first, own, first) || impl.SameDeep(cells, first) != 1 || impl.SameDeep(ring, first) != impl.DeepMax {
		t.Error("cells do not say the same")
	}
	if rings := impl.SameRings(own); !slices.Equal(rings, []int{1}) {
		t.Error(rings)
	}
}

func readmeMods(t *testing.T) {
	e := mustRead(t, "out (1 + 2) :: nil")
	if out, ok := impl.PlainOf(e); !ok || impl.PlainIs(e) || impl.ExprPut(out) != "let t1 = let t0 = 1 + 2 in out t0 in t1 :: nil" {
		t.Error(impl.ExprPut(out), ok)
	}
	text := "id = fun x -> x\na = id 1\nid true\n"
	mod, ok := impl.ModGet(text)
	if !ok || len(mod.Defs) != 2 || impl.ModPut(mod) != text {
		t.Error(mod, ok)
	}
	if e, ok := impl.ModExpr(mod); !ok || impl.ExprPut(e) != "let id = fun x -> x in let a = id 1 in id true" {
		t.Error(impl.ExprPut(e), ok)
	}
	if types, needs := impl.ModTypes(mod), impl.ModNeeds(mod); !slices.Equal(types, []string{"a -> a", "int", "bool"}) || !slices.Equal(needs, []int{0}) {
		t.Error(types, needs)
	}
}

func readmeSession(t *testing.T) {
	text := impl.Session([]string{"type fun x -> x", "run out 5", "pick 0", "mean", "still"})
	if text != "a -> a\ntold b\nok\nok\nouts 0:5\nends 0\nleft 0\nno\n" {
		t.Error(text)
	}
}

func readmeWays(t *testing.T) {
	cells := []impl.Cell{{Kind: impl.CellPair}, {Kind: impl.CellCons, A: impl.Word{Tag: impl.WordInt, Num: 1}}}
	first := impl.Word{Tag: impl.WordRef, Num: 1}
	text := impl.WirePut(cells, first)
	if read, word, ok := impl.WireGet(text); text != "at0\ncons 1 nil\n" || !ok || word.Num != 0 || len(read) != 1 || read[0] != cells[1] {
		t.Error(text, read, word, ok)
	}
	e := mustRead(t, "let p = spawn (fun x -> out 5) in out 4")
	all := impl.WaysOf(e, impl.WaysMax)
	if len(all) != 2 || all[0] != "outs 0:4 1:5\nends 1 1\nleft 0 0\n" || all[1] != "outs 1:5 0:4\nends 1 1\nleft 0 0\n" {
		t.Error(all)
	}
	events := []impl.Event{{Kind: impl.EventRun}, {Kind: impl.EventRun, Proc: 1}, {Kind: impl.EventRun, Proc: 2}}
	if text := impl.AnswerPut(impl.RunMean(e, events)); text != "outs 1:5\nends 0 0\nleft 0 0\n" {
		t.Error(text)
	}
	if trace := impl.WaysTrace(e, events); !slices.Equal(trace, []int{impl.ExprSpawn, impl.ExprOut, -1}) || impl.WaysStill(e, events) {
		t.Error(trace)
	}
}

func readmeSteps(t *testing.T) {
	out := impl.FoldOf(mustRead(t, "fun y -> let x = y in if 1 < 2 then x + 2 * 3 else 0"))
	if impl.ExprPut(out) != "fun y -> y + 6" || impl.FoldSize(out) != 4 || !impl.FoldStill(out) {
		t.Error(impl.ExprPut(out))
	}
	e := mustRead(t, "(fun x -> x + x) (1 + 2)")
	if out, ok := impl.StepOf(e); !ok || impl.ExprPut(out) != "(fun x -> x + x) 3" {
		t.Error(impl.ExprPut(out), ok)
	}
	if out, steps := impl.StepsOf(e, impl.StepMax); impl.ExprPut(out) != "6" || steps != 3 || !impl.StepValue(out) {
		t.Error(impl.ExprPut(out), steps)
	}
}

func readmeCode(t *testing.T) {
	ops, ok := impl.CodeOf(mustRead(t, "let x = 1 in fun y -> x + y"))
	text := impl.CodePut(ops)
	if !ok || len(ops) != 9 || text != "num 1\nbind\nfun 5\ndrop 1\ngive\nvar 1\nvar 0\nop 1\ngive\n" {
		t.Error(text)
	}
	if again, ok := impl.CodeGet(text); !ok || !slices.Equal(again, ops) {
		t.Error(again)
	}
}

func readmeCells(t *testing.T) {
	one, first := impl.Word{Tag: impl.WordInt, Num: 1}, impl.Word{Tag: impl.WordRef, Num: 1}
	cells := []impl.Cell{{Kind: impl.CellPair}, {Kind: impl.CellCons, A: one}}
	if text := impl.HeapText(cells, first); text != "1 :: nil" {
		t.Error(text)
	}
	if places := impl.HeapReach(cells, []impl.Word{first}); !slices.Equal(places, []int{1}) {
		t.Error(places)
	}
	clean, words := impl.HeapClean(cells, []impl.Word{first})
	if len(clean) != 1 || clean[0] != cells[1] || words[0].Num != 0 {
		t.Error(clean, words)
	}
	if both, word, ok := impl.HeapInto(cells, first, clean); !ok || len(both) != 2 || word.Num != 1 {
		t.Error(both, word, ok)
	}
}

func readmeRuns(t *testing.T) {
	e := mustRead(t, "fst (1, 2) :: nil")
	if value, want, most := impl.MachOf(e, false); value != "1 :: nil" || want != impl.WantDone || most != 2 {
		t.Error(value, want, most)
	}
	if value, want, most := impl.MachOf(e, true); value != "1 :: nil" || want != impl.WantDone || most != 1 {
		t.Error(value, want, most)
	}
	e = mustRead(t, "let p = spawn (fun x -> out (recv + 1)) in send p 41")
	turns := impl.RunTurns(4)
	for _, a := range []impl.Answer{impl.RunMean(e, turns), impl.RunMach(e, turns, false)} {
		if told := answerTold(a); told != "1:42;1 1;0 0" {
			t.Error(told)
		}
	}
	events := []impl.Event{{Kind: impl.EventRun}, {Kind: impl.EventRun}, {Kind: impl.EventKill}}
	if told := answerTold(impl.RunMean(e, events)); told != ";6 0;0 1" {
		t.Error(told)
	}
}
