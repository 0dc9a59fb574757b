package tests

import (
	"math/rand"
	"testing"

	"loop.example/ensemble/impl"
)

// anyExpr is something of the type of expressions, seldom one that is ok.
func anyExpr(r *rand.Rand, deep int) impl.Expr {
	texts := []string{"", "x", "y", "fun", "abcde", "\\xff", "v0", "1", "(", "x y"}
	numbers := []int{0, 0, 1, 2, 6, 7, -1, 999999, 1000000, 1<<63 - 1, -1 << 63}
	e := impl.Expr{Kind: r.Intn(25) - 1, Num: numbers[r.Intn(len(numbers))]}
	if r.Intn(2) == 0 {
		e.Name = texts[r.Intn(len(texts))]
	}
	if r.Intn(3) == 0 {
		e.Tail = texts[r.Intn(len(texts))]
	}
	for i := r.Intn(4); i > 0 && deep > 0; i-- {
		e.Kids = append(e.Kids, anyExpr(r, deep-1))
	}
	return e
}

// anyText is some bytes, of which many stand in texts of expressions.
func anyText(r *rand.Rand) string {
	bytes := []byte("abxyfunletrecinif  ()()->::,+-*/<=|0123456789")
	var s []byte
	for i := r.Intn(30); i > 0; i-- {
		s = append(s, bytes[r.Intn(len(bytes))])
	}
	if r.Intn(4) == 0 {
		s = append(s, byte(r.Intn(256)))
	}
	return string(s)
}

// Every function of chapters 1 to 6, 8 to 11, 13, 15, 16, 19 and 20 that takes an expression or a text answers, whatever it is given, and at what is not ok with its fixed answer.
func TestAnswersAtAnything(t *testing.T) {
	r := rand.New(rand.NewSource(41))
	list := append(wrongExprs(), oneOfEach()...)
	for i := 0; i < 3000; i++ {
		list = append(list, anyExpr(r, r.Intn(4)))
	}
	for _, e := range list {
		x, name := list[r.Intn(len(list))], anyText(r)
		ok := impl.ExprOk(e)
		free, tidy := impl.NameFree(e), impl.NameTidy(e)
		into, put := impl.NameInto(e, "x", x)
		if !ok && (impl.ExprPut(e) != "" || len(free) > 0 || !isNothing(tidy) || put || impl.NameLike(e, e)) {
			t.Fatal("something is told of what is not ok")
		}
		if !put && !isNothing(into) {
			t.Fatal("something stands beside false")
		}
		if out, put := impl.NameInto(x, name, e); put && !impl.NameOk(name) || !put && !isNothing(out) {
			t.Fatal("something is put in for what is no name")
		}
		if got, ok := impl.ExprGet(name); !ok && !isNothing(got) {
			t.Fatal("something stands beside false")
		}
		if impl.NameLike(e, x) != impl.NameLike(x, e) {
			t.Fatal("to be alike is so the other way round")
		}
		kind, told, typed := impl.TypeOf(e)
		if !typed && kind+told != "" || typed && !ok {
			t.Fatal("a type of what has none")
		}
		if value, want := impl.EvalOf(e); (want == impl.WantStuck) == typed || value != "" && want != impl.WantDone {
			t.Fatal("a value of what has no type")
		}
		if ops, made := impl.CodeOf(e); made != typed || !made && len(ops) > 0 {
			t.Fatal("code of what has no type")
		}
		if ops, ok := impl.CodeGet(name); ok || len(ops) > 0 {
			t.Fatal("code of what is none")
		}
		runsAtAnything(t, r, e, typed)
		foldsAtAnything(t, r, e, ok, typed)
		waysAtAnything(t, r, e, typed)
		plainAtAnything(t, e, ok, typed)
		modsAtAnything(t, r, list)
		flatAtAnything(t, e, typed)
		findsAtAnything(t, r, e, typed)
	}
}

// flatAtAnything asks for flat functions of an expression.
func flatAtAnything(t *testing.T, e impl.Expr, typed bool) {
	if s, want := impl.FlatRun(e); (want == impl.WantStuck) == typed || s != "" && want != impl.WantDone {
		t.Fatal("flat functions of what has no type run")
	}
	if (len(impl.FlatOf(e)) > 0) != typed || (len(impl.FlatSize(e)) == 3) != typed {
		t.Fatal("flat functions of what has no type")
	}
}

// findsAtAnything looks for ways of an expression, with picks, numbers and events that are numbers of all sizes.
func findsAtAnything(t *testing.T, r *rand.Rand, e impl.Expr, typed bool) {
	numbers := []int{0, 1, 4, impl.WaysMax, impl.WaysMax + 1, -1, 1 << 40, 1<<63 - 1, -1 << 63}
	picks := numbers[r.Intn(len(numbers))]
	may := typed && picks >= 0 && picks <= impl.WaysMax
	dead, isDead := impl.FindDead(e, picks)
	told, isTold := impl.FindTold(e, numbers[r.Intn(len(numbers))], picks)
	if (isDead || isTold) && !may || (len(dead) > 0) != isDead || (len(told) > 0) != isTold {
		t.Fatal("ways of what has no type, or too many picks")
	}
	var events []impl.Event
	for range r.Intn(20) {
		events = append(events, impl.Event{Kind: numbers[r.Intn(len(numbers))], Proc: numbers[r.Intn(len(numbers))]})
	}
	if (len(impl.FindTypes(e)) > 0) != typed || impl.FindIs(e, events) && !typed {
		t.Fatal("types of what has none")
	}
}

// plainAtAnything asks whether an expression is plain, and makes it so.
func plainAtAnything(t *testing.T, e impl.Expr, ok bool, typed bool) {
	if impl.PlainIs(e) && !ok {
		t.Fatal("what is not ok is plain")
	}
	if out, made := impl.PlainOf(e); made && !typed || made == isNothing(out) {
		t.Fatal("what has no type is made plain")
	}
}

// modsAtAnything asks for definitions of some of these expressions, under names that are seldom some, and reads texts that are seldom some.
func modsAtAnything(t *testing.T, r *rand.Rand, list []impl.Expr) {
	m := impl.Mod{Main: list[r.Intn(len(list))]}
	for range r.Intn(9) {
		m.Defs = append(m.Defs, impl.Def{Name: anyText(r), Expr: list[r.Intn(len(list))]})
		if r.Intn(4) > 0 {
			m.Defs[len(m.Defs)-1].Name = "x"
		}
	}
	ok := isModSeen(m)
	e, made := impl.ModExpr(m)
	if (impl.ModPut(m) != "") != ok || made && !ok || made == isNothing(e) || !ok && len(impl.ModNeeds(m)) > 0 || !made && len(impl.ModTypes(m)) > 0 {
		t.Fatal("something is told of definitions that are not ok")
	}
	if got, read := impl.ModGet(anyText(r) + "\n" + anyText(r) + "\n"); !read && !isEmptyMod(got) {
		t.Fatal("something stands beside false")
	}
}

// waysAtAnything asks for all ways of an expression, with picks and events that are numbers of all sizes.
func waysAtAnything(t *testing.T, r *rand.Rand, e impl.Expr, typed bool) {
	numbers := []int{0, 1, 4, impl.WaysMax, impl.WaysMax + 1, -1, 1 << 40, 1<<63 - 1, -1 << 63}
	picks := numbers[r.Intn(len(numbers))]
	if all := impl.WaysOf(e, picks); (len(all) > 0) != (typed && picks >= 0 && picks <= impl.WaysMax) {
		t.Fatal("ways of what has no type, or too many picks")
	}
	var events []impl.Event
	for range r.Intn(20) {
		events = append(events, impl.Event{Kind: numbers[r.Intn(len(numbers))], Proc: numbers[r.Intn(len(numbers))]})
	}
	trace := impl.WaysTrace(e, events)
	if typed && len(trace) != len(events) || !typed && (len(trace) > 0 || impl.WaysStill(e, events)) {
		t.Fatal("a trace of what has no type")
	}
}

// foldsAtAnything asks what comes of an expression, with numbers of steps of all sizes.
func foldsAtAnything(t *testing.T, r *rand.Rand, e impl.Expr, ok bool, typed bool) {
	numbers := []int{0, 1, 7, impl.StepMax, impl.StepMax + 1, -1, 1 << 40, 1<<63 - 1, -1 << 63}
	if isNothing(impl.FoldOf(e)) == typed {
		t.Fatal("what has no type is folded")
	}
	if !ok && (impl.FoldStill(e) || impl.StepValue(e)) || (impl.FoldSize(e) > 0) != ok {
		t.Fatal("something is told of what is not ok")
	}
	if out, stepped := impl.StepOf(e); isNothing(out) == typed || stepped && !typed {
		t.Fatal("a step of what has no type")
	}
	most := numbers[r.Intn(len(numbers))]
	may := typed && most >= 0 && most <= impl.StepMax
	if out, n := impl.StepsOf(e, most); isNothing(out) == may || n < 0 || n > 0 && (!may || n > most) {
		t.Fatal("steps of what has no type, or too many")
	}
}

// runsAtAnything asks for machines and processes of an expression, with events that are numbers of all sizes.
func runsAtAnything(t *testing.T, r *rand.Rand, e impl.Expr, typed bool) {
	numbers := []int{0, 1, 1, 2, 2, 3, 5, 6, -1, 1 << 40, 1<<63 - 1, -1 << 63}
	var events []impl.Event
	for range r.Intn(20) {
		events = append(events, impl.Event{Kind: numbers[r.Intn(len(numbers))], Proc: numbers[r.Intn(len(numbers))]})
	}
	for _, always := range []bool{false, true} {
		if s, want, most := impl.MachOf(e, always); (want == impl.WantStuck) == typed || s != "" && want != impl.WantDone || !typed && most != 0 {
			t.Fatal("a machine of what has no type")
		}
		if a := impl.RunMach(e, events, always); (len(a.Ends) > 0) != typed || len(a.Ends) != len(a.Boxes) || !typed && len(a.Outs) > 0 {
			t.Fatal("processes of what has no type")
		}
	}
	if a := impl.RunMean(e, events); (len(a.Ends) > 0) != typed || len(a.Ends) != len(a.Boxes) || !typed && len(a.Outs) > 0 {
		t.Fatal("processes of what has no type")
	}
}

// No function keeps anything: asked again, behind others, it answers the same.
func TestAnswersAgain(t *testing.T) {
	list := okExprs(42, 300)
	var texts []string
	var tidy []impl.Expr
	for _, e := range list {
		texts = append(texts, impl.ExprPut(e))
		tidy = append(tidy, impl.NameTidy(e))
	}
	for i := len(list) - 1; i >= 0; i-- {
		if impl.ExprPut(list[i]) != texts[i] || !sameExpr(impl.NameTidy(list[i]), tidy[i]) {
			t.Fatalf("%s: another answer", texts[i])
		}
	}
}

// Who asks for a type or a value writes nothing into an expression, nor behind its lists.
func TestTypesAndValuesWriteNothing(t *testing.T) {
	list := append(typedExprs(43, 300, true), okExprs(44, 300)...)
	for _, e := range list {
		spare := withSpare(e)
		kind, told, _ := impl.TypeOf(spare)
		value, want := impl.EvalOf(spare)
		if !sameExpr(spare, e) || !spareKept(spare) {
			t.Fatalf("%s was written into", impl.ExprPut(e))
		}
		k, m, _ := impl.TypeOf(e)
		if v, w := impl.EvalOf(e); k != kind || m != told || v != value || w != want {
			t.Fatalf("%s: another answer", impl.ExprPut(e))
		}
	}
}

// Bounds are those of the document's table, and codes are the numbers that chapters 5, 8, 9 and 19 name.
func TestBounds(t *testing.T) {
	bounds := map[string][2]int{
		"NameMax": {impl.NameMax, 4}, "NodeMax": {impl.NodeMax, 60}, "DeepMax": {impl.DeepMax, 14}, "TextMax": {impl.TextMax, 400}, "TypeMax": {impl.TypeMax, 64},
		"CallMax": {impl.CallMax, 300}, "CodeMax": {impl.CodeMax, 200}, "HeapMax": {impl.HeapMax, 120}, "ProcMax": {impl.ProcMax, 6},
		"FrameMax": {impl.FrameMax, 60}, "BoxMax": {impl.BoxMax, 6}, "RunMax": {impl.RunMax, 40}, "EventMax": {impl.EventMax, 120}, "StepMax": {impl.StepMax, 100},
		"WireMax": {impl.WireMax, 4000}, "WaysMax": {impl.WaysMax, 6}, "SessionMax": {impl.SessionMax, 40}, "DefMax": {impl.DefMax, 6}, "SlimMax": {impl.SlimMax, 2000},
		"WantMore": {impl.WantMore, 0}, "WantDone": {impl.WantDone, 101}, "WantDiv": {impl.WantDiv, 102}, "WantStuck": {impl.WantStuck, 103}, "WantFull": {impl.WantFull, 104}, "EventRun": {impl.EventRun, 1}, "EventKill": {impl.EventKill, 2}, "EndNot": {impl.EndNot, 0}, "EndDone": {impl.EndDone, 1},
		"EndDiv": {impl.EndDiv, 2}, "EndStuck": {impl.EndStuck, 3}, "EndFull": {impl.EndFull, 4}, "EndLink": {impl.EndLink, 5}, "EndKill": {impl.EndKill, 6},
		"FlatLoc": {impl.FlatLoc, 25}, "FlatFree": {impl.FlatFree, 26}, "FlatSelf": {impl.FlatSelf, 27}, "FlatMake": {impl.FlatMake, 28},
	}
	for name, pair := range bounds {
		if pair[0] != pair[1] {
			t.Errorf("%s is %d, not %d", name, pair[0], pair[1])
		}
	}
}
