package tests

import (
	"math/rand"
	"slices"
	"strconv"
	"strings"
	"testing"

	"loop.example/ensemble/impl"
)

// asksSteps asks StepOf of texts; where nothing is said there is no step.
func asksSteps(t *testing.T, rows [][2]string) {
	t.Helper()
	for _, row := range rows {
		e := mustType(t, row[0])
		want := row[1]
		if want == "" {
			want = row[0]
		}
		out, ok := impl.StepOf(e)
		if s := impl.ExprPut(out); s != want || ok != (row[1] != "") {
			t.Errorf("%s: %q %v, want %q", row[0], s, ok, row[1])
		}
	}
}

// asksAll asks StepOf of a text, and then of what comes of it, until there is no step any more.
func asksAll(t *testing.T, texts ...string) {
	t.Helper()
	for i := range texts[1:] {
		asksSteps(t, [][2]string{{texts[i], texts[i+1]}})
	}
	last := texts[len(texts)-1]
	asksSteps(t, [][2]string{{last, ""}})
	for most := range texts {
		if out, n := impl.StepsOf(mustRead(t, texts[0]), most); n != most || impl.ExprPut(out) != texts[most] {
			t.Errorf("%s, %d steps: %s, %d", texts[0], most, impl.ExprPut(out), n)
		}
	}
	if out, n := impl.StepsOf(mustRead(t, texts[0]), len(texts)); n != len(texts)-1 || impl.ExprPut(out) != last {
		t.Errorf("%s, all steps: %s, %d", texts[0], impl.ExprPut(out), n)
	}
}

// Values have no step, and what wants something of others has none.
func TestStepOfNone(t *testing.T) {
	var rows [][2]string
	for _, s := range []string{
		"1", "true", "nil", "fun x -> x", "fun x -> 1 + 1", "(1, nil)", "1 :: nil", "(fun x -> 1 + 1, true :: nil)", "(fun x -> x) :: nil", "((1, 2), (3, 4))",
		"self", "recv", "out 1", "spawn (fun x -> x)", "send self 1", "link self", "self :: nil", "(1, self)", "send self (1, 2)", "out recv",
		"1 - 2", "999999 + 1", "500000 * 2", "65536 * 32768", "1 / 0", "0 / 0",
		// a part that is no value, and has no step, ahead of others that have one
		"(self, 1 + 1)", "(recv, 1 + 1)", "recv + (1 + 1)", "1 - 2 + (1 + 1)", "1 / 0 :: 1 + 1 :: nil", "recv (1 + 1)", "(fun x -> 1 + 1) recv", "(fun x -> 1 + 1) self", "send self (1 + 1)", "send recv (if true then self else self)",
		"if recv then 1 + 1 else 2", "case recv of nil -> 1 + 1 | h :: t -> 2", "let x = out 1 in 1 + 1", "let x = self in 1 + 1", "let x = recv in 1 + 1", "let x = 1 / 0 in 5", "fst (1, self)", "snd (recv, 1)", "fst recv", "if 1 / 0 < 1 then 1 + 1 else 2", "case self :: nil of nil -> 1 | h :: t -> 2",
		"((1, self), 1 + 1)", "(1 :: recv, 1 + 1)", "let x = (1, out 2) in 1 + 1", "(let x = recv in fun y -> y) (1 + 1)", "out (1 + recv)", "let x = link self in x", "spawn (fun x -> 1 + 1)",
	} {
		rows = append(rows, [2]string{s, ""})
	}
	asksSteps(t, rows)
}

// Of each kind the parts that must be values come first, from the left, and no others.
func TestStepOfParts(t *testing.T) {
	asksAll(t, "(if true then fun x -> x + x else fun x -> 1) (1 + 1)", "(fun x -> x + x) (1 + 1)", "(fun x -> x + x) 2", "2 + 2", "4")
	asksAll(t, "let x = 1 + 1 in x + (1 + 2)", "let x = 2 in x + (1 + 2)", "2 + (1 + 2)", "2 + 3", "5")
	asksAll(t, "if 1 < 2 then 1 + 1 else 2 + 2", "if true then 1 + 1 else 2 + 2", "1 + 1", "2")
	asksAll(t, "if 2 < 1 then 1 + 1 else 2 + 2", "if false then 1 + 1 else 2 + 2", "2 + 2", "4")
	asksAll(t, "(1 + 1, 2 + 2)", "(2, 2 + 2)", "(2, 4)")
	asksAll(t, "1 + 1 :: 2 + 2 :: nil", "2 :: 2 + 2 :: nil", "2 :: 4 :: nil")
	asksAll(t, "fst (1 + 1, 2 + 2)", "fst (2, 2 + 2)", "fst (2, 4)", "2")
	asksAll(t, "snd (1 + 1, 2 + 2)", "snd (2, 2 + 2)", "snd (2, 4)", "4")
	asksAll(t, "fst (fst ((1, 2), 3))", "fst (1, 2)", "1")
	asksAll(t, "case 1 + 1 :: nil of nil -> 2 + 2 | h :: t -> h + (3 + 3)", "case 2 :: nil of nil -> 2 + 2 | h :: t -> h + (3 + 3)", "2 + (3 + 3)", "2 + 6", "8")
	asksAll(t, "case fst (nil, 1) of nil -> 2 + 2 | h :: t -> h", "case nil of nil -> 2 + 2 | h :: t -> h", "2 + 2", "4")
	asksAll(t, "(1 + 1) * (2 + 2)", "2 * (2 + 2)", "2 * 4", "8")
	asksAll(t, "1 + 1 < 2 + 2", "2 < 2 + 2", "2 < 4", "true")
	asksAll(t, "spawn (if true then fun x -> x else fun x -> 1)", "spawn (fun x -> x)")
	asksAll(t, "send (if true then self else self) (1 + 1)", "send self (1 + 1)")
	asksAll(t, "link (if true then self else self)", "link self")
	asksAll(t, "out (1 + 1)", "out 2")
	asksAll(t, "1 + 1 :: recv", "2 :: recv")
	asksAll(t, "1 + 1 + recv", "2 + recv")
	asksAll(t, "rec f x = 1 + 1 in f", "fun x -> 1 + 1")
	asksAll(t, "(let x = 1 in (x, 1 + 1), 2 + 2)", "((1, 1 + 1), 2 + 2)", "((1, 2), 2 + 2)", "((1, 2), 4)")
}

func TestStepOfOps(t *testing.T) {
	asksSteps(t, [][2]string{
		{"1 + 2", "3"}, {"999998 + 1", "999999"}, {"2 - 2", "0"}, {"3 * 4", "12"}, {"65536 * 65536", "0"}, {"7 / 2", "3"}, {"1 < 2", "true"}, {"2 < 1", "false"}, {"1 = 1", "true"}, {"1 = 2", "false"}, {"999999 = 999999", "true"},
	})
}

// A function that names itself is, where it names itself, all that it came of.
func TestStepOfRec(t *testing.T) {
	asksSteps(t, [][2]string{
		{"rec f x = f x in f", "fun x -> (rec f x = f x in f) x"}, {"rec f x = f x in 1 + 1", "1 + 1"}, {"rec f x = x in 1 + 1", "1 + 1"}, {"rec f x = f (1 + 1) in f (2 + 3)", "(fun x -> (rec f x = f (1 + 1) in f) (1 + 1)) (2 + 3)"},
		{"rec f x = x in (f, f)", "(fun x -> x, fun x -> x)"}, {"rec f x = f x in fun f -> f", "fun f -> f"}, {"rec f x = (fun f -> f) x in f", "fun x -> (fun f -> f) x"},
		{"rec f x = let f = f in f x in f", "fun x -> let v0 = rec f x = let f = f in f x in f in v0 x"}, {"rec f x = let v0 = f in v0 x in f", "fun x -> let v0 = rec f x = let v0 = f in v0 x in f in v0 x"},
		{"rec f x = rec g y = f y in g x in f", "fun x -> rec g y = (rec f x = rec g y = f y in g x in f) y in g x"}, {"rec f x = rec f y = f y in f x in f", "fun x -> rec f y = f y in f x"},
		{"rec f x = case nil of nil -> f x | f :: x -> x in f", "fun x -> case nil of nil -> (rec f x = case nil of nil -> f x | f :: x -> x in f) x | v0 :: x -> x"},
	})
	loop := "if n = 0 then 9 else f (n - 1)"
	again := "(rec f n = " + loop + " in f)"
	body := "if % = 0 then 9 else " + again + " (% - 1)"
	f := "(fun n -> " + strings.ReplaceAll(body, "%", "n") + ")"
	at := func(n string) string { return strings.ReplaceAll(body, "%", n) }
	asksAll(t, "rec f n = "+loop+" in f 1", f+" 1", at("1"), "if false then 9 else "+again+" (1 - 1)", again+" (1 - 1)", f+" (1 - 1)", f+" 0", at("0"), "if true then 9 else "+again+" (0 - 1)", "9")
}

// What is put in is put into what is free alone; where it is hidden, or would be, names step aside.
func TestStepOfNames(t *testing.T) {
	asksSteps(t, [][2]string{
		{"(fun x -> fun x -> x) 1", "fun x -> x"}, {"(fun x -> let x = x + 1 in x) 1", "let v0 = 1 + 1 in v0"}, {"let x = 1 in rec x y = x y in x", "rec x y = x y in x"}, {"let x = 1 in let y = x in let x = y in x + y", "let y = 1 in let x = y in x + y"},
		{"(fun x -> fun y -> x) (fun y -> y)", "fun y -> fun y -> y"}, {"let f = fun x -> x in (f 1, f true)", "((fun x -> x) 1, (fun x -> x) true)"},
		{"case 1 :: 2 :: nil of nil -> (0, nil) | h :: t -> (h + h, 3 :: t)", "(1 + 1, 3 :: 2 :: nil)"}, {"case 1 :: nil of nil -> nil | h :: t -> t", "nil"}, {"case 1 :: nil of nil -> 0 | h :: t -> let h = h in h", "let v0 = 1 in v0"},
		{"case (fun t -> t) :: nil of nil -> nil | h :: t -> h :: t", "(fun t -> t) :: nil"}, {"case 1 :: 2 :: nil of nil -> 0 | h :: t -> 5", "5"},
		{"case 1 :: 2 :: nil of nil -> 0 | h :: t -> let h = h in case t of nil -> h | t :: h -> t", "let v0 = 1 in case 2 :: nil of nil -> v0 | v2 :: v1 -> v2"},
	})
}

// tree is a value of just so many parts, as shallow as can be.
func tree(parts int) string {
	if parts%2 == 0 {
		return "(fun z -> " + tree(parts-1) + ")"
	}
	if parts == 1 {
		return "1"
	}
	left := (parts - 1) / 2
	if left%2 == 0 {
		left--
	}
	return "(" + tree(left) + ", " + tree(parts-1-left) + ")"
}

// nest is a value in which the innermost part stands in so many others.
func nest(others int) string {
	return strings.Repeat("(1, ", others) + "2" + strings.Repeat(")", others)
}

// A step that would give an expression that is not ok is none: too many parts, too deep, or too deep where it stands.
func TestStepOfTooGreat(t *testing.T) {
	ok := []string{
		"let x = " + tree(29) + " in fun z -> (x, x)", "(fun x -> fun z -> (x, x)) " + tree(29), "let x = " + nest(12) + " in (x, 1)", "(let x = " + nest(11) + " in (x, 1), 2)",
		"case " + tree(28) + " :: nil of nil -> nil | h :: t -> h :: h :: t", "(let x = " + tree(27) + " in (x, x), (1, 2))", "rec f x = fst (" + tree(23) + ", f x) in 1 + 1",
	}
	not := []string{
		"let x = " + tree(29) + " in (x, (x, 1))", "let x = " + tree(30) + " in (x, x)", "(fun x -> (x, (x, 1))) " + tree(29), "let x = " + nest(12) + " in ((x, 1), 1)", "(fun x -> ((x, 1), 1)) " + nest(12), "(let x = " + nest(11) + " in ((x, 1), 1), 2)",
		"(let x = " + tree(27) + " in (x, x), (1, (2, 3)))", "case " + tree(29) + " :: nil of nil -> nil | h :: t -> h :: h :: t", "rec f x = fst (" + tree(25) + ", f x) in f 1",
		"rec f x = fst (" + tree(25) + ", f x) in 1 + 1", // NameInto makes no function of what is not ok
	}
	for i, s := range append(slices.Clone(ok), not...) {
		e := mustType(t, s)
		out, stepped := impl.StepOf(e)
		if stepped != (i < len(ok)) || stepped == sameExpr(out, e) {
			t.Errorf("%s: %v, %s", s, stepped, impl.ExprPut(out))
		}
		if steps, n := impl.StepsOf(e, impl.StepMax); !stepped && (n != 0 || !sameExpr(steps, e)) {
			t.Errorf("%s: %d steps, %s", s, n, impl.ExprPut(steps))
		}
	}
}

// 0 steps, StepMax, and one more or less; fewer than there are, and more.
func TestStepsOfBounds(t *testing.T) {
	endless := mustType(t, "rec f x = f x in f 0")
	three := mustType(t, "(1 + 1) * (2 + 2)")
	rows := []struct {
		e    impl.Expr
		most int
		text string
		n    int
	}{
		{endless, 0, "rec f x = f x in f 0", 0}, {endless, 1, "(fun x -> (rec f x = f x in f) x) 0", 1}, {endless, 2, "(rec f x = f x in f) 0", 2}, {endless, impl.StepMax - 1, "(fun x -> (rec f x = f x in f) x) 0", impl.StepMax - 1},
		{endless, impl.StepMax, "(rec f x = f x in f) 0", impl.StepMax}, {endless, impl.StepMax + 1, "", 0}, {endless, -1, "", 0}, {endless, 1 << 40, "", 0}, {endless, -1 << 63, "", 0},
		{three, 0, "(1 + 1) * (2 + 2)", 0}, {three, 1, "2 * (2 + 2)", 1}, {three, 2, "2 * 4", 2}, {three, 3, "8", 3}, {three, 4, "8", 3}, {three, impl.StepMax, "8", 3}, {three, impl.StepMax + 1, "", 0}, {three, -1, "", 0},
		{number(1), 0, "1", 0}, {number(1), impl.StepMax, "1", 0}, {number(1), impl.StepMax + 1, "", 0}, {expr(impl.ExprSelf), 5, "self", 0}, {mustType(t, "(1 + 1, recv + (2 + 2))"), 9, "(2, recv + (2 + 2))", 1},
	}
	for _, row := range rows {
		out, n := impl.StepsOf(row.e, row.most)
		if s := impl.ExprPut(out); s != row.text || n != row.n || row.text == "" && !isNothing(out) {
			t.Errorf("%s, %d steps: %q, %d", impl.ExprPut(row.e), row.most, s, n)
		}
	}
}

// A type is asked for of the first expression alone: steps go on, even if chapter 4's bounds let what comes of one have no type.
func TestStepsOfNoTypeBehind(t *testing.T) {
	e := broadOf(t, "1 + 1")
	first := expr(impl.ExprPair, e.Kids[0].Kids[1], operation(impl.OpAdd, number(1), number(1)))
	if _, _, ok := impl.TypeOf(first); ok {
		t.Fatal("there is a type")
	}
	if out, ok := impl.StepOf(e); !ok || !sameExpr(out, first) {
		t.Error(impl.ExprPut(out), ok)
	}
	if out, ok := impl.StepOf(first); ok || !isNothing(out) {
		t.Error(impl.ExprPut(out), ok)
	}
	if out, n := impl.StepsOf(e, impl.StepMax); n != 2 || !sameExpr(out, expr(impl.ExprPair, first.Kids[0], number(2))) {
		t.Error(impl.ExprPut(out), n)
	}
}

// StepValue of each kind, and of pairs and lists with a part that is none.
func TestStepValueTable(t *testing.T) {
	values := []string{"1", "0", "true", "false", "fun x -> x", "fun x -> 1 + 1", "fun x -> y", "nil", "(1, 2)", "1 :: nil", "(1, (true, fun x -> x)) :: nil", "1 :: 2", "(nil, nil :: nil)", "((1, 2), (3, 4))"}
	not := []string{
		"x", "self", "recv", "x y", "let x = 1 in 2", "rec f x = x in f", "if true then 1 else 2", "fst (1, 2)", "snd (1, 2)", "case nil of nil -> 1 | h :: t -> h", "1 + 2", "spawn (fun x -> x)", "send self 1", "out 1", "link self",
		"(self, 1)", "(1, self)", "x :: nil", "1 :: x", "(1 + 1, 2)", "(2, 1 + 1)", "1 :: 2 :: recv", "((1, 2), (3, self))", "((1, x), 2)", "(fst (1, 2), 3)",
	}
	for want, texts := range map[bool][]string{true: values, false: not} {
		for _, s := range texts {
			if impl.StepValue(mustRead(t, s)) != want {
				t.Errorf("%s: not %v", s, want)
			}
		}
	}
	for i, e := range oneOfEach() {
		if impl.StepValue(e) != isEnd(e) {
			t.Errorf("%s: not %v", textsOfEach()[i], isEnd(e))
		}
	}
}

// What is not ok, has free names or has no type has no steps, and what comes of it is nothing; StepValue asks for no type.
func TestStepWrong(t *testing.T) {
	list := append(wrongExprs(), expr(impl.ExprPair, number(1), number(-1)), expr(impl.ExprCons, number(1000000), expr(impl.ExprNil)), function("x", number(-1)))
	wrong := len(list)
	for _, s := range withoutType() {
		list = append(list, mustRead(t, s))
	}
	for i, e := range list {
		if impl.StepValue(e) != (i >= wrong && isEnd(e)) {
			t.Errorf("wrong expression %d: %v", i, impl.StepValue(e))
		}
		if out, ok := impl.StepOf(e); ok || !isNothing(out) {
			t.Errorf("wrong expression %d: a step to %s", i, impl.ExprPut(out))
		}
		for _, most := range []int{0, 1, impl.StepMax, impl.StepMax + 1, -1} {
			if out, n := impl.StepsOf(e, most); n != 0 || !isNothing(out) {
				t.Errorf("wrong expression %d: %d steps to %s", i, n, impl.ExprPut(out))
			}
		}
	}
}

// P37: a step changes neither the type nor the value; it is the one that the tests see. P38: a value has none.
func TestStepOfPromise(t *testing.T) {
	did, noType, values := map[string]int{}, 0, 0
	for _, e := range append(withTypes(701, 3000), plots(702, 500)...) {
		for range 12 {
			want, what := stepSeen(e)
			out, ok := impl.StepOf(e)
			did[what]++
			if ok != (what != "" && what != "great") || !impl.NameLike(out, want) || !ok && !sameExpr(out, e) {
				t.Fatalf("%s: %s %v, want %s by %q", impl.ExprPut(e), impl.ExprPut(out), ok, impl.ExprPut(want), what)
			}
			if impl.StepValue(e) {
				values++
				if _, done := impl.EvalOf(e); ok || done != impl.WantDone || !impl.FoldStill(e) {
					t.Fatalf("%s is a value: %v %d", impl.ExprPut(e), ok, done)
				}
			}
			if !ok {
				break
			}
			if !stepKeeps(t, e, out) {
				noType++
				break
			}
			e = out
		}
	}
	for _, what := range []string{"", "great", "call", "let", "rec", "if", "fst", "snd", "nil", "cons", "op"} {
		if did[what] < 50 {
			t.Errorf("%q was done %d times", what, did[what])
		}
	}
	if noType > 0 || values < 500 {
		t.Errorf("%d have no type behind a step, %d are values", noType, values)
	}
}

// stepKeeps asks that what comes of steps has a type, value and no free names as the expression; false, if chapter 4's bounds let it have no type.
func stepKeeps(t *testing.T, e impl.Expr, out impl.Expr) bool {
	t.Helper()
	if len(impl.NameFree(out)) > 0 {
		t.Fatalf("%s: %s has free names", impl.ExprPut(e), impl.ExprPut(out))
	}
	kind, _, _ := impl.TypeOf(e)
	less, _, ok := impl.TypeOf(out)
	if !ok {
		return false
	}
	if !impl.TypeMore(less, kind) {
		t.Fatalf("%s: %q, then %s: %q", impl.ExprPut(e), kind, impl.ExprPut(out), less)
	}
	s, want := impl.EvalOf(e)
	if s2, want2 := impl.EvalOf(out); want == impl.WantDone && (s2 != s || want2 != want) {
		t.Fatalf("%s: %q %d, then %s: %q %d", impl.ExprPut(e), s, want, impl.ExprPut(out), s2, want2)
	}
	return true
}

// P39: steps are one behind the other. P40: however many there are, there is a type.
func TestStepsOfPromise(t *testing.T) {
	r := rand.New(rand.NewSource(703))
	most, ends := 0, 0
	list := append(withTypes(704, 1200), plots(705, 400)...)
	for n := range 60 {
		for _, s := range []string{"rec f x = f (x + 1) in f %", "rec f n = if n < 1 then (n, nil) else f (n - 1) in f %", "rec f n = n :: f (n + 1) in f %", "rec f n = if n < 1 then 0 else n + f (n - 1) in f %"} {
			list = append(list, mustType(t, strings.ReplaceAll(s, "%", strconv.Itoa(n))))
		}
	}
	for _, e := range list {
		all := []int{0, 1, 2, 3, 5, 9, 20, impl.StepMax}[r.Intn(8)]
		some := r.Intn(all + 1)
		out, n := impl.StepsOf(e, all)
		middle, first := impl.StepsOf(e, some)
		rest, then := impl.StepsOf(middle, all-some)
		if !sameExpr(rest, out) || first+then != n || first > some || n > all || first < some && then > 0 {
			t.Fatalf("%s: %d and %d steps to %s, but %d to %s", impl.ExprPut(e), first, then, impl.ExprPut(rest), n, impl.ExprPut(out))
		}
		one, ok := e, true
		for range n {
			if one, ok = impl.StepOf(one); !ok {
				t.Fatalf("%s: fewer than %d steps", impl.ExprPut(e), n)
			}
		}
		if _, ok := impl.StepOf(out); !sameExpr(one, out) || n < all && ok {
			t.Fatalf("%s: %d of %d steps to %s", impl.ExprPut(e), n, all, impl.ExprPut(out))
		}
		if !stepKeeps(t, e, out) {
			t.Fatalf("%s: %s has no type", impl.ExprPut(e), impl.ExprPut(out))
		}
		if n == impl.StepMax {
			most++
		}
		if n < all {
			ends++
		}
	}
	if most < 5 || ends < 500 {
		t.Errorf("%d came to StepMax, %d to an end", most, ends)
	}
}

// P16 and P37 together: where steps come to a value, it is the value.
func TestStepsOfValues(t *testing.T) {
	values := 0
	for _, e := range withTypes(706, 2500) {
		out, _ := impl.StepsOf(e, impl.StepMax)
		if !impl.StepValue(out) {
			continue
		}
		values++
		s, want := impl.EvalOf(e)
		if text, code := evalThought(out); s != text || want != code || want != impl.WantDone {
			t.Fatalf("%s: %q %d, by steps %q", impl.ExprPut(e), s, want, text)
		}
	}
	if values < 500 {
		t.Errorf("%d came to values", values)
	}
}

// Steps write into nothing, and are new memory, be there one or none.
func TestStepsAreNewMemory(t *testing.T) {
	list := append(withTypes(707, 500), broadOf(t, "1 + 1"), mustRead(t, "let x = (1, 2) in (x, x)"), mustRead(t, "let x = "+tree(30)+" in (x, x)"))
	for i, e := range list {
		spare := withSpare(e)
		out, _ := impl.StepOf(spare)
		keepsToItself(t, strconv.Itoa(i), out, []impl.Expr{spare}, []impl.Expr{e})
		impl.StepValue(spare)
		for _, most := range []int{0, 2, impl.StepMax} {
			steps, _ := impl.StepsOf(spare, most)
			keepsToItself(t, strconv.Itoa(i), steps, []impl.Expr{spare}, []impl.Expr{e})
			if again, _ := impl.StepsOf(e, most); !sameExpr(again, steps) {
				t.Fatalf("%s: another answer", impl.ExprPut(e))
			}
		}
	}
}
