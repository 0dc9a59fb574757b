package tests

import (
	"strconv"
	"strings"
	"testing"

	"loop.example/ensemble/impl"
)

// asksFolds asks FoldOf of texts; where nothing is said it stays as it is.
func asksFolds(t *testing.T, rows [][2]string) {
	t.Helper()
	for _, row := range rows {
		want := row[1]
		if want == "" {
			want = row[0]
		}
		if s := impl.ExprPut(impl.FoldOf(mustType(t, row[0]))); s != want {
			t.Errorf("%s: %q, want %q", row[0], s, want)
		}
	}
}

func TestFoldOfOps(t *testing.T) {
	asksFolds(t, [][2]string{
		{"999998 + 1", "999999"}, {"999999 + 1", ""}, {"999999 + 999999", ""}, {"0 + 0", "0"},
		{"1 - 1", "0"}, {"0 - 1", ""}, {"999999 - 0", "999999"}, {"0 - 999999", ""}, {"5 - 3", "2"},
		{"333333 * 3", "999999"}, {"500000 * 2", ""}, {"0 * 999999", "0"}, {"65536 * 65536", "0"}, {"65537 * 65537", "131073"}, {"65536 * 32768", ""}, {"999999 * 999999", ""},
		{"999999 / 1", "999999"}, {"7 / 2", "3"}, {"0 / 7", "0"}, {"7 / 8", "0"}, {"7 / 0", ""}, {"0 / 0", ""}, {"999999 / 0", ""},
		{"1 < 2", "true"}, {"2 < 1", "false"}, {"1 < 1", "false"}, {"0 < 999999", "true"}, {"1 = 1", "true"}, {"1 = 2", "false"}, {"0 = 0", "true"},
		{"1 + recv", ""}, {"recv + 1", ""}, {"0 - 1 < 0", ""}, {"0 - 1 + 1", ""}, {"(1 + 2) * recv", "3 * recv"}, {"recv * (1 + 2)", "recv * 3"},
	})
}

func TestFoldOfLet(t *testing.T) {
	asksFolds(t, [][2]string{
		{"let x = 2 in x", "2"}, {"let x = true in (x, x)", "(true, true)"}, {"let x = false in if x then 1 else 2", "2"}, {"fun y -> let x = y in (x, y)", "fun y -> (y, y)"}, {"fun x -> let x = x in x", "fun x -> x"}, {"let a = recv in let b = a in (b, b)", "let a = recv in (a, a)"},
		// hidden
		{"let x = 2 in fun x -> x", "fun x -> x"}, {"let x = true in let x = recv in x", "let x = recv in x"}, {"fun y -> let x = y in fun x -> x", "fun y -> fun x -> x"}, {"let x = 2 in rec x y = x y in x", "rec x y = x y in x"},
		{"let x = 2 in case recv of nil -> x | x :: y -> x", "case recv of nil -> 2 | v0 :: y -> v0"}, {"fun y -> let x = y in fun y -> y", "fun y -> fun y -> y"}, {"let x = 2 in (x, fun x -> x)", "(2, fun x -> x)"},
		{"let x = 2 in let x = x + recv in x", "let v0 = 2 + recv in v0"},
		// what stands in the way steps aside
		{"fun y -> let x = y in fun y -> x + y", "fun y -> fun v0 -> y + v0"}, {"fun y -> let x = y in let y = recv in x + y", "fun y -> let v0 = recv in y + v0"},
		{"fun y -> let x = y in rec y z = x + z in y", "fun y -> rec v0 z = y + z in v0"}, {"fun y -> let x = y in rec f y = x + y in f", "fun y -> rec f v0 = y + v0 in f"},
		{"fun y -> let x = y in case recv of nil -> x | y :: v0 -> x + y", "fun y -> case recv of nil -> y | v1 :: v0 -> y + v1"}, {"fun y -> let x = y in case recv of nil -> x | h :: y -> x + h", "fun y -> case recv of nil -> y | h :: v0 -> y + h"},
		{"fun y -> let x = y in fun y -> fun v0 -> (x, (y, v0))", "fun y -> fun v0 -> fun v1 -> (y, (v0, v1))"},
	})
}

// What nobody names goes, if it does nothing; what does something stays.
func TestFoldOfUnused(t *testing.T) {
	asksFolds(t, [][2]string{
		{"let f = fun x -> 1 / 0 in 5", "5"}, {"let f = (1, self) in 5", "5"}, {"let f = self :: nil in 5", "5"}, {"let f = nil in 5", "5"}, {"let f = self in 5", "5"}, {"fun y -> let f = (y, fun z -> y) in y", "fun y -> y"}, {"let f = nil in fun f -> f", "fun f -> f"},
		{"let a = fst (1, 2) in 5", "5"}, {"let a = fun x -> out x in out 1", "out 1"}, {"let f = fun x -> recv in 5", "5"},
		{"let f = nil in f", ""}, {"let f = self in f", ""}, {"let f = (1, 2) in f", ""}, {"let f = fun x -> x in f 1", ""}, {"let p = (1, 2) in fst p", ""}, {"let f = nil in fun x -> f", ""},
		{"let a = out 1 in 5", ""}, {"let a = recv in 5", ""}, {"let a = (1, out 2) in 5", ""}, {"let a = out 2 :: nil in 5", ""}, {"let a = 1 / 0 in 5", ""}, {"let a = 0 - 1 in 5", ""}, {"let a = spawn (fun x -> x) in 5", ""}, {"let a = send self 1 in 5", ""},
		{"let a = link self in 5", ""}, {"let a = (fun x -> x) 1 in 5", ""}, {"let a = (fun x -> x, recv :: nil) in 5", ""}, {"let a = if recv then 1 else 2 in 5", ""}, {"let a = fst (1, recv) in 5", ""}, {"let a = case recv of nil -> 1 | h :: t -> h in 5", ""},
		{"let a = let b = recv in 1 in 5", ""}, {"let a = rec f x = f x in f 1 in 5", ""}, {"let a = rec f x = f x in f in 5", ""}, {"let a = ((1, 2), (3, out 4)) in 5", ""},
		{"rec f x = f x in f", ""}, {"rec f x = x in f 1", ""}, {"rec f x = f x in fun x -> f", ""}, {"rec f x = f x in 3", "3"}, {"rec f x = x in 3", "3"}, {"rec f x = 1 / 0 in fun f -> f", "fun f -> f"}, {"fun x -> rec f x = x in x", "fun x -> x"}, {"rec f x = out x in out 1", "out 1"},
		{"rec f x = 1 + 1 in f", "rec f x = 2 in f"}, {"rec f x = let y = x in f y in f", "rec f x = f x in f"}, {"rec f x = f (1 + 1) in f (2 + 3)", "rec f x = f 2 in f 5"},
	})
}

func TestFoldOfParts(t *testing.T) {
	asksFolds(t, [][2]string{
		{"fst (1, 2)", "1"}, {"snd (1, 2)", "2"}, {"fun x -> fst (x, self)", "fun x -> x"}, {"fst ((1, nil), fun x -> out x)", "(1, nil)"}, {"snd (1 :: nil, (2, 3))", "(2, 3)"}, {"snd (self, nil)", "nil"}, {"fst (self, nil)", "self"},
		{"fst (1, out 2)", ""}, {"snd (1, out 2)", ""}, {"snd (out 1, 2)", ""}, {"fst (recv, 2)", ""}, {"fst ((1, out 2), 3)", ""}, {"snd (1, 2 :: recv)", ""}, {"fun p -> fst p", ""}, {"snd recv", ""}, {"fst (1, 1 / 0)", ""}, {"fst (1, 0 - 1)", ""},
		{"fst (1 + 1, 2)", "2"}, {"snd (1, 2 + 3)", "5"}, {"fst (snd (1, (2, 3)))", "2"}, {"fst (if true then (1, 2) else (3, 4))", "1"}, {"fst (fst ((1, 2), out 3))", ""},
		{"case nil of nil -> 1 | h :: t -> h", "1"}, {"case nil of nil -> out 1 | h :: t -> h", "out 1"}, {"fun h -> case nil of nil -> h | h :: t -> h", "fun h -> h"}, {"case 1 :: nil of nil -> 0 | h :: t -> h", ""},
		{"case recv of nil -> 1 + 1 | h :: t -> h + (1 + 2)", "case recv of nil -> 2 | h :: t -> h + 3"}, {"case fst (nil, self) of nil -> 1 | h :: t -> h", "1"}, {"case recv :: nil of nil -> 1 | h :: t -> 2", ""},
		{"if true then 1 else 2", "1"}, {"if false then 1 else 2", "2"}, {"if true then out 1 else 1 / 0", "out 1"}, {"if recv then 1 + 1 else 2 + 2", "if recv then 2 else 4"}, {"if 1 < 2 then recv else 1 / 0", "recv"}, {"if 1 / 0 < 1 then 1 else 2", ""},
	})
}

// What can be folded only behind another fold, and its parts; and in parts of all kinds.
func TestFoldOfAnew(t *testing.T) {
	asksFolds(t, [][2]string{
		{"1 + 2 * 3", "7"}, {"let x = 2 in x * x", "4"}, {"let x = 2 in let y = x + 1 in let z = y * x in z - y", "3"}, {"if 1 + 1 = 2 then fst (let y = 3 in y + y, nil) else 0", "6"},
		{"let f = fst (1 < 2, self) in if f then case nil of nil -> 4 / 2 | h :: t -> 1 else 0", "2"}, {"let b = 1 < 2 in fun x -> if b then x + (2 - 1) else x", "fun x -> x + 1"}, {"let y = 1 in let f = fun x -> y in 5 + y", "6"},
		{"fun x -> let y = x in let z = y in z", "fun x -> x"}, {"let x = 1 in (x + 1, fun y -> x + 2)", "(2, fun y -> 3)"}, {"let x = 1 in case recv of nil -> x + 1 | h :: t -> x + 2", "case recv of nil -> 2 | h :: t -> 3"},
		{"let x = 1 in rec f y = x + 1 in f (x + 2)", "rec f y = 2 in f 3"}, {"let a = 1 in let f = fun x -> a in if a = 1 then 5 else f 1", "5"}, {"rec f x = x in if 1 < 2 then 5 else f 1", "5"}, {"let n = 0 in 1 / n", "1 / 0"}, {"let n = 1 in let a = 0 - n in 5", "let a = 0 - 1 in 5"},
		{"let a = (let b = 1 in b, if true then nil else recv) in 5", "5"}, {"if (if true then false else true) then 1 else 2", "2"},
		{"(let x = 2 in x + 1, out (let y = 4 in y * y))", "(3, out 16)"}, {"spawn (fun x -> x + (1 + 1))", "spawn (fun x -> x + 2)"}, {"send self (1 + 1)", "send self 2"}, {"link (fst (self, 1))", "link self"}, {"1 + 1 :: (2 + 2) :: nil", "2 :: 4 :: nil"},
		{"(fun x -> x + (1 + 1)) (1 + 2)", "(fun x -> x + 2) 3"}, {"(fun x -> x) 1", ""}, {"(fun x -> fun y -> let z = x in fst (z, y)) 1", "(fun x -> fun y -> x) 1"}, {"recv", ""}, {"self", ""}, {"nil", ""}, {"1", ""}, {"true", ""},
	})
}

// broad has a type of 4 letters, but what it is once more is known has 28, and that is more than chapter 4 lets a type have.
const broad = "if true then (%, (%, (%, (%, (%, (%, %)))))) else (fun y -> (y, (y, (y, (y, (y, (y, y))))))) %"

// broadOf is that, of functions that take three and give a list, with something behind it.
func broadOf(t *testing.T, behind string) impl.Expr {
	t.Helper()
	e := mustRead(t, "("+strings.ReplaceAll(broad, "%", "z")+", "+behind+")")
	out, ok := impl.NameInto(e, "z", mustRead(t, "fun a -> fun b -> fun c -> nil"))
	if _, _, typed := impl.TypeOf(out); !ok || !typed {
		t.Fatal("no type")
	}
	return out
}

// FoldOf is what is folded, even if chapter 4's bounds let that have no type.
func TestFoldOfNoTypeBehind(t *testing.T) {
	e := broadOf(t, "1 + 1")
	out := impl.FoldOf(e)
	want := expr(impl.ExprPair, e.Kids[0].Kids[1], number(2))
	if _, _, ok := impl.TypeOf(out); ok || !sameExpr(out, want) || !isNothing(impl.FoldOf(out)) {
		t.Error(impl.ExprPut(out))
	}
}

// FoldStill of each kind, and of pairs and lists with a part that is none, wherever that stands.
func TestFoldStillTable(t *testing.T) {
	still := []string{
		"1", "true", "x", "nil", "self", "fun x -> x", "fun x -> 1 / 0", "fun x -> recv y", "(1, 2)", "(x, fun y -> y z) :: nil", "1 :: nil", "1 :: x", "((1, self), (x, nil))", "(1 :: 2 :: nil, true)", "1 :: true", "(fun x -> out x) :: x",
	}
	not := []string{
		"recv", "x y", "let x = 1 in 2", "rec f x = x in f", "if true then 1 else 2", "fst (1, 2)", "snd x", "case nil of nil -> 1 | h :: t -> h", "1 + 2", "1 / 0", "1 < 2", "spawn x", "send x y", "out 1", "link self",
		"(1 + 1, 2)", "(1, 1 + 1)", "recv :: nil", "1 :: recv", "1 :: 2 :: out 3", "((1, 2), (3, 4 + 5))", "((1, recv), 2)", "(1, fst x :: nil)", "(let x = 1 in x, 1)",
	}
	for want, texts := range map[bool][]string{true: still, false: not} {
		for _, s := range texts {
			if impl.FoldStill(mustRead(t, s)) != want {
				t.Errorf("%s: not %v", s, want)
			}
		}
	}
	for i, e := range oneOfEach() {
		if want := isStill(e); impl.FoldStill(e) != want {
			t.Errorf("%s: not %v", textsOfEach()[i], want)
		}
	}
}

// FoldSize is how many parts there are, NodeMax at most.
func TestFoldSizeTable(t *testing.T) {
	for s, want := range map[string]int{"1": 1, "fun x -> x + 1": 4, "nil": 1, "if x then y else z": 4, "case x of nil -> y | h :: t -> z": 4, "rec f x = x in f": 3, "let x = 1 in x": 3, "1 :: 2 :: nil": 5, "send x y": 3, "(1, (2, 3))": 5} {
		if n := impl.FoldSize(mustRead(t, s)); n != want {
			t.Errorf("%s: %d, want %d", s, n, want)
		}
	}
	for parts := 1; parts <= impl.NodeMax+2; parts++ {
		want := parts
		if parts > impl.NodeMax {
			want = 0
		}
		if n := impl.FoldSize(grown(parts)); n != want {
			t.Errorf("%d parts: %d", parts, n)
		}
	}
	if n := impl.FoldSize(chained(impl.DeepMax - 1)); n != impl.DeepMax {
		t.Errorf("deepest: %d", n)
	}
	if n := impl.FoldSize(chained(impl.DeepMax)); n != 0 {
		t.Errorf("too deep: %d", n)
	}
}

// withoutType are texts of expressions that have free names, or no type, by a rule or by a bound.
func withoutType() []string {
	more, _ := sized(impl.TypeMax + 1)
	return []string{
		"x", "fun x -> y", "x + 1", "let y = x in 1", "let x = 1 in y", "if true then 1 else x", "1 2", "nil 1", "(1, 2) 3", "1 + true", "fun x -> x x", "if 1 then 2 else 3", "let x = 1 + true in 1 + 1", "fst 1", "case 1 of nil -> 1 + 1 | h :: t -> 2",
		"if true then 1 else nil", "rec f x = f in 1", "fst (1, 1 + nil)", "1 :: 2", "send 1 2", doubled + more, doubled + "let z = " + more + " in 1 + 1", free + lettered(27),
	}
}

// What is not ok, has free names or has no type folds to nothing; FoldStill and FoldSize ask for no type.
func TestFoldWrong(t *testing.T) {
	for _, s := range withoutType() {
		e := mustRead(t, s)
		if out := impl.FoldOf(e); !isNothing(out) {
			t.Errorf("%s: %s", s, impl.ExprPut(out))
		}
		if impl.FoldStill(e) != isStill(e) || impl.FoldSize(e) != partsOf(e) {
			t.Errorf("%s: %v, %d", s, impl.FoldStill(e), impl.FoldSize(e))
		}
	}
	for i, e := range append(wrongExprs(), expr(impl.ExprPair, number(1), number(-1)), expr(impl.ExprCons, number(1000000), expr(impl.ExprNil)), function("x", number(-1))) {
		if !isNothing(impl.FoldOf(e)) || impl.FoldStill(e) || impl.FoldSize(e) != 0 {
			t.Errorf("wrong expression %d is folded", i)
		}
	}
}

// P33: what is folded does the same, is no greater, and is folded; it is what single folds come to.
func TestFoldOfPromise(t *testing.T) {
	count, noType := map[string]int{}, 0
	for _, e := range append(withTypes(601, 4000), plots(602, 1000)...) {
		out := impl.FoldOf(e)
		if want := foldedBit(e, count); !sameExpr(out, want) {
			t.Fatalf("%s: %s, want %s", impl.ExprPut(e), impl.ExprPut(out), impl.ExprPut(want))
		}
		if impl.FoldSize(out) > impl.FoldSize(e) || impl.FoldSize(out) < 1 {
			t.Fatalf("%s: %s is greater", impl.ExprPut(e), impl.ExprPut(out))
		}
		kind, _, _ := impl.TypeOf(e)
		less, _, ok := impl.TypeOf(out)
		if !ok {
			noType++
			continue
		}
		if !impl.TypeMore(less, kind) {
			t.Fatalf("%s: %q, folded %s: %q", impl.ExprPut(e), kind, impl.ExprPut(out), less)
		}
		s, want := impl.EvalOf(e)
		if s2, want2 := impl.EvalOf(out); s2 != s || want2 != want {
			t.Fatalf("%s: %q %d, folded %s: %q %d", impl.ExprPut(e), s, want, impl.ExprPut(out), s2, want2)
		}
		if again := impl.FoldOf(out); !sameExpr(again, out) {
			t.Fatalf("%s: %s, again %s", impl.ExprPut(e), impl.ExprPut(out), impl.ExprPut(again))
		}
	}
	for _, rule := range []string{"op", "if", "into", "let", "rec", "fst", "snd", "case"} {
		if count[rule] < 50 {
			t.Errorf("the rule of %s was met %d times", rule, count[rule])
		}
	}
	if noType > 0 {
		t.Errorf("%d have no type behind it", noType)
	}
}

// P34: folding does not matter to processes.
func TestFoldOfRuns(t *testing.T) {
	changed := 0
	runs(603, 1500, func(e impl.Expr, list []impl.Event) {
		out := impl.FoldOf(e)
		if !sameExpr(out, e) {
			changed++
		}
		if told, want := answerTold(impl.RunMean(out, list)), answerTold(impl.RunMean(e, list)); told != want {
			t.Fatalf("%s: %s, folded %s: %s", impl.ExprPut(e), want, impl.ExprPut(out), told)
		}
	})
	if changed < 500 {
		t.Errorf("%d were folded", changed)
	}
}

// allParts are an expression, and all of its parts.
func allParts(e impl.Expr) []impl.Expr {
	list := []impl.Expr{e}
	for _, kid := range e.Kids {
		list = append(list, allParts(kid)...)
	}
	return list
}

// P35: what is done does nothing. P36: an expression has as many parts as its parts, and itself.
func TestFoldStillPromise(t *testing.T) {
	still := map[int]int{}
	for _, e := range append(withTypes(604, 2000), okExprs(605, 1500)...) {
		for _, part := range allParts(e) {
			sum := 1
			for _, kid := range part.Kids {
				sum += impl.FoldSize(kid)
			}
			if n := impl.FoldSize(part); n != sum || n != partsOf(part) || n > impl.NodeMax || n != impl.FoldSize(impl.NameTidy(part)) {
				t.Fatalf("%s: %d parts", impl.ExprPut(part), n)
			}
			if impl.FoldStill(part) != isStill(part) {
				t.Fatalf("%s: %v", impl.ExprPut(part), impl.FoldStill(part))
			}
			if _, _, ok := impl.TypeOf(part); !ok || !impl.FoldStill(part) {
				continue
			}
			still[part.Kind]++
			if s, want := impl.EvalOf(part); want != impl.WantDone {
				t.Fatalf("%s: %q %d", impl.ExprPut(part), s, want)
			}
		}
	}
	for _, kind := range []int{impl.ExprNum, impl.ExprBool, impl.ExprFun, impl.ExprNil, impl.ExprSelf, impl.ExprPair, impl.ExprCons} {
		if still[kind] < 50 {
			t.Errorf("of kind %d %d are done", kind, still[kind])
		}
	}
}

// FoldOf writes into nothing, and is new memory.
func TestFoldOfIsNewMemory(t *testing.T) {
	for i, e := range append(withTypes(606, 600), broadOf(t, "1 + 1")) {
		spare := withSpare(e)
		out := impl.FoldOf(spare)
		impl.FoldStill(spare)
		impl.FoldSize(spare)
		keepsToItself(t, strconv.Itoa(i), out, []impl.Expr{spare}, []impl.Expr{e})
		if !sameExpr(out, impl.FoldOf(e)) {
			t.Fatalf("%s: another answer", impl.ExprPut(e))
		}
	}
}
