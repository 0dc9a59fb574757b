package tests

import (
	"math/rand"
	"strconv"
	"strings"
	"testing"

	"loop.example/ensemble/impl"
)

// PlainIs of each kind: where it waits for a part what is there at once must stand, and nothing else; where it does not, anything may.
func TestPlainIsEachKind(t *testing.T) {
	there := []string{"1", "0", "true", "false", "x", "nil", "self"}
	not := []string{
		"recv", "fun x -> x", "x y", "let x = 1 in x", "rec f x = x in f", "if x then 1 else 2", "(1, x)", "fst x", "snd x", "1 :: nil", "case x of nil -> 1 | h :: t -> 2", "1 + 2", "1 < x", "spawn x", "send x y", "out 1", "link x",
	}
	waited := map[int]string{
		impl.ExprFun: "-", impl.ExprApp: "++", impl.ExprLet: "--", impl.ExprRec: "--", impl.ExprIf: "+--", impl.ExprPair: "++", impl.ExprFst: "+", impl.ExprSnd: "+", impl.ExprCons: "++", impl.ExprCase: "+--",
		impl.ExprOp: "++", impl.ExprSpawn: "+", impl.ExprSend: "++", impl.ExprOut: "+", impl.ExprLink: "+",
	}
	for _, e := range oneOfEach() {
		if !impl.PlainIs(e) || len(waited[e.Kind]) != len(e.Kids) {
			t.Errorf("%s is not plain", impl.ExprPut(e))
		}
		for place := range e.Kids {
			for i, s := range append(append([]string{}, there...), not...) {
				one := withKid(e, place, mustRead(t, s))
				if want := i < len(there) || waited[e.Kind][place] == '-'; impl.PlainIs(one) != want {
					t.Errorf("%s: plain is not %v", spelled(one), want)
				}
			}
		}
	}
}

// All parts count, wherever they stand.
func TestPlainIsTable(t *testing.T) {
	is := []string{
		"let x = fun y -> y in x 1", "let x = let y = recv in out y in x", "let x = 2 + 3 in fun y -> x + y", "fun x -> fun y -> (x, y)", "rec f x = let y = x - 1 in f y in f 1", "if x then let y = 1 + 2 in y * 2 else recv", "case x of nil -> out 1 | h :: t -> fun y -> h",
		"let x = rec f x = f x in f in let y = 1 :: nil in x y", "recv", "(x, self)", "rec f x = if x then f x else recv in fun z -> z",
	}
	not := []string{
		"fun x -> x + (1 + 2)", "let x = out (1 + 2) in x", "let x = 1 in out recv", "rec f x = f (x - 1) in f", "rec f x = x in f (f x)", "if x then out (out 1) else 1", "if x then 1 else out (out 1)", "case x of nil -> fst (1, 2) | h :: t -> h", "case x of nil -> 1 | h :: t -> h (fun x -> x)",
		"fun x -> fun y -> let z = (x, (y, x)) in z", "1 + (2 + 3)", "1 + 2 + 3", "(fun x -> x) 1", "f (fun x -> x)", "send recv 1", "1 :: 2 :: nil",
	}
	for want, texts := range map[bool][]string{true: is, false: not} {
		for _, s := range texts {
			if impl.PlainIs(mustRead(t, s)) != want {
				t.Errorf("%s: plain is not %v", s, want)
			}
		}
	}
}

// asksPlain asks PlainOf of texts; where nothing is said it stays as it is.
func asksPlain(t *testing.T, rows [][2]string) {
	t.Helper()
	for _, row := range rows {
		want := row[1]
		if want == "" {
			want = row[0]
		}
		out, ok := impl.PlainOf(mustType(t, row[0]))
		if s := impl.ExprPut(out); !ok || s != want || !impl.PlainIs(out) {
			t.Errorf("%s: %q %v, want %q", row[0], s, ok, want)
		}
	}
}

// What is plain stays; of each kind what is waited for gets a name, and nothing else.
func TestPlainOfKinds(t *testing.T) {
	asksPlain(t, [][2]string{
		{"1", ""}, {"true", ""}, {"nil", ""}, {"self", ""}, {"recv", ""}, {"fun x -> x", ""}, {"1 + 2", ""}, {"(1, self)", ""}, {"1 :: nil", ""}, {"out 1", ""}, {"link self", ""}, {"send self 1", ""}, {"let x = 2 + 3 in fun y -> x + y", ""}, {"rec f x = f x in f 1", ""},
		{"let t0 = recv in out t0", ""}, {"let a = fun x -> let b = x - 1 in b * 2 in a 3", ""}, {"if true then recv else 1 + 2", ""}, {"case nil of nil -> 1 + 2 | h :: t -> h + 1", ""}, {"let a = let b = recv in out b in a", ""},
		{"fst (1, 2)", "let t0 = (1, 2) in fst t0"}, {"snd (1, 2)", "let t0 = (1, 2) in snd t0"}, {"spawn (fun x -> x)", "let t0 = fun x -> x in spawn t0"}, {"out recv", "let t0 = recv in out t0"}, {"link (spawn (fun x -> x))", "let t1 = let t0 = fun x -> x in spawn t0 in link t1"},
		{"send self (1 + 1)", "let t0 = 1 + 1 in send self t0"}, {"send (if true then self else self) 1", "let t0 = if true then self else self in send t0 1"}, {"(fun x -> x) 1", "let t0 = fun x -> x in t0 1"}, {"(recv, 1)", "let t0 = recv in (t0, 1)"}, {"(1, recv)", "let t0 = recv in (1, t0)"},
		{"1 :: 2 :: nil", "let t0 = 2 :: nil in 1 :: t0"}, {"recv :: nil", "let t0 = recv in t0 :: nil"}, {"(1 :: nil) :: nil", "let t0 = 1 :: nil in t0 :: nil"}, {"1 < 2 + 3", "let t0 = 2 + 3 in 1 < t0"}, {"1 + 2 = 3", "let t0 = 1 + 2 in t0 = 3"},
		{"if 1 < 2 then 1 + 2 else 3", "let t0 = 1 < 2 in if t0 then 1 + 2 else 3"}, {"if true then out (1 + 2) else 3", "if true then let t0 = 1 + 2 in out t0 else 3"},
		{"case 1 :: nil of nil -> (0, nil) | h :: t -> (h, t)", "let t0 = 1 :: nil in case t0 of nil -> (0, nil) | h :: t -> (h, t)"}, {"case recv of nil -> (nil, 1) | h :: t -> (h, 2)", "let t0 = recv in case t0 of nil -> (nil, 1) | h :: t -> (h, 2)"},
		{"case nil of nil -> out (1 + 2) | h :: t -> out (h + (1 + 3))", "case nil of nil -> (let t0 = 1 + 2 in out t0) | h :: t -> let t2 = let t1 = 1 + 3 in h + t1 in out t2"},
		{"fun x -> x + 1 + 2", "fun x -> let t0 = x + 1 in t0 + 2"}, {"let x = out recv in x + x + 1", "let x = let t0 = recv in out t0 in let t1 = x + x in t1 + 1"}, {"rec f x = f (x - 1) in f (1 + 2)", "rec f x = let t0 = x - 1 in f t0 in let t1 = 1 + 2 in f t1"},
		{"rec f x = f (x - 1) in fun y -> f (y + 2)", "rec f x = let t0 = x - 1 in f t0 in fun y -> let t1 = y + 2 in f t1"},
	})
}

// Parts are made plain from the left, each with those in it, ahead of what is waited for: that gets its names last. The first name is the outermost.
func TestPlainOfOrder(t *testing.T) {
	asksPlain(t, [][2]string{
		{"(1 + 2) * (3 + 4)", "let t0 = 1 + 2 in let t1 = 3 + 4 in t0 * t1"}, {"out 1 + out 2 + out 3", "let t2 = let t0 = out 1 in let t1 = out 2 in t0 + t1 in let t3 = out 3 in t2 + t3"}, {"(1 + 2 * 3) * (4 + 5)", "let t1 = let t0 = 2 * 3 in 1 + t0 in let t2 = 4 + 5 in t1 * t2"},
		{"(4 + 5) * (1 + 2 * 3)", "let t1 = 4 + 5 in let t2 = let t0 = 2 * 3 in 1 + t0 in t1 * t2"}, {"((1, (2, 3)), ((4, 5), 6))", "let t2 = let t0 = (2, 3) in (1, t0) in let t3 = let t1 = (4, 5) in (t1, 6) in (t2, t3)"}, {"fst (fst ((1, 2), 3))", "let t2 = let t1 = let t0 = (1, 2) in (t0, 3) in fst t1 in fst t2"},
		{"if 1 + 1 < 2 then out (1 + 2) else out (3 + 4)", "let t3 = let t0 = 1 + 1 in t0 < 2 in if t3 then let t1 = 1 + 2 in out t1 else let t2 = 3 + 4 in out t2"}, {"(fun x -> out (x + 1)) (1 + 2)", "let t1 = fun x -> let t0 = x + 1 in out t0 in let t2 = 1 + 2 in t1 t2"},
		{"(fun x -> fun y -> x + y) (1 + 2) (3 + 4)", "let t2 = let t0 = fun x -> fun y -> x + y in let t1 = 1 + 2 in t0 t1 in let t3 = 3 + 4 in t2 t3"}, {"(out 1, recv) :: (out 2, recv) :: nil", "let t5 = let t0 = out 1 in let t1 = recv in (t0, t1) in let t6 = let t4 = let t2 = out 2 in let t3 = recv in (t2, t3) in t4 :: nil in t5 :: t6"},
		{"send (spawn (fun x -> recv + 1)) (out 2)", "let t2 = let t1 = fun x -> let t0 = recv in t0 + 1 in spawn t1 in let t3 = out 2 in send t2 t3"}, {"case 1 :: 2 :: nil of nil -> out (1 + 2) | h :: t -> out (h + 1)", "let t3 = let t0 = 2 :: nil in 1 :: t0 in case t3 of nil -> (let t1 = 1 + 2 in out t1) | h :: t -> let t2 = h + 1 in out t2"},
	})
}

// A name that stands in the expression, wherever that is, is not given; more than ten names are.
func TestPlainOfNames(t *testing.T) {
	asksPlain(t, [][2]string{
		{"fun t0 -> t0 + 1 + 2", "fun t0 -> let t1 = t0 + 1 in t1 + 2"}, {"fun t1 -> out (t1 + 1 + 2)", "fun t1 -> let t2 = let t0 = t1 + 1 in t0 + 2 in out t2"}, {"(fun t0 -> 1) (1 + 2)", "let t1 = fun t0 -> 1 in let t2 = 1 + 2 in t1 t2"}, {"(1 + 2, fun t0 -> 1)", "let t1 = 1 + 2 in let t2 = fun t0 -> 1 in (t1, t2)"},
		{"let t0 = 1 in out recv", "let t0 = 1 in let t1 = recv in out t1"}, {"let x = out recv in let t0 = 1 in x", "let x = let t1 = recv in out t1 in let t0 = 1 in x"}, {"rec t0 t1 = 1 in out recv", "rec t0 t1 = 1 in let t2 = recv in out t2"}, {"rec f t1 = f (t1 - 1 - 2) in f", "rec f t1 = let t2 = let t0 = t1 - 1 in t0 - 2 in f t2 in f"},
		{"case nil of nil -> out (out 1) | t1 :: t0 -> 1", "case nil of nil -> (let t2 = out 1 in out t2) | t1 :: t0 -> 1"}, {"case nil of nil -> out (out 1) | t0 :: t2 -> out (out 2)", "case nil of nil -> (let t1 = out 1 in out t1) | t0 :: t2 -> let t3 = out 2 in out t3"}, {"out recv + (fun t00 -> 1) 2", "let t2 = let t0 = recv in out t0 in let t3 = let t1 = fun t00 -> 1 in t1 2 in t2 + t3"},
		{"fun t -> out (t + 1)", "fun t -> let t0 = t + 1 in out t0"}, {"fun t0 -> fun t1 -> fun t2 -> out (t0 + t1 + t2)", "fun t0 -> fun t1 -> fun t2 -> let t4 = let t3 = t0 + t1 in t3 + t2 in out t4"}, {"let t1 = 1 in let t3 = 2 in (t1 + t3) * (t3 + t1) * (t1 + 1)", "let t1 = 1 in let t3 = 2 in let t4 = let t0 = t1 + t3 in let t2 = t3 + t1 in t0 * t2 in let t5 = t1 + 1 in t4 * t5"},
		{"1 + 1 + 1 + 1 + 1 + 1 + 1 + 1 + 1 + 1 + 1 + 1", "let t9 = let t8 = let t7 = let t6 = let t5 = let t4 = let t3 = let t2 = let t1 = let t0 = 1 + 1 in t0 + 1 in t1 + 1 in t2 + 1 in t3 + 1 in t4 + 1 in t5 + 1 in t6 + 1 in t7 + 1 in t8 + 1 in t9 + 1"},
		{"(fun t9 -> fun t11 -> out 1 + out 2 + out 3 + out 4 + out 5 + out 6)", "fun t9 -> fun t11 -> let t8 = let t6 = let t4 = let t2 = let t0 = out 1 in let t1 = out 2 in t0 + t1 in let t3 = out 3 in t2 + t3 in let t5 = out 4 in t4 + t5 in let t7 = out 5 in t6 + t7 in let t10 = out 6 in t8 + t10"},
	})
}

// balanced is a pair of pairs, and so on; it has 2 to that number ends.
func balanced(deep int) impl.Expr {
	if deep == 0 {
		return number(1)
	}
	return expr(impl.ExprPair, balanced(deep-1), balanced(deep-1))
}

// leaning is a pair whose second part is one, and so on; the innermost stands in so many.
func leaning(deep int) impl.Expr {
	if deep == 0 {
		return number(1)
	}
	return expr(impl.ExprPair, number(1), leaning(deep-1))
}

// What comes to have just NodeMax parts, just DeepMax in each other, or just TypeMax in the type of a name is there; one more, and there is nothing.
func TestPlainOfBounds(t *testing.T) {
	type row struct {
		e     impl.Expr
		parts int
		deep  int
	}
	around := func(e impl.Expr) impl.Expr { return function("x", e) }
	rows := []row{
		{balanced(4), 59, 8}, {around(balanced(4)), 60, 9}, {around(around(balanced(4))), 61, 10}, {expr(impl.ExprFst, balanced(4)), 62, 9},
		{leaning(13), 51, 14}, {expr(impl.ExprPair, expr(impl.ExprNil), leaning(12)), 51, 14}, {expr(impl.ExprPair, leaning(1), leaning(11)), 51, 14}, {expr(impl.ExprPair, leaning(1), leaning(12)), 55, 15},
		{expr(impl.ExprPair, leaning(12), number(1)), 51, 14}, {around(expr(impl.ExprPair, leaning(1), leaning(10))), 48, 14}, {around(expr(impl.ExprPair, leaning(1), leaning(11))), 52, 15},
	}
	there := 0
	for _, r := range rows {
		if _, _, ok := impl.TypeOf(r.e); !ok {
			t.Fatalf("%s: no type", impl.ExprPut(r.e))
		}
		seen := plainSeen(r.e)
		if partsOf(seen) != r.parts || deepOf(seen) != r.deep {
			t.Errorf("%s: %d parts, %d in each other", spelled(r.e), partsOf(seen), deepOf(seen))
		}
		fit := r.parts <= 60 && r.deep <= 14
		out, ok := impl.PlainOf(r.e)
		if ok != fit || fit && !sameExpr(out, seen) || !fit && !isNothing(out) {
			t.Errorf("%s: %v %s", spelled(r.e), ok, impl.ExprPut(out))
		}
		if fit {
			there++
		}
	}
	if there < 5 || there == len(rows) {
		t.Errorf("%d of %d are there", there, len(rows))
	}
	for parts := impl.TypeMax - 3; parts <= impl.TypeMax; parts++ {
		part, _ := sized(parts)
		e := mustType(t, doubled+"fst (1, "+part+")")
		if out, ok := impl.PlainOf(e); !fits(plainSeen(e)) || ok != (parts+2 <= impl.TypeMax) || !ok && !isNothing(out) {
			t.Errorf("a pair whose type has %d parts: %v %s", parts+2, ok, impl.ExprPut(out))
		}
	}
}

// Of A of ExprApp it is known ahead of B that it is a function; once it has a name, only behind both. So what has no type by a bound
// may have one when it is made plain: it is the expression itself that is asked first.
func TestPlainOfNoTypeAhead(t *testing.T) {
	wide, _ := sized(impl.TypeMax - 2)
	e := mustRead(t, doubled+"let w = "+wide+" in fun x -> (if true then x else x) (let n = (x, w) in 1)")
	if _, _, ok := impl.TypeOf(e); ok {
		t.Error("there is a type")
	}
	if _, _, ok := impl.TypeOf(plainSeen(e)); !ok {
		t.Error("there is none when it is plain")
	}
	if out, ok := impl.PlainOf(e); ok || !isNothing(out) {
		t.Error(impl.ExprPut(out), ok)
	}
}

// What is not ok, has free names or has no type is made to nothing; PlainIs asks for no type.
func TestPlainWrong(t *testing.T) {
	list := append(wrongExprs(), expr(impl.ExprPair, number(1), number(-1)), expr(impl.ExprFst, impl.Expr{}), function("x", number(-1)), letIn("in", number(1), number(2)))
	wrong := len(list)
	for _, s := range append(withoutType(), "t0 + 1 + 2", "t0", "let t0 = t0 in out (1 + 2)", "fun x -> t1 (x + 1)", "fun x -> x (x = 1) :: nil") {
		list = append(list, mustRead(t, s))
	}
	for i, e := range list {
		if out, ok := impl.PlainOf(e); ok || !isNothing(out) {
			t.Errorf("wrong expression %d: %s", i, impl.ExprPut(out))
		}
		if impl.PlainIs(e) != (i >= wrong && isPlainSeen(e)) {
			t.Errorf("wrong expression %d: %v", i, impl.PlainIs(e))
		}
	}
}

// tNamed is an expression in which some names of the tests are those that PlainOf gives.
func tNamed(e impl.Expr) impl.Expr {
	names := map[string]string{"v0": "t0", "v1": "t3", "w0": "t1", "x": "t10"}
	for _, name := range []*string{&e.Name, &e.Tail} {
		if other := names[*name]; other != "" {
			*name = other
		}
	}
	for i, kid := range e.Kids {
		e = withKid(e, i, tNamed(kid))
	}
	return e
}

// plainAsked are expressions that have a type, in half of them names that PlainOf gives; some are small enough to be made plain.
func plainAsked(seed int64, count int) []impl.Expr {
	list := append(withTypes(seed, count), plots(seed+10, count/3)...)
	for i, e := range list {
		if i%2 == 0 {
			list[i] = tNamed(e)
		}
	}
	return list
}

// P52: what is plain is so, has a type, does the same, and stays; it is what is made by giving all names first. P55: what is plain stays as it is.
func TestPlainOfPromise(t *testing.T) {
	made, same, great := 0, 0, 0
	for _, e := range plainAsked(1501, 3000) {
		want := plainSeen(e)
		_, _, typed := typeGuessed(want)
		out, ok := impl.PlainOf(e)
		if ok != (typed && fits(want)) || ok && !sameExpr(out, want) || !ok && !isNothing(out) {
			t.Fatalf("%s: %v %s, want %s", impl.ExprPut(e), ok, impl.ExprPut(out), spelled(want))
		}
		if impl.PlainIs(e) != isPlainSeen(e) || impl.PlainIs(e) && !sameExpr(out, e) {
			t.Fatalf("%s: plain is %v, made %s", impl.ExprPut(e), impl.PlainIs(e), impl.ExprPut(out))
		}
		switch {
		case !ok:
			great++
			continue
		case sameExpr(out, e):
			same++
		default:
			made++
		}
		kind, _, _ := impl.TypeOf(e)
		less, _, ok := impl.TypeOf(out)
		if !impl.PlainIs(out) || !ok || !impl.TypeMore(less, kind) {
			t.Fatalf("%s: %q, made %s: %q", impl.ExprPut(e), kind, impl.ExprPut(out), less)
		}
		s, end := impl.EvalOf(e)
		if s2, end2 := impl.EvalOf(out); s2 != s || end2 != end {
			t.Fatalf("%s: %q %d, made %s: %q %d", impl.ExprPut(e), s, end, impl.ExprPut(out), s2, end2)
		}
		if again, ok := impl.PlainOf(out); !ok || !sameExpr(again, out) {
			t.Fatalf("%s: %s, again %s", impl.ExprPut(e), impl.ExprPut(out), impl.ExprPut(again))
		}
	}
	if made < 500 || same < 100 || great < 100 {
		t.Errorf("%d were made plain, %d were so, %d are too great", made, same, great)
	}
}

// P53: that it is plain does not matter to processes.
func TestPlainOfRuns(t *testing.T) {
	made := 0
	runs(1502, 1500, func(e impl.Expr, list []impl.Event) {
		out, ok := impl.PlainOf(e)
		if !ok {
			return
		}
		if !sameExpr(out, e) {
			made++
		}
		if told, want := answerTold(impl.RunMean(out, list)), answerTold(impl.RunMean(e, list)); told != want {
			t.Fatalf("%s: %s, made %s: %s", impl.ExprPut(e), want, impl.ExprPut(out), told)
		}
	})
	if made < 500 {
		t.Errorf("%d were made plain", made)
	}
}

// The order in which things are done stays.
func TestPlainOfDeeds(t *testing.T) {
	for s, want := range map[string]string{
		"(out 1 + out 2) * (out 3 + out 4)":                                              "0:1 0:2 0:3 0:4",
		"((out 1, out 2), (fun x -> out 4) (out 3)) :: ((out 5, 6), 7) :: nil":           "0:1 0:2 0:3 0:4 0:5",
		"(fun x -> fun y -> out 5) (out 1 + out 2) (out 3 + out 4)":                      "0:1 0:2 0:3 0:4 0:5",
		"if out 1 < out 2 then out 9 else out (out 3 + 4)":                               "0:1 0:2 0:3 0:4",
		"case out 1 :: out 2 :: nil of nil -> out 9 | h :: t -> out 3 + out (4 + out h)": "0:1 0:2 0:3 0:0 0:4",
		"send (let a = out 1 in self) (out 2 + recv)":                                    "0:1 0:2",
		"let f = fun x -> out (out x + 2) in f (out 1 + 1) + f 5":                        "0:1 0:1 0:2 0:5 0:2",
	} {
		e := mustType(t, s)
		out, ok := impl.PlainOf(e)
		for _, one := range []impl.Expr{e, out} {
			told, _, _ := strings.Cut(answerTold(impl.RunMean(one, impl.RunTurns(20))), ";")
			if !ok || told != want {
				t.Errorf("%s: %s, want %s", impl.ExprPut(one), told, want)
			}
		}
	}
}

// P54: what is plain has plain parts, and is so whatever the names are that it binds.
func TestPlainIsPromise(t *testing.T) {
	r := rand.New(rand.NewSource(1503))
	is, not := 0, 0
	list := append(okExprs(1504, 3000), withTypes(1505, 1000)...)
	for _, e := range list {
		if out, ok := impl.PlainOf(e); ok {
			list = append(list, out)
		}
	}
	for _, e := range list {
		plain := impl.PlainIs(e)
		if plain != isPlainSeen(e) || plain != impl.PlainIs(impl.NameTidy(e)) || plain != impl.PlainIs(renamed(r, e)) {
			t.Fatalf("%s: plain is %v", impl.ExprPut(e), plain)
		}
		if !plain {
			not++
			continue
		}
		is++
		for _, part := range allParts(e) {
			if !impl.PlainIs(part) {
				t.Fatalf("%s is plain, but not %s", impl.ExprPut(e), impl.ExprPut(part))
			}
		}
	}
	if is < 500 || not < 500 {
		t.Errorf("%d are plain, %d are not", is, not)
	}
}

// PlainOf writes into nothing, and is new memory, be it plain or made so.
func TestPlainOfIsNewMemory(t *testing.T) {
	for i, e := range plainAsked(1506, 600) {
		spare := withSpare(e)
		out, _ := impl.PlainOf(spare)
		impl.PlainIs(spare)
		keepsToItself(t, strconv.Itoa(i), out, []impl.Expr{spare}, []impl.Expr{e})
		if again, _ := impl.PlainOf(e); !sameExpr(again, out) {
			t.Fatalf("%s: another answer", impl.ExprPut(e))
		}
	}
}
