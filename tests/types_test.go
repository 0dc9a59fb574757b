package tests

import (
	"math/rand"
	"strings"
	"testing"

	"loop.example/ensemble/impl"
)

// typeRow is a text, and what TypeOf is of it; without a type there is none.
type typeRow struct {
	text string
	kind string
	told string
}

func asksTypes(t *testing.T, rows []typeRow) {
	t.Helper()
	for _, row := range rows {
		s, m, ok := impl.TypeOf(mustRead(t, row.text))
		if s != row.kind || m != row.told || ok != (row.kind != "") {
			t.Errorf("%s: %q %q %v, want %q %q", row.text, s, m, ok, row.kind, row.told)
		}
	}
}

// The rules of chapter 4, one by one, with parts that are as they ask, and with parts that are not.
func TestTypeOfRules(t *testing.T) {
	asksTypes(t, []typeRow{
		{"0", "int", "a"}, {"true", "bool", "a"}, {"false", "bool", "a"}, {"self", "pid", "a"}, {"recv", "a", "a"}, {"nil", "a list", "b"},
		{"fun x -> x", "a -> a", "b"}, {"fun x -> 1", "a -> int", "b"}, {"fun x -> fun y -> x", "a -> b -> a", "c"}, {"fun x -> fun x -> x", "a -> b -> b", "c"},
		{"fun f -> f 1", "(int -> a) -> a", "b"}, {"fun f -> fun x -> f x", "(a -> b) -> a -> b", "c"}, {"(fun x -> x) 1", "int", "a"},
		{"1 2", "", ""}, {"(fun x -> x + 1) true", "", ""}, {"nil 1", "", ""}, {"fun x -> x x", "", ""}, {"fun f -> (f 1, f true)", "", ""},
		{"let x = 1 in x", "int", "a"}, {"let x = 1 in true", "bool", "a"}, {"let x = true in let x = 1 in x", "int", "a"}, {"let x = 1 2 in 3", "", ""},
		{"rec f x = x in f", "a -> a", "b"}, {"rec f x = f x in f", "a -> b", "c"}, {"rec f x = f in f", "", ""}, {"rec f x = x x in 1", "", ""},
		{"rec f x = f 1 in f", "int -> a", "b"}, {"rec f x = f (f x) in f", "a -> a", "b"}, {"rec f x = f 1 + 1 in 2", "int", "a"}, {"rec f x = if f 1 then f x else true in f", "int -> bool", "a"},
		{"if true then 1 else 2", "int", "a"}, {"if 1 then 1 else 2", "", ""}, {"if true then 1 else true", "", ""}, {"fun x -> if x then x else x", "bool -> bool", "a"},
		{"(1, true)", "int * bool", "a"}, {"((1, true), self)", "(int * bool) * pid", "a"}, {"(1, (true, self))", "int * (bool * pid)", "a"}, {"(fun x -> x, nil)", "(a -> a) * b list", "c"},
		{"fst (1, true)", "int", "a"}, {"snd (1, true)", "bool", "a"}, {"fun x -> fst x", "a * b -> a", "c"}, {"fun x -> snd x", "a * b -> b", "c"}, {"fst 1", "", ""}, {"snd nil", "", ""},
		{"1 :: nil", "int list", "a"}, {"nil :: nil", "a list list", "b"}, {"1 :: 2", "", ""}, {"1 :: true :: nil", "", ""}, {"(fun x -> x) :: nil", "(a -> a) list", "b"}, {"(1, 2) :: nil", "(int * int) list", "a"},
		{"fun x -> x :: x", "", ""}, {"fun x -> x :: nil", "a -> a list", "b"}, {"fun x -> 1 :: x", "int list -> int list", "a"},
		{"case nil of nil -> 1 | h :: t -> 2", "int", "a"}, {"fun x -> case x of nil -> 1 | h :: t -> h", "int list -> int", "a"},
		{"fun x -> case x of nil -> x | h :: t -> t", "a list -> a list", "b"}, {"fun x -> case x of nil -> x | h :: t -> h :: h :: t", "a list -> a list", "b"},
		{"case 1 of nil -> 1 | h :: t -> 2", "", ""}, {"case nil of nil -> 1 | h :: t -> true", "", ""}, {"case 1 :: nil of nil -> true | h :: t -> h", "", ""}, {"case nil of nil -> 1 | h :: t -> t", "", ""},
		{"fun x -> case x of nil -> nil | h :: t -> h", "a list list -> a list", "b"},
		{"1 + 2", "int", "a"}, {"1 - 2", "int", "a"}, {"1 * 2", "int", "a"}, {"1 / 2", "int", "a"}, {"1 < 2", "bool", "a"}, {"1 = 2", "bool", "a"},
		{"1 + true", "", ""}, {"true + 1", "", ""}, {"true < false", "", ""}, {"true = true", "", ""}, {"self = self", "", ""}, {"1 = nil", "", ""}, {"1 < 2 < 3", "", ""},
		{"fun x -> fun y -> x < y", "int -> int -> bool", "a"},
		{"spawn (fun x -> x)", "pid", "a"}, {"spawn (fun x -> 1)", "pid", "a"}, {"spawn (fun x -> true)", "", ""}, {"spawn 1", "", ""}, {"fun f -> spawn f", "(int -> int) -> pid", "a"},
		{"send self 1", "int", "int"}, {"send 1 1", "", ""}, {"send self nil", "int", "a list"}, {"fun x -> send self x", "a -> int", "a"}, {"fun x -> send x x", "pid -> int", "pid"},
		{"out 1", "int", "a"}, {"out true", "", ""}, {"fun x -> out x", "int -> int", "a"}, {"link self", "int", "a"}, {"link 1", "", ""}, {"fun x -> link x", "pid -> int", "a"},
	})
}

// A type that would hold itself is none, wherever it stands; and one that seems to, and does not, is one.
func TestTypeOfRings(t *testing.T) {
	asksTypes(t, []typeRow{
		{"let f = fun x -> x x in 1", "", ""}, {"(fun f -> 1) (fun x -> x x)", "", ""}, {"fun f -> let g = (f, nil) in let z = f f in g", "", ""},
		{"fun x -> let y = x x in 1", "", ""}, {"if true then 1 else (fun y -> 1) (fun x -> x x)", "", ""}, {"rec f x = (x, f) in 1", "", ""}, {"rec f x = f :: nil in 1", "", ""},
		{"fun x -> fun y -> (x y, y x)", "", ""}, {"send self (recv, 1)", "", ""}, {"send self recv", "int", "a"}, {"recv recv", "", ""}, {"recv :: recv", "", ""},
		{"fun x -> (x :: nil) :: x :: nil", "", ""}, {"fun x -> fun y -> (x :: y :: nil, x :: (y :: nil) :: nil)", "", ""},
		{"let i = fun x -> x in i i", "a -> a", "b"}, {"let p = fun x -> (x, x) in p (p p)", "((a -> a * a) * (a -> a * a)) * ((a -> a * a) * (a -> a * a))", "b"},
		{"fun x -> fun y -> fun z -> x z (y z)", "(a -> b -> c) -> (a -> b) -> a -> c", "d"},
	})
}

// Which letters of a name of ExprLet or ExprRec are others each time.
func TestTypeOfLetters(t *testing.T) {
	asksTypes(t, []typeRow{
		{"let i = fun x -> x in (i 1, i true)", "int * bool", "a"}, {"rec i x = x in (i 1, i true)", "int * bool", "a"}, {"let n = nil in (1 :: n, true :: n)", "int list * bool list", "a"},
		{"let n = nil in (n, n)", "a list * b list", "c"}, {"rec f x = f x in (f, f 1)", "(a -> b) * c", "d"},
		{"fun x -> let y = x in (y, y)", "a -> a * a", "b"}, {"fun x -> let y = x in (y 1, y true)", "", ""}, {"fun x -> rec f y = x in (f 1, f true)", "a -> a * a", "b"},
		{"fun x -> rec f y = x in (f 1 + 1, if f true then 1 else 2)", "", ""}, {"fun x -> let f = fun y -> (x, y) in (f 1, f true)", "a -> (a * int) * (a * bool)", "b"},
		{"fun x -> let f = fun y -> x y in (f 1, f 2)", "(int -> a) -> a * a", "b"}, {"fun x -> let f = fun y -> x y in (f 1, f true)", "", ""},
		{"case nil of nil -> 1 | h :: t -> let g = h in g 1 + g 2", "int", "a"}, {"fun l -> case l of nil -> (1, 2) | h :: t -> let g = h in (g 1, g true)", "", ""},
		{"fun l -> case l of nil -> 1 | h :: t -> let u = t in case u of nil -> 2 | g :: s -> let v = g :: u in g", "int list -> int", "a"},
		{"rec f x = let g = f in (g 1, g true) in f", "", ""}, {"rec f x = let y = x in (y 1, y true) in f", "", ""},
		{"let f = fun x -> send self x in (f 1, f true)", "", ""}, {"let f = fun x -> send self x in (f 1, f 2)", "int * int", "int"}, {"rec f x = send self x in (f 1, f true)", "", ""},
		{"let r = recv in (r 1, r true)", "", ""}, {"let r = recv in (r 1, r 2)", "a * a", "int -> a"}, {"let f = fun x -> recv in (f 1, f true)", "a * a", "a"},
		{"let f = fun x -> (recv, x) in (f 1, f true)", "(a * int) * (a * bool)", "a"}, {"let r = recv in let s = r in (s 1, s true)", "", ""},
		{"let i = fun x -> x in let j = i in (j 1, j true)", "int * bool", "a"}, {"let i = fun x -> x in fun z -> let j = i in (j 1, j true)", "a -> int * bool", "b"},
		{"let n = nil in let m = n in (1 :: m, true :: m)", "int list * bool list", "a"},
		{"let n = nil in let a = send self n in (1 :: n, true :: n)", "int list * bool list", "a list"}, {"let n = send self nil in recv", "a list", "a list"},
		{"let x = (let y = recv in fun z -> y) 1 in (x 1, x true)", "", ""}, {"fun x -> fun x -> let y = x in (y 1, y 2)", "a -> (int -> b) -> b * b", "c"},
		{"fun x -> let y = fun x -> x in (y 1, y true)", "a -> int * bool", "b"}, {"let x = fun x -> x in let x = x x in (x 1, x true)", "int * bool", "a"},
		{"let x = (fun y -> y) (fun y -> y) in (x 1, x true)", "int * bool", "a"}, {"let f = fun x -> x in let g = send self (f recv) in f", "a -> a", "b"},
		{"fun x -> let y = (let z = x in z) in (y 1, y true)", "", ""}, {"let x = nil in let y = send self x in let z = recv in (1 :: z, true :: z)", "", ""},
	})
}

// M is one in all of an expression, whoever tells it.
func TestTypeOfTold(t *testing.T) {
	asksTypes(t, []typeRow{
		{"(send self 1, send self 2)", "int * int", "int"}, {"(send self 1, send self true)", "", ""}, {"(recv + 1, if recv then 1 else 2)", "", ""}, {"if recv then 1 else recv", "", ""},
		{"(send self nil, send self (1 :: nil))", "int * int", "int list"}, {"(recv, send self 1)", "int * int", "int"}, {"(send self true, recv)", "int * bool", "bool"},
		{"spawn (fun x -> recv)", "pid", "int"}, {"(spawn (fun x -> recv), send self true)", "", ""}, {"fst recv", "a", "a * b"}, {"(fst recv, recv)", "a * (a * b)", "a * b"},
		{"fun x -> if true then x else recv", "a -> a", "a"}, {"case recv of nil -> 1 | h :: t -> h", "int", "int list"}, {"(fun x -> 1) recv", "int", "a"},
		{"let f = fun x -> send self (x, nil) in f true", "int", "bool * a list"}, {"(nil, recv)", "a list * b", "b"}, {"fun f -> send self (f (fun x -> x))", "((a -> a) -> b) -> int", "b"},
		{"send self (fun x -> fun y -> (x, nil))", "int", "a -> b -> a * c list"}, {"(fun x -> x, send self nil)", "(a -> a) * int", "b list"},
		{"let a = send recv 1 in a", "", ""}, {"send recv recv", "int", "pid"}, {"send self (send self 1)", "int", "int"}, {"send self (send self true)", "", ""}, {"link recv", "int", "pid"}, {"out recv", "int", "int"},
	})
}

// What has free names has no type.
func TestTypeOfFree(t *testing.T) {
	for _, s := range []string{"x", "fun x -> y", "let x = x in 1", "rec f x = 1 in x", "case h of nil -> 1 | h :: t -> 1", "case nil of nil -> t | h :: t -> 1", "(fun x -> x, x)", "let x = 1 in f x"} {
		asksTypes(t, []typeRow{{text: s}})
	}
	for i, e := range wrongExprs() {
		if s, m, ok := impl.TypeOf(e); s != "" || m != "" || ok {
			t.Errorf("wrong expression %d: %q %q %v", i, s, m, ok)
		}
	}
}

// doubled binds p, q, r and s, of 3, 7, 15 and 31 parts.
const doubled = "let p = (1, 1) in let q = (p, p) in let r = (q, q) in let s = (r, r) in "

// sized is the text of an expression whose type has just so many parts, where doubled is around it, and of that type.
func sized(parts int) (string, string) {
	names := []struct {
		name  string
		parts int
	}{{"s", 31}, {"r", 15}, {"q", 7}, {"p", 3}, {"1", 1}}
	if parts == 1 {
		return "1", "int"
	}
	if parts%2 == 0 {
		e, k := sized(parts - 1)
		return "(" + e + " :: nil)", inParts(k) + " list"
	}
	for _, n := range names {
		if n.parts == parts {
			_, half := sized((parts - 1) / 2)
			return n.name, inParts(half) + " * " + inParts(half)
		}
		if n.parts < parts-1 {
			_, left := sized(n.parts)
			e, right := sized(parts - 1 - n.parts)
			return "(" + n.name + ", " + e + ")", inParts(left) + " * " + inParts(right)
		}
	}
	return "", ""
}

// inParts is a type in parentheses, if it is a pair outside.
func inParts(k string) string {
	if typeTree(k).sign == "*" {
		return "(" + k + ")"
	}
	return k
}

// Types of TypeMax parts, and of one more, wherever they are bounded.
func TestTypeOfSizes(t *testing.T) {
	for parts := 1; parts <= impl.TypeMax; parts++ {
		e, k := sized(parts)
		if partsIn(typeTree(k)) != parts {
			t.Fatalf("%q has not %d parts", k, parts)
		}
		asksTypes(t, []typeRow{{doubled + e, k, "a"}, {doubled + "let f = " + e + " in 2", "int", "a"}, {doubled + "send self " + e, "int", k}})
	}
	most, _ := sized(impl.TypeMax)
	more, _ := sized(impl.TypeMax + 1)
	body, _ := sized(impl.TypeMax - 2)
	over, _ := sized(impl.TypeMax - 1)
	asksTypes(t, []typeRow{
		{doubled + more, "", ""}, {doubled + "send self " + more, "", ""}, {doubled + "let f = " + more + " in 2", "", ""},
		{doubled + "rec f x = " + body + " in 2", "int", "a"}, {doubled + "rec f x = " + over + " in 2", "", ""}, {doubled + "let f = fun x -> " + over + " in 2", "", ""},
		{doubled + "(fun x -> 2) " + more, "int", "a"}, {doubled + "fst (2, " + more + ")", "int", "a"}, {doubled + "case " + most + " :: nil of nil -> 2 | h :: t -> 3", "int", "a"},
		{doubled + "(fun x -> let f = x in 2) " + more, "int", "a"}, {doubled + "(fun x -> let f = (x, 1) in fst f) " + more, "", ""},
		{doubled + "case " + most + " :: nil of nil -> 2 | h :: t -> let f = h in 3", "int", "a"}, {doubled + "case " + more + " :: nil of nil -> 2 | h :: t -> let f = h in 3", "", ""},
		{doubled + "case " + most + " :: nil of nil -> 2 | h :: t -> let f = t in 3", "", ""}, {doubled + "(fun x -> fun y -> 2) " + more + " " + more, "int", "a"},
		{doubled + "(fun x -> let f = x in if true then x else " + more + ", 2)", "", ""}, {doubled + "fst (2, (fun x -> let f = x in if true then x else " + more + "))", "int", "a"},
		{doubled + "fst (2, (fun x -> (if true then x else " + more + ", let f = x in f)))", "", ""}, {doubled + "fst (2, (fun x -> (let f = x in f, if true then x else " + more + ")))", "int", "a"},
	})
}

// What is known of a part is known in those behind it, and not ahead of it: of A of ExprApp, of ExprCase, of what is told.
func TestTypeOfKnown(t *testing.T) {
	w60, _ := sized(impl.TypeMax - 4)
	w61, _ := sized(impl.TypeMax - 3)
	w62, _ := sized(impl.TypeMax - 2)
	asksTypes(t, []typeRow{
		{doubled + "fun x -> x (let f = (x, " + w60 + ") in 3)", "(int -> a) -> a", "b"}, {doubled + "fun x -> x (let f = (x, " + w61 + ") in 3)", "", ""},
		{doubled + "fun x -> let f = (x, " + w62 + ") in x 3", "(int -> a) -> a", "b"},
		{doubled + "fun x -> case x of nil -> (let f = (x, " + w61 + ") in 3) | h :: t -> 4", "a list -> int", "b"},
		{doubled + "fun x -> case x of nil -> (let f = (x, " + w62 + ") in 3) | h :: t -> 4", "", ""},
		{doubled + "(send self (1, 2), let f = (recv, " + w60 + ") in 3)", "int * int", "int * int"}, {doubled + "(send self (1, 2), let f = (recv, " + w61 + ") in 3)", "", ""},
		{doubled + "(let f = (recv, " + w62 + ") in 3, send self (1, 2))", "int * int", "int * int"},
	})
}

// free is a text around an expression in which g is of any type, and h of any two.
const free = "rec f x = f x in let g = f 0 in let h = (g, g) in "

// lettered is the text of an expression whose type has just so many letters, where free is around it.
func lettered(letters int) string {
	switch letters {
	case 1:
		return "g"
	case 2:
		return "h"
	}
	half := letters / 4 * 2
	if half == 0 {
		half = 2
	}
	return "(" + lettered(half) + ", " + lettered(letters-half) + ")"
}

// 26 letters, and one more, in the type and in M.
func TestTypeOfManyLetters(t *testing.T) {
	names := map[int]string{}
	for n := 1; n <= 26; n++ {
		s, m, ok := impl.TypeOf(mustRead(t, free+"let o = send self 1 in "+lettered(n)))
		if !ok || m != "int" || written(typeTree(s), map[int]string{}) != s {
			t.Fatalf("%d letters: %q %q %v", n, s, m, ok)
		}
		clear(names)
		written(typeTree(s), names)
		if len(names) != n {
			t.Fatalf("%d letters: %q", n, s)
		}
		if s, m, ok = impl.TypeOf(mustRead(t, free+lettered(n))); ok != (n < 26) || ok && m != string(rune('a'+n)) || !ok && s+m != "" {
			t.Fatalf("%d letters, and that of M: %q %q %v", n, s, m, ok)
		}
		if s, m, ok = impl.TypeOf(mustRead(t, free+"send self "+inBrackets(lettered(n)))); !ok || s != "int" || strings.Count(m, "*") != n-1 {
			t.Fatalf("%d letters of M: %q %q %v", n, s, m, ok)
		}
	}
	for _, s := range []string{free + "let o = send self 1 in " + lettered(27), free + "send self " + lettered(27), free + "(" + lettered(20) + ", send self " + lettered(7) + ")"} {
		asksTypes(t, []typeRow{{text: s}})
	}
	if s, m, ok := impl.TypeOf(mustRead(t, free+"("+lettered(20)+", send self "+lettered(6)+")")); !ok || !strings.Contains(m, "z") || strings.Contains(s, "u") {
		t.Errorf("20 letters and 6 of M: %q %q %v", s, m, ok)
	}
	asksTypes(t, []typeRow{{free + "let o = " + lettered(27) + " in 1", "int", "a"}})
}

// inBrackets is a text in parentheses, if it is of more than one word.
func inBrackets(s string) string {
	if len(s) > 1 && s[0] != '(' {
		return "(" + s + ")"
	}
	return s
}

// allOf are all expressions of just so many parts, of a few leaves, names and kinds.
func allOf(parts int) []impl.Expr {
	if parts == 1 {
		return []impl.Expr{number(1), truth(1), variable("x"), variable("y"), expr(impl.ExprNil), expr(impl.ExprSelf), expr(impl.ExprRecv)}
	}
	var list []impl.Expr
	for _, a := range allOf(parts - 1) {
		list = append(list, function("x", a), function("y", a), expr(impl.ExprFst, a), expr(impl.ExprSnd, a), expr(impl.ExprSpawn, a), expr(impl.ExprOut, a), expr(impl.ExprLink, a))
	}
	for n := 1; n < parts-1; n++ {
		for _, a := range allOf(n) {
			for _, b := range allOf(parts - 1 - n) {
				kids := []impl.Expr{a, b}
				list = append(list, expr(impl.ExprApp, kids...), letIn("x", a, b), expr(impl.ExprPair, kids...), expr(impl.ExprCons, kids...), expr(impl.ExprSend, kids...),
					operation(impl.OpAdd, a, b), operation(impl.OpLess, a, b), impl.Expr{Kind: impl.ExprRec, Name: "x", Tail: "y", Kids: kids})
			}
		}
	}
	if parts == 4 {
		for _, a := range allOf(1) {
			for _, b := range allOf(1) {
				for _, c := range allOf(1) {
					list = append(list, expr(impl.ExprIf, a, b, c), impl.Expr{Kind: impl.ExprCase, Name: "x", Tail: "y", Kids: []impl.Expr{a, b, c}})
				}
			}
		}
	}
	return list
}

// someClosed are expressions without free names, that are bound by functions around them; few have a type.
func someClosed(seed int64, count int) []impl.Expr {
	var list []impl.Expr
	for i := int64(0); len(list) < count; i++ {
		for _, e := range smallExprs(seed+i, count) {
			for _, name := range freeNames(e) {
				e = function(name, e)
			}
			if impl.ExprOk(e) {
				list = append(list, e)
			}
		}
	}
	return list[:count]
}

// TypeOf against types that are found in another way, of all small expressions, and of many others.
func TestTypeOfGuessed(t *testing.T) {
	list := append(typedExprs(61, 3000, true), typedExprs(62, 1000, false)...)
	for parts := 1; parts <= 4; parts++ {
		list = append(list, allOf(parts)...)
	}
	for _, e := range someClosed(63, 20000) {
		list = append(list, e, function("x", e), letIn("x", e, apply(variable("x"), variable("x"))), letIn("x", e, expr(impl.ExprPair, variable("x"), variable("x"))))
	}
	typed := 0
	for _, e := range list {
		if !impl.ExprOk(e) {
			continue
		}
		s, m, ok := impl.TypeOf(e)
		kind, told, has := typeGuessed(e)
		if s != kind || m != told || ok != has {
			t.Fatalf("%s: %q %q %v, want %q %q %v", impl.ExprPut(e), s, m, ok, kind, told, has)
		}
		if ok {
			typed++
		}
	}
	if typed < 10000 {
		t.Errorf("%d of %d have a type", typed, len(list))
	}
}

// withTypes are expressions that have a type, of all sizes.
func withTypes(seed int64, count int) []impl.Expr {
	list := typedExprs(seed, count, true)
	list = append(list, typedExprs(seed+1, count/2, false)...)
	list = append(list, allOf(1)...)
	list = append(list, allOf(2)...)
	list = append(list, allOf(3)...)
	list = append(list, someClosed(seed+2, count)...)
	var out []impl.Expr
	for _, e := range list {
		if _, _, ok := impl.TypeOf(e); ok {
			out = append(out, e)
		}
	}
	return out
}

// P9: a type does not hang on names that are bound, and is written as types are; there are no free names.
func TestTypeOfPromise(t *testing.T) {
	r := rand.New(rand.NewSource(71))
	for _, e := range withTypes(72, 2000) {
		s, m, _ := impl.TypeOf(e)
		for _, like := range []impl.Expr{impl.NameTidy(e), renamed(r, e)} {
			if s2, m2, ok := impl.TypeOf(like); !ok || s2 != s || m2 != m {
				t.Fatalf("%s: %q %q, but %s: %q %q", impl.ExprPut(e), s, m, impl.ExprPut(like), s2, m2)
			}
		}
		if len(impl.NameFree(e)) > 0 {
			t.Fatalf("%s has free names", impl.ExprPut(e))
		}
		tidy, ok := impl.TypeTidy(s)
		told, okM := impl.TypeTidy(m)
		if !ok || !okM || tidy != s || written(typeTree(m), map[int]string{}) != told || !impl.TypeMore(m, told) || !impl.TypeMore(told, m) {
			t.Fatalf("%s: %q %q, tidy %q %q", impl.ExprPut(e), s, m, tidy, told)
		}
	}
}

// noLetters says whether a type has no letters.
func noLetters(s string) bool {
	found := map[int]bool{}
	lettersIn(typeTree(s), found)
	return len(found) == 0
}

// P10: a pair has the types of its parts, if these tell the same.
func TestTypeOfPairs(t *testing.T) {
	pairs, apart := 0, 0
	list := withTypes(73, 1500)
	for i := 0; i < 10*len(list); i++ {
		x, y := list[i%len(list)], list[(i*7+i/len(list)+1)%len(list)]
		e := expr(impl.ExprPair, x, y)
		if !impl.ExprOk(e) {
			continue
		}
		a, m, _ := impl.TypeOf(x)
		b, n, _ := impl.TypeOf(y)
		s, told, ok := impl.TypeOf(e)
		if !noLetters(a) || !noLetters(b) || !noLetters(m) || !noLetters(n) {
			continue
		}
		want := written(signed("*", typeTree(a), typeTree(b)), map[int]string{})
		fits := m == n && partsIn(typeTree(want)) <= impl.TypeMax
		if ok != fits || ok && (s != want || told != m) {
			t.Fatalf("%s: %q %q, of %q %q and %q %q", impl.ExprPut(e), s, told, a, m, b, n)
		}
		if ok {
			pairs++
		} else {
			apart++
		}
	}
	if pairs < 50 || apart < 50 {
		t.Errorf("%d pairs, %d apart", pairs, apart)
	}
}

// P50: a name has the type of what it stands for, and so has what is given back.
func TestTypeOfNamed(t *testing.T) {
	same := function("x", variable("x"))
	for _, e := range withTypes(74, 2000) {
		s, m, _ := impl.TypeOf(e)
		for _, other := range []impl.Expr{letIn("x", e, variable("x")), apply(same, e), letIn("y", same, apply(variable("y"), e))} {
			if s2, m2, ok := impl.TypeOf(other); impl.ExprOk(other) && (!ok || s2 != s || m2 != m) {
				t.Fatalf("%s: %q %q, but %s: %q %q %v", impl.ExprPut(e), s, m, impl.ExprPut(other), s2, m2, ok)
			}
		}
	}
}

func TestTypeTidyTable(t *testing.T) {
	rows := [][2]string{
		{"int", "int"}, {"bool", "bool"}, {"pid", "pid"}, {"z", "a"}, {"  q  ", "a"}, {"(((int)))", "int"}, {"a->b", "a -> b"}, {"b -> a", "a -> b"}, {"b -> b -> a", "a -> a -> b"},
		{"a -> (b -> c)", "a -> b -> c"}, {"(a -> b) -> c", "(a -> b) -> c"}, {"((a)->(b))->c", "(a -> b) -> c"}, {"a*b", "a * b"}, {"(a * b) * c", "(a * b) * c"}, {"a * (b * c)", "a * (b * c)"},
		{"a * b -> c * d", "a * b -> c * d"}, {"a * (b -> c)", "a * (b -> c)"}, {"(a -> b) * c", "(a -> b) * c"}, {"a -> b * c", "a -> b * c"}, {"a -> (b * c)", "a -> b * c"},
		{"a list", "a list"}, {"a list list", "a list list"}, {"(a list)list", "a list list"}, {"(a * b) list", "(a * b) list"}, {"a * b list", "a * b list"}, {"a list * b", "a list * b"},
		{"(a -> b) list", "(a -> b) list"}, {"a -> b list", "a -> b list"}, {"(int)list", "int list"}, {"int list list list", "int list list list"}, {"c list -> b * a -> c", "a list -> b * c -> a"},
		{"x -> y -> x -> z", "a -> b -> a -> c"}, {"((z) -> (b list) * (int -> q)) -> z", "(a -> b list * (int -> c)) -> a"}, {"l list", "a list"},
		{"(((a -> b) list -> c) * pid) list -> bool", "(((a -> b) list -> c) * pid) list -> bool"},
	}
	for _, row := range rows {
		if s, ok := impl.TypeTidy(row[0]); !ok || s != row[1] {
			t.Errorf("%q: %q %v, want %q", row[0], s, ok, row[1])
		}
	}
}

// wrongTypes are texts that are no types.
func wrongTypes() []string {
	list := []string{
		"", " ", "()", "(", ")", "(a", "a)", "a b", "int bool", "list", "list a", "a list b", "a * ", "* a", "a * b * c", "a * (b) * c", "a list * b * c", "a * b list * c", "a ->", "-> a", "a -> -> b", "a - > b", "a > b", "a - b",
		"A", "ab", "a1", "1", "1a", "Int", "integer", "int2", "lists", "alist", "a lists", "intlist", "a\tlist", "a\nlist", "\ta", "a, b", "a :: b", "a + b", "a | b", "a = b", "a\x00", "\xff", "fun", "nil", "(a)(b)", "a (list)", "(list)", "a -> list", "list list", "a ** b", "é", "_", "'a", "a.", "a->>b", "a<-b",
		strings.Repeat("(", 200) + "a" + strings.Repeat(")", 199), strings.Repeat("(", 640), strings.Repeat("a -> ", 127), strings.Repeat("a", 640),
		strings.Repeat(" ", 640) + "a", "a" + strings.Repeat(" ", 640), strings.Repeat("int -> ", 32) + "int", "a" + strings.Repeat(" list", 64), strings.Repeat("(", 320) + "a" + strings.Repeat(")", 320),
	}
	return list
}

func TestTypesWrong(t *testing.T) {
	for _, s := range wrongTypes() {
		if got, ok := impl.TypeTidy(s); got != "" || ok {
			t.Errorf("%q: %q %v", s, got, ok)
		}
		for _, other := range append(wrongTypes(), "a", "int -> b") {
			x, okX := impl.TypeMeet(s, other)
			y, okY := impl.TypeMeet(other, s)
			if x != "" || y != "" || okX || okY || impl.TypeMore(s, other) || impl.TypeMore(other, s) {
				t.Fatalf("%q and %q: %q %q", s, other, x, y)
			}
		}
	}
}

// Texts of 640 bytes and types of TypeMax parts are types, one more is none.
func TestTypesSizes(t *testing.T) {
	pad := strings.Repeat(" ", 639)
	for _, s := range []string{"a" + pad, pad + "a", strings.Repeat("(", 319) + "a" + strings.Repeat(")", 319) + " "} {
		got, ok := impl.TypeTidy(s)
		meet, okMeet := impl.TypeMeet(s, s)
		if len(s) != 640 || !ok || got != "a" || !okMeet || meet != "a" || !impl.TypeMore(s, s) {
			t.Errorf("%d bytes: %q %v %q %v", len(s), got, ok, meet, okMeet)
		}
		s += " "
		if got, ok := impl.TypeTidy(s); ok || got != "" || impl.TypeMore(s, "a") || impl.TypeMore("a", s) {
			t.Errorf("%d bytes: %q", len(s), got)
		}
		if got, ok := impl.TypeMeet(s, "a"); ok || got != "" {
			t.Errorf("%d bytes: %q", len(s), got)
		}
	}
	for parts := 1; parts < 80; parts++ {
		_, s := sized(parts)
		got, ok := impl.TypeTidy(s)
		meet, okMeet := impl.TypeMeet(s, "a")
		fits := parts <= impl.TypeMax
		if ok != fits || okMeet != fits || impl.TypeMore("a", s) != fits || impl.TypeMore(s, s) != fits || fits && (got != s || meet != s) {
			t.Fatalf("%d parts: %q %v", parts, got, ok)
		}
	}
}

// someTypeText is the text of a type of at most TypeMax parts, with more parentheses and blanks than it needs.
func someTypeText(r *rand.Rand, letters int) string {
	for {
		k := someTree(r, 1+r.Intn(12), letters)
		if partsIn(k) <= impl.TypeMax {
			return spread(r, k)
		}
	}
}

func someTree(r *rand.Rand, parts int, letters int) *kindOf {
	if parts <= 1 {
		if r.Intn(3) == 0 {
			return plain([]string{"int", "bool", "pid"}[r.Intn(3)])
		}
		return &kindOf{letter: 1 + r.Intn(letters)}
	}
	left := 1 + r.Intn(parts)
	switch r.Intn(4) {
	case 0:
		return signed("list", someTree(r, parts-1, letters))
	case 1:
		return signed("*", someTree(r, left, letters), someTree(r, parts-left, letters))
	}
	return signed("->", someTree(r, left, letters), someTree(r, parts-left, letters))
}

// spread writes a type, letters as they are.
func spread(r *rand.Rand, k *kindOf) string {
	gap := strings.Repeat(" ", r.Intn(3))
	text := k.sign
	part := func(i int, signs string) string {
		s := spread(r, k.parts[i])
		if p := k.parts[i].sign; p != "" && strings.Contains(signs, p) || r.Intn(8) == 0 {
			return "(" + gap + s + ")"
		}
		return s
	}
	switch k.sign {
	case "":
		text = string(rune('a' + k.letter - 1))
	case "->":
		text = part(0, "->") + gap + "->" + gap + part(1, "")
	case "*":
		text = part(0, "-> *") + gap + "*" + gap + part(1, "-> *")
	case "list":
		text = part(0, "-> *") + " " + gap + "list"
	}
	return text
}

// P11: a type's text is tidied once and for all.
func TestTypeTidyPromise(t *testing.T) {
	r := rand.New(rand.NewSource(81))
	for i := 0; i < 5000; i++ {
		s := someTypeText(r, 1+r.Intn(26))
		tidy, ok := impl.TypeTidy(s)
		again, okAgain := impl.TypeTidy(tidy)
		if want := written(typeTree(s), map[int]string{}); !ok || tidy != want || !okAgain || again != tidy {
			t.Fatalf("%q: %q %v, want %q; again %q %v", s, tidy, ok, want, again, okAgain)
		}
		if !impl.TypeMore(tidy, s) || !impl.TypeMore(s, tidy) {
			t.Fatalf("%q and %q are not as general", s, tidy)
		}
	}
}

// fitsInto says whether there are types for letters of x by which it is y.
func fitsInto(x *kindOf, y *kindOf, put map[int]string) bool {
	if x.sign == "" {
		text := asIs(y)
		if old, ok := put[x.letter]; ok {
			return old == text
		}
		put[x.letter] = text
		return true
	}
	if x.sign != y.sign || len(x.parts) != len(y.parts) {
		return false
	}
	for i := range x.parts {
		if !fitsInto(x.parts[i], y.parts[i], put) {
			return false
		}
	}
	return true
}

// asIs is a text that tells a type from all others.
func asIs(k *kindOf) string {
	if k.sign == "" {
		return string(rune('a' + k.letter - 1))
	}
	text := "(" + k.sign
	for _, part := range k.parts {
		text += " " + asIs(part)
	}
	return text + ")"
}

// meetOf is TypeMeet as the tests see it.
func meetOf(a string, b string) (text string, ok bool) {
	defer func() {
		if caught := recover(); caught != nil {
			if _, none := caught.(noType); !none {
				panic(caught)
			}
			text, ok = "", false
		}
	}()
	g := &guess{put: map[int]*kindOf{}}
	x := typeTree(a)
	g.equal(x, typeTree(b))
	k := g.now(x)
	if partsIn(k) > impl.TypeMax {
		return "", false
	}
	return written(k, map[int]string{}), true
}

func TestTypeMeetTable(t *testing.T) {
	rows := [][3]string{
		{"a", "a", "a"}, {"a", "b", "a"}, {"a", "int", "int"}, {"int", "int", "int"}, {"int", "bool", ""}, {"pid", "int", ""}, {"a", "a list", ""}, {"a list", "a", ""}, {"a", "b list", "a list"},
		{"a -> b", "b -> a", "a -> a"}, {"a -> b", "int -> c", "int -> a"}, {"a -> a", "int -> bool", ""}, {"a -> a", "b list -> c", "a list -> a list"}, {"a -> b", "b list -> a list", ""},
		{"a -> b list", "int -> c", "int -> a list"}, {"a * b", "a -> b", ""}, {"a list", "a * b", ""}, {"a list", "a -> a", ""}, {"a * b", "b * c", "a * a"}, {"a * b * c", "a", ""},
		{"a * (b * c)", "(b * c) * d", "(a * b) * (a * b)"}, {"a -> b -> c", "b -> c -> a", "a -> a -> a"}, {"a * a", "b * c list", "a list * a list"}, {"a * (a -> b)", "c list * (c -> d)", ""},
		{"a * (a list * b)", "b * c", "a * (a list * a)"}, {"(a -> b) * (b -> c)", "d * d", "(a -> a) * (a -> a)"}, {"(a -> b) * (b list -> c)", "d * d", "(a list -> a) * (a list -> a)"},
		{"a * (b * a)", "b list * (c list * d)", "a list list * (a list * a list list)"}, {"a list * b list", "b * a", ""}, {"(a * b) list", "(b * a) list", "(a * a) list"},
	}
	for _, row := range rows {
		for _, s := range [][2]string{{row[0], row[1]}, {row[1], row[0]}} {
			if got, ok := impl.TypeMeet(s[0], s[1]); got != row[2] || ok != (row[2] != "") {
				t.Errorf("%q and %q: %q %v, want %q", s[0], s[1], got, ok, row[2])
			}
		}
	}
}

// What meets may be greater than both: of TypeMax parts it is a type, of more, however many, it is none.
func TestTypeMeetGrows(t *testing.T) {
	chain := func(n int) (string, string) {
		left, right := "z", "z"
		for i := n - 1; i >= 0; i-- {
			l := string(rune('a' + i))
			next := string(rune('a' + i + 1))
			left = l + " * (" + left + ")"
			right = "(" + next + " * " + next + ") * (" + right + ")"
		}
		return left, right
	}
	for n := 1; n <= 12; n++ {
		left, right := chain(n)
		want, fits := meetOf(left, right)
		got, ok := impl.TypeMeet(left, right)
		if got != want || ok != fits || ok != (n < 5) {
			t.Errorf("%d: %q %v, want %q", n, got, ok, want)
		}
	}
	for parts := 33; parts <= impl.TypeMax+4; parts++ {
		_, a := sized(31)
		_, b := sized(parts - 32)
		got, ok := impl.TypeMeet("a * ("+b+")", "("+a+") * b")
		want := written(signed("*", typeTree(a), typeTree(b)), map[int]string{})
		if ok != (parts <= impl.TypeMax) || ok && got != want || !ok && got != "" {
			t.Errorf("%d parts: %q %v, want %q", parts, got, ok, want)
		}
	}
	if got, ok := impl.TypeMeet("a * a", "b * ("+strings.Repeat("int -> ", 15)+"int)"); !ok || partsIn(typeTree(got)) != 63 {
		t.Errorf("63 parts: %q %v", got, ok)
	}
	if got, ok := impl.TypeMeet("(a * a) list", "(b * ("+strings.Repeat("int -> ", 15)+"int)) list"); !ok || partsIn(typeTree(got)) != 64 {
		t.Errorf("64 parts: %q %v", got, ok)
	}
	if got, ok := impl.TypeMeet("(a * a) list list", "(b * ("+strings.Repeat("int -> ", 15)+"int)) list list"); ok || got != "" {
		t.Errorf("65 parts: %q %v", got, ok)
	}
	if got, ok := impl.TypeMeet("a * (b * c)", "(b * b) * ((c * c) * (a list))"); ok || got != "" {
		t.Errorf("holds itself: %q %v", got, ok)
	}
}

func TestTypeMoreTable(t *testing.T) {
	more := [][2]string{
		{"a", "int"}, {"a", "a"}, {"b", "a"}, {"a", "a list"}, {"a list", "a list list"}, {"a -> b", "c -> c"}, {"a -> b", "b -> a"}, {"a -> b", "b list -> a"}, {"a -> a", "int list -> int list"}, {"a * b", "(a -> b) * int"},
		{"a -> a", "b list -> b list"}, {"a -> b -> a", "b -> a -> b"}, {"int", "int"}, {"a -> int", "a list -> int"}, {"a * (b -> a)", "(c * d) * (e -> c * d)"}, {" a", "(int)"},
	}
	less := [][2]string{
		{"int", "a"}, {"a -> a", "a -> b"}, {"a -> a", "a -> a list"}, {"a list", "a"}, {"int", "bool"}, {"a * b", "a -> b"}, {"a list", "a * b"}, {"a -> a", "int -> bool"}, {"a -> int", "b -> c"}, {"a * b * c", "a"}, {"a * a", "(c -> d) * (c -> e)"},
		{"a -> a", "a list -> a"}, {"a -> b list", "a -> b"}, {"a list list", "a list"}, {"a -> b -> a", "a -> b -> b"},
	}
	for want, pairs := range map[bool][][2]string{true: more, false: less} {
		for _, p := range pairs {
			if impl.TypeMore(p[0], p[1]) != want {
				t.Errorf("%q more general than %q: not %v", p[0], p[1], want)
			}
		}
	}
}

// P12, P13: what two types both are, and which of two is more general.
func TestTypeMeetPromise(t *testing.T) {
	r := rand.New(rand.NewSource(82))
	met, general := 0, 0
	for i := 0; i < 30000; i++ {
		a, b, c := someTypeText(r, 1+r.Intn(5)), someTypeText(r, 1+r.Intn(5)), someTypeText(r, 1+r.Intn(3))
		got, ok := impl.TypeMeet(a, b)
		back, okBack := impl.TypeMeet(b, a)
		want, has := meetOf(a, b)
		if got != want || ok != has || back != got || okBack != ok {
			t.Fatalf("%q and %q: %q %v, back %q %v, want %q %v", a, b, got, ok, back, okBack, want, has)
		}
		if ok {
			met++
			if !impl.TypeMore(a, got) || !impl.TypeMore(b, got) {
				t.Fatalf("%q and %q are no more general than %q", a, b, got)
			}
		}
		tidy, _ := impl.TypeTidy(a)
		if itself, ok := impl.TypeMeet(a, a); !ok || itself != tidy {
			t.Fatalf("%q and itself: %q %v", a, itself, ok)
		}
		more := impl.TypeMore(a, b)
		if more != fitsInto(typeTree(a), typeTree(b), map[int]string{}) {
			t.Fatalf("%q more general than %q: %v", a, b, more)
		}
		if more {
			general++
		}
		tidyB, _ := impl.TypeTidy(b)
		if !impl.TypeMore("a", a) || !impl.TypeMore("q", b) || impl.TypeMore(a, tidyB) != more || impl.TypeMore(tidy, b) != more {
			t.Fatalf("%q and %q", a, b)
		}
		if more && impl.TypeMore(b, a) != (tidy == tidyB) {
			t.Fatalf("%q and %q are as general, and not the same", a, b)
		}
		if more && impl.TypeMore(b, c) && !impl.TypeMore(a, c) {
			t.Fatalf("%q, %q and %q", a, b, c)
		}
	}
	if met < 1000 || general < 1000 {
		t.Errorf("%d met, %d more general", met, general)
	}
}

// The functions of types answer at any text.
func TestTypesAtAnything(t *testing.T) {
	r := rand.New(rand.NewSource(83))
	bytes := []byte("abcint boolpidlist  ->->**(())\x00\xff\t")
	for i := 0; i < 20000; i++ {
		var s []byte
		for n := r.Intn(20); n > 0; n-- {
			s = append(s, bytes[r.Intn(len(bytes))])
		}
		got, ok := impl.TypeTidy(string(s))
		meet, okMeet := impl.TypeMeet(string(s), string(s))
		if ok != okMeet || ok != impl.TypeMore("a", string(s)) || got != meet || ok != (got != "") {
			t.Fatalf("%q: %q %v %q %v", s, got, ok, meet, okMeet)
		}
	}
}
