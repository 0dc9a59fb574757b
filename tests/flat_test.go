package tests

import (
	"math/rand"
	"slices"
	"strconv"
	"strings"
	"testing"

	"loop.example/ensemble/impl"
)

// asksFlat asks FlatOf, FlatSize and FlatRun of an expression that has a type against the words of chapter 19, told in a second way; P71 to P74.
func asksFlat(t *testing.T, e impl.Expr) []impl.Fun {
	t.Helper()
	funs := impl.FlatOf(e)
	if got, want := flatText(funs), flatSeen(e); got != want {
		t.Fatalf("%s:\n%swant\n%s", impl.ExprPut(e), got, want)
	}
	asksNamed(t, funs)
	places := map[string]int{}
	funsIn(e, "", places)
	ops, free := 0, 0
	for _, f := range funs {
		ops += len(f.Ops)
		free += f.Free
	}
	if len(funs) != len(places)+1 || !slices.Equal(impl.FlatSize(e), []int{len(funs), ops, free}) || !slices.Equal(impl.FlatSize(impl.NameTidy(e)), impl.FlatSize(e)) {
		t.Fatalf("%s: sizes %v, of %d functions, %d ops, %d values", impl.ExprPut(e), impl.FlatSize(e), len(funs), ops, free)
	}
	s, want := impl.FlatRun(e)
	if text, code := evalThought(e); text != s || code != want {
		t.Fatalf("%s: %q %d, want %q %d", impl.ExprPut(e), s, want, text, code)
	}
	if text, code := impl.EvalOf(e); text != s || code != want {
		t.Fatalf("%s: %q %d, by its meaning %q %d", impl.ExprPut(e), s, want, text, code)
	}
	if text, code := flatDone(funs); text != s || code != want {
		t.Fatalf("%s: %q %d, one by one %q %d", impl.ExprPut(e), s, want, text, code)
	}
	return funs
}

// asksNamed asks that each function names just what it has, and gives a value back at its end alone.
func asksNamed(t *testing.T, funs []impl.Fun) {
	t.Helper()
	if funs[0].Free != 0 {
		t.Fatalf("%s: the first has something with it", flatText(funs))
	}
	made := map[int]int{}
	for i, f := range funs {
		asked := map[int]bool{}
		for at, op := range f.Ops {
			switch op.Kind {
			case impl.FlatFree:
				asked[op.Num] = true
			case impl.FlatMake:
				made[op.Num]++
				if op.Num <= i || op.Num >= len(funs) {
					t.Fatalf("%s: %d makes %d", flatText(funs), i, op.Num)
				}
			case impl.FlatSelf:
				if i == 0 || op.Num != 0 {
					t.Fatalf("%s: %d names itself", flatText(funs), i)
				}
			}
			if (op.Kind == impl.CodeGive) != (at == len(f.Ops)-1) || op.Kind == impl.CodeVar || op.Kind == impl.CodeFun || op.Kind == impl.CodeRec {
				t.Fatalf("%s: %v in %d", flatText(funs), op, i)
			}
		}
		for n := range f.Free {
			if !asked[n] {
				t.Fatalf("%s: %d of %d is not asked for", flatText(funs), n, i)
			}
		}
		if len(asked) != f.Free {
			t.Fatalf("%s: %d asks for %v", flatText(funs), i, asked)
		}
	}
	for i := 1; i < len(funs); i++ {
		if made[i] != 1 {
			t.Fatalf("%s: %d is made by %d ops", flatText(funs), i, made[i])
		}
	}
}

// asksFlats asks what flat functions of texts are, those of one behind the other.
func asksFlats(t *testing.T, rows [][]string) {
	t.Helper()
	for _, row := range rows {
		if got, want := flatText(asksFlat(t, mustType(t, row[0]))), strings.Join(row[1:], "\n")+"\n"; got != want {
			t.Errorf("%s:\n%swant\n%s", row[0], got, want)
		}
	}
}

// Expressions without a function: all that is bound is bound in the first, its first name being at 0.
func TestFlatOfNone(t *testing.T) {
	asksFlats(t, [][]string{
		{"7", "0: num 7; give"}, {"true", "0: bool 1; give"}, {"nil", "0: nil; give"}, {"self", "0: self; give"}, {"recv", "0: recv; give"}, {"(1, out 2)", "0: num 1; num 2; out; pair; give"}, {"1 - 2 * 3", "0: num 1; num 2; num 3; op 3; op 2; give"},
		{"let a = 1 in a", "0: num 1; bind; loc 0; drop 1; give"}, {"let a = 1 in let b = a in a + b", "0: num 1; bind; loc 0; bind; loc 0; loc 1; op 1; drop 1; drop 1; give"},
		{"let a = 1 in let a = a in a", "0: num 1; bind; loc 0; bind; loc 1; drop 1; drop 1; give"}, {"(let a = 1 in a, let b = 2 in b)", "0: num 1; bind; loc 0; drop 1; num 2; bind; loc 0; drop 1; pair; give"},
		{"if 1 < 2 then 3 else 4", "0: num 1; num 2; op 5; if 6; num 3; go 7; num 4; give"}, {"let a = nil in case a of nil -> 1 | h :: t -> h", "0: nil; bind; loc 0; case 7; loc 1; drop 2; go 8; num 1; drop 1; give"},
		{"case 1 :: nil of nil -> nil | h :: t -> t", "0: num 1; nil; cons; case 7; loc 1; drop 2; go 8; nil; give"}, {"case 1 :: nil of nil -> nil | h :: t -> let h = 2 in h :: t", "0: num 1; nil; cons; case 12; num 2; bind; loc 2; loc 1; cons; drop 1; drop 2; go 13; nil; give"},
		{"send (fst (self, link self)) (snd (1, 2))", "0: self; self; link; pair; fst; num 1; num 2; pair; snd; send; give"},
	})
}

// One function: it is the expression, stands in it, has nothing with it, something, and the same twice.
func TestFlatOfOne(t *testing.T) {
	asksFlats(t, [][]string{
		{"fun x -> x", "0: make 1; give", "0: loc 0; give"}, {"fun x -> 1", "0: make 1; give", "0: num 1; give"}, {"(fun x -> x) 1", "0: make 1; num 1; call; give", "0: loc 0; give"}, {"spawn (fun x -> x)", "0: make 1; spawn; give", "0: loc 0; give"},
		{"let a = 1 in fun x -> a", "0: num 1; bind; loc 0; make 1; drop 1; give", "1: free 0; give"}, {"let a = 1 in fun x -> a + a", "0: num 1; bind; loc 0; make 1; drop 1; give", "1: free 0; free 0; op 1; give"}, {"let a = 1 in fun a -> a", "0: num 1; bind; make 1; drop 1; give", "0: loc 0; give"},
		{"let b = 1 in let a = 2 in fun x -> b + a", "0: num 1; bind; num 2; bind; loc 1; loc 0; make 1; drop 1; drop 1; give", "2: free 1; free 0; op 1; give"}, {"let a = 1 in let b = 2 in fun x -> b + a", "0: num 1; bind; num 2; bind; loc 0; loc 1; make 1; drop 1; drop 1; give", "2: free 1; free 0; op 1; give"},
		{"let v2 = 2 in let v10 = 10 in fun x -> v2 - v10", "0: num 2; bind; num 10; bind; loc 1; loc 0; make 1; drop 1; drop 1; give", "2: free 1; free 0; op 2; give"}, {"let b = 1 in let ab = 2 in let a = 3 in fun x -> b + ab + a", "0: num 1; bind; num 2; bind; num 3; bind; loc 2; loc 1; loc 0; make 1; drop 1; drop 1; drop 1; give", "3: free 2; free 1; op 1; free 0; op 1; give"},
		{"let a = 1 in let a = 2 in fun x -> a", "0: num 1; bind; num 2; bind; loc 1; make 1; drop 1; drop 1; give", "1: free 0; give"}, {"let a = 1 in (let a = 2 in a, fun x -> a)", "0: num 1; bind; num 2; bind; loc 1; drop 1; loc 0; make 1; pair; drop 1; give", "1: free 0; give"},
		{"let a = 1 in fun x -> let a = x in a", "0: num 1; bind; make 1; drop 1; give", "0: loc 0; bind; loc 1; drop 1; give"}, {"let a = 1 in fun x -> let a = a in a", "0: num 1; bind; loc 0; make 1; drop 1; give", "1: free 0; bind; loc 1; drop 1; give"}, {"let a = 1 in fun x -> (let a = x in a, a)", "0: num 1; bind; loc 0; make 1; drop 1; give", "1: loc 0; bind; loc 1; drop 1; free 0; pair; give"},
		{"fun x -> let x = x in x", "0: make 1; give", "0: loc 0; bind; loc 1; drop 1; give"}, {"fun x -> (let y = x in y, let z = x in z)", "0: make 1; give", "0: loc 0; bind; loc 1; drop 1; loc 0; bind; loc 1; drop 1; pair; give"},
		{"fun x -> if x then 1 else 2", "0: make 1; give", "0: loc 0; if 4; num 1; go 5; num 2; give"}, {"fun x -> let y = 1 in case x of nil -> y | h :: t -> y + h", "0: make 1; give", "0: num 1; bind; loc 0; case 9; loc 1; loc 2; op 1; drop 2; go 10; loc 1; drop 1; give"},
	})
}

// Functions in functions: a name is free in the inner one alone, in both, in one between them.
func TestFlatOfInner(t *testing.T) {
	asksFlats(t, [][]string{
		{"fun x -> fun y -> 1", "0: make 1; give", "0: make 2; give", "0: num 1; give"}, {"fun x -> fun y -> x", "0: make 1; give", "0: loc 0; make 2; give", "1: free 0; give"}, {"fun x -> fun x -> x", "0: make 1; give", "0: make 2; give", "0: loc 0; give"},
		{"let a = 1 in fun x -> fun y -> a", "0: num 1; bind; loc 0; make 1; drop 1; give", "1: free 0; make 2; give", "1: free 0; give"}, {"let a = 1 in fun x -> a + (fun y -> a) 2", "0: num 1; bind; loc 0; make 1; drop 1; give", "1: free 0; free 0; make 2; num 2; call; op 1; give", "1: free 0; give"},
		{"let a = 1 in fun x -> a + (fun y -> y) 2", "0: num 1; bind; loc 0; make 1; drop 1; give", "1: free 0; make 2; num 2; call; op 1; give", "0: loc 0; give"}, {"fun x -> let y = x in fun z -> y", "0: make 1; give", "0: loc 0; bind; loc 1; make 2; drop 1; give", "1: free 0; give"},
		{"let a = 1 in fun x -> let a = 2 in fun y -> a", "0: num 1; bind; make 1; drop 1; give", "0: num 2; bind; loc 1; make 2; drop 1; give", "1: free 0; give"}, {"let a = 1 in fun x -> (a, let a = 2 in fun y -> a)", "0: num 1; bind; loc 0; make 1; drop 1; give", "1: free 0; num 2; bind; loc 1; make 2; drop 1; pair; give", "1: free 0; give"},
		{"fun c -> fun a -> fun b -> (a, (b, c))", "0: make 1; give", "0: loc 0; make 2; give", "1: loc 0; free 0; make 3; give", "2: free 0; loc 0; free 1; pair; pair; give"}, {"fun a -> fun c -> fun b -> (a, (b, c))", "0: make 1; give", "0: loc 0; make 2; give", "1: free 0; loc 0; make 3; give", "2: free 0; loc 0; free 1; pair; pair; give"},
		{"let a = 1 in fun x -> let b = 2 in fun y -> let c = 3 in fun z -> (a, (b, (c, (x, y))))", "0: num 1; bind; loc 0; make 1; drop 1; give", "1: num 2; bind; free 0; loc 1; loc 0; make 2; drop 1; give", "3: num 3; bind; free 0; free 1; loc 1; free 2; loc 0; make 3; drop 1; give", "5: free 0; free 1; free 2; free 3; free 4; pair; pair; pair; pair; give"},
	})
}

// Functions that are named: by itself, within another function, not at all; Name and Tail hidden, and each where B stands.
func TestFlatOfRec(t *testing.T) {
	asksFlats(t, [][]string{
		{"rec f x = x in f", "0: make 1; bind; loc 0; drop 1; give", "0: loc 0; give"}, {"rec f x = f x in f", "0: make 1; bind; loc 0; drop 1; give", "0: me 0; loc 0; call; give"}, {"rec f x = 1 in 2", "0: make 1; bind; num 2; drop 1; give", "0: num 1; give"},
		{"rec f x = (fun y -> f y) x in f", "0: make 1; bind; loc 0; drop 1; give", "0: me 0; make 2; loc 0; call; give", "1: free 0; loc 0; call; give"}, {"rec f x = (fun y -> f x) 1 in f", "0: make 1; bind; loc 0; drop 1; give", "0: me 0; loc 0; make 2; num 1; call; give", "2: free 0; free 1; call; give"}, {"rec f a = (fun y -> f a) 1 in f", "0: make 1; bind; loc 0; drop 1; give", "0: loc 0; me 0; make 2; num 1; call; give", "2: free 1; free 0; call; give"},
		{"rec f x = let f = x in f in f", "0: make 1; bind; loc 0; drop 1; give", "0: loc 0; bind; loc 1; drop 1; give"}, {"rec f x = let x = 1 in f x in f", "0: make 1; bind; loc 0; drop 1; give", "0: num 1; bind; me 0; loc 1; call; drop 1; give"}, {"rec f x = (let f = 1 in f + x) + f x in f", "0: make 1; bind; loc 0; drop 1; give", "0: num 1; bind; loc 1; loc 0; op 1; drop 1; me 0; loc 0; call; op 1; give"},
		{"rec f x = (fun f -> f) x in f", "0: make 1; bind; loc 0; drop 1; give", "0: make 2; loc 0; call; give", "0: loc 0; give"}, {"rec f x = (fun x -> f x) x in f", "0: make 1; bind; loc 0; drop 1; give", "0: me 0; make 2; loc 0; call; give", "1: free 0; loc 0; call; give"}, {"rec f x = case x of nil -> 0 | f :: x -> f in f", "0: make 1; bind; loc 0; drop 1; give", "0: loc 0; case 5; loc 1; drop 2; go 6; num 0; give"},
		{"rec f x = rec g y = f (g (x + y)) in g x in f", "0: make 1; bind; loc 0; drop 1; give", "0: me 0; loc 0; make 2; bind; loc 1; loc 0; call; drop 1; give", "2: free 0; me 0; free 1; loc 0; op 1; call; call; give"}, {"rec f x = rec f y = f y in f x in f", "0: make 1; bind; loc 0; drop 1; give", "0: make 2; bind; loc 1; loc 0; call; drop 1; give", "0: me 0; loc 0; call; give"},
		{"let f = 1 in rec f x = f x in f", "0: num 1; bind; make 1; bind; loc 1; drop 1; drop 1; give", "0: me 0; loc 0; call; give"}, {"let f = 1 in let x = 2 in rec g y = f + x in g", "0: num 1; bind; num 2; bind; loc 0; loc 1; make 1; bind; loc 2; drop 1; drop 1; drop 1; give", "2: free 0; free 1; op 1; give"},
		{"rec f x = x in fun y -> f y", "0: make 1; bind; loc 0; make 2; drop 1; give", "0: loc 0; give", "1: free 0; loc 0; call; give"}, {"rec f x = fun f -> x in f", "0: make 1; bind; loc 0; drop 1; give", "0: loc 0; make 2; give", "1: free 0; give"},
		{"let g = 1 in rec f x = fun y -> g in rec g x = f in g", "0: num 1; bind; loc 0; make 1; bind; loc 1; make 3; bind; loc 2; drop 1; drop 1; drop 1; give", "1: free 0; make 2; give", "1: free 0; give", "1: free 0; give"},
	})
}

// In which order functions stand: each ahead of those in it, those in C of ExprCase ahead of those in B, those in A of ExprRec ahead of those in B.
func TestFlatOfOrder(t *testing.T) {
	asksFlats(t, [][]string{
		{"(fun x -> fun y -> 1, fun z -> 2)", "0: make 1; make 3; pair; give", "0: make 2; give", "0: num 1; give", "0: num 2; give"}, {"(fun a -> fun b -> fun c -> 3) (fun d -> 4)", "0: make 1; make 4; call; give", "0: make 2; give", "0: make 3; give", "0: num 3; give", "0: num 4; give"},
		{"case nil of nil -> (fun x -> 1) | h :: t -> fun y -> 2", "0: nil; case 5; make 1; drop 2; go 6; make 2; give", "0: num 2; give", "0: num 1; give"}, {"case (fun x -> 1) :: nil of nil -> (fun x -> 2) | h :: t -> fun x -> 3", "0: make 1; nil; cons; case 7; make 2; drop 2; go 8; make 3; give", "0: num 1; give", "0: num 3; give", "0: num 2; give"},
		{"case 5 :: nil of nil -> (fun x -> fun y -> 1) | h :: t -> fun x -> fun y -> h", "0: num 5; nil; cons; case 8; loc 0; make 1; drop 2; go 9; make 3; give", "1: free 0; make 2; give", "1: free 0; give", "0: make 4; give", "0: num 1; give"},
		{"fun l -> case l of nil -> (fun x -> l) | h :: t -> fun x -> t", "0: make 1; give", "0: loc 0; case 6; loc 2; make 2; drop 2; go 8; loc 0; make 3; give", "1: free 0; give", "1: free 0; give"}, {"if true then fun x -> 1 else fun x -> 2", "0: bool 1; if 4; make 1; go 5; make 2; give", "0: num 1; give", "0: num 2; give"},
		{"rec f x = (fun y -> 1) x in (fun z -> 2) (f 3)", "0: make 1; bind; make 3; loc 0; num 3; call; call; drop 1; give", "0: make 2; loc 0; call; give", "0: num 1; give", "0: num 2; give"}, {"let f = fun x -> fun y -> 1 in fun z -> f", "0: make 1; bind; loc 0; make 3; drop 1; give", "0: make 2; give", "0: num 1; give", "1: free 0; give"},
		{"rec f x = rec g y = (fun z -> 1) 2 in (fun z -> 3) 4 in fun z -> 5", "0: make 1; bind; make 5; drop 1; give", "0: make 2; bind; make 4; num 4; call; drop 1; give", "0: make 3; num 2; call; give", "0: num 1; give", "0: num 3; give", "0: num 5; give"},
	})
}

// Names that ExprLet, ExprCase and ExprRec bind within a function, behind some that were dropped, and functions that have functions with them.
func TestFlatOfBound(t *testing.T) {
	asksFlats(t, [][]string{
		{"fun x -> (let a = 1 in a) + (let b = 2 in b + x)", "0: make 1; give", "0: num 1; bind; loc 1; drop 1; num 2; bind; loc 1; loc 0; op 1; drop 1; op 1; give"}, {"fun x -> (case x of nil -> 0 | h :: t -> h) + (let b = 2 in b)", "0: make 1; give", "0: loc 0; case 5; loc 1; drop 2; go 6; num 0; num 2; bind; loc 1; drop 1; op 1; give"},
		{"fun x -> (rec f y = y in f x) + (let b = x in b)", "0: make 1; give", "0: make 2; bind; loc 1; loc 0; call; drop 1; loc 0; bind; loc 1; drop 1; op 1; give", "0: loc 0; give"}, {"fun x -> let a = (let b = x in b) in fun y -> a", "0: make 1; give", "0: loc 0; bind; loc 1; drop 1; bind; loc 1; make 2; drop 1; give", "1: free 0; give"},
		{"fun x -> case x of nil -> (let b = 1 in b) | h :: t -> (let b = h in b)", "0: make 1; give", "0: loc 0; case 8; loc 1; bind; loc 3; drop 1; drop 2; go 12; num 1; bind; loc 1; drop 1; give"}, {"fun x -> rec f y = x in rec g y = f y in g", "0: make 1; give", "0: loc 0; make 2; bind; loc 1; make 3; bind; loc 2; drop 1; drop 1; give", "1: free 0; give", "1: free 0; loc 0; call; give"},
		{"let f = fun x -> x in let g = fun x -> f x in fun x -> g (f x)", "0: make 1; bind; loc 0; make 2; bind; loc 0; loc 1; make 3; drop 1; drop 1; give", "0: loc 0; give", "1: free 0; loc 0; call; give", "2: free 1; free 0; loc 0; call; call; give"},
		{"let f = fun x -> x in let x = f 1 in fun y -> x", "0: make 1; bind; loc 0; num 1; call; bind; loc 1; make 2; drop 1; drop 1; give", "0: loc 0; give", "1: free 0; give"}, {"fun p -> spawn (fun x -> send p recv + link p)", "0: make 1; give", "0: loc 0; make 2; spawn; give", "1: free 0; recv; send; free 0; link; op 1; give"},
	})
}

// manyFree is an expression in which so many functions stand in each other, each of which binds two names, and in them one that names all of these.
func manyFree(t *testing.T, count int, with string) impl.Expr {
	t.Helper()
	ahead, behind := "", ""
	var names []string
	for i := range count {
		f, x := "f"+strconv.Itoa(i), "x"+strconv.Itoa(i)
		ahead, behind = ahead+"rec "+f+" "+x+" = ", " in "+f+" "+strconv.Itoa(i)+behind
		names = append(names, f, x)
	}
	for len(names) > 1 {
		var pairs []string
		for i := 0; i+1 < len(names); i += 2 {
			pairs = append(pairs, "("+names[i]+", "+names[i+1]+")")
		}
		names = append(pairs, names[len(names)/2*2:]...)
	}
	return mustType(t, ahead+"fst (1, "+strings.ReplaceAll(with, "ALL", names[0])+")"+behind)
}

// Functions as deep as can be, one with much with it, and expressions of NodeMax parts.
func TestFlatOfSizes(t *testing.T) {
	deep := ""
	for i := range impl.DeepMax - 1 {
		deep += "fun x" + strconv.Itoa(i) + " -> "
	}
	funs := asksFlat(t, mustType(t, deep+"x0"))
	if len(funs) != impl.DeepMax || flatText(funs[impl.DeepMax-1:]) != "1: free 0; give\n" {
		t.Error(flatText(funs))
	}
	for i, e := range []impl.Expr{manyFree(t, 6, "fun z -> ALL"), manyFree(t, 5, "(fun z -> ALL) 7")} {
		funs := asksFlat(t, e)
		if last := funs[len(funs)-1]; last.Free != 12-2*i {
			t.Error(flatText(funs))
		}
		if s, want := impl.FlatRun(e); s != "1" || want != impl.WantDone {
			t.Errorf("%s: %q %d", impl.ExprPut(e), s, want)
		}
	}
	list := func(count int) impl.Expr {
		e := expr(impl.ExprNil)
		for range count {
			e = expr(impl.ExprCons, function("x", variable("l")), e)
		}
		return e
	}
	first := expr(impl.ExprOut, expr(impl.ExprOut, operation(impl.OpAdd, number(1), number(2))))
	wide := letIn("z", first, function("l", letIn("y", expr(impl.ExprPair, list(8), list(8)), variable("l"))))
	if funs := asksFlat(t, wide); len(funs) != 18 || partsOf(wide) != impl.NodeMax {
		t.Error(flatText(funs))
	}
	full := 0
	for _, e := range withTypes(1900, 3000) {
		if partsOf(e) > impl.NodeMax-6 {
			full++
			asksFlat(t, e)
		}
	}
	if full < 5 {
		t.Errorf("%d are so large", full)
	}
}

// Each want, at the bounds of chapter 5: the values of functions that have something with them, too.
func TestFlatRunTable(t *testing.T) {
	done := impl.WantDone
	most := impl.CallMax - 2
	loop := func(stop string, n int) string {
		return "let k = 1 in rec f n = if n < k then " + stop + " else f (n - k) in f " + strconv.Itoa(n)
	}
	for _, row := range []struct {
		text  string
		value string
		want  int
	}{
		{"7", "7", done}, {"fun x -> x", "fun", done}, {"rec f x = x in f", "fun", done}, {"let a = 1 in fun x -> a", "fun", done}, {"(fun x -> fun y -> x - y) 5 2", "3", done}, {"let a = 1 in (fun a -> a) 2 + a", "3", done}, {"(fun x -> x, nil)", "(fun, nil)", done},
		{"let a = 5 in let f = fun x -> a - x in let a = 9 in f 2", "3", done}, {"let v2 = 7 in let v10 = 2 in (fun x -> v2 - v10) 0", "5", done}, {"let v10 = 2 in let v2 = 7 in (fun x -> v2 - v10) 0", "5", done},
		{"rec f n = if n < 1 then 1 else n * f (n - 1) in f 5", "120", done}, {"rec f x = fun y -> if x < 1 then y else f (x - 1) (y + y) in f 5 1", "32", done}, {"rec f x = (fun y -> if y < 1 then 0 else f (y - 1) + 2) x in f 6", "12", done}, {"rec f x = rec f y = y + 1 in f (f x) in f 3", "5", done},
		{"rec map f = fun l -> case l of nil -> nil | h :: t -> f h :: map f t in map (fun x -> x * x) (1 :: 2 :: 3 :: nil)", "1 :: 4 :: 9 :: nil", done}, {"let l = (fun x -> x + 1) :: (fun x -> x * 5) :: nil in case l of nil -> 0 | f :: t -> case t of nil -> 0 | g :: u -> f (g 3)", "16", done},
		{"let c = fun f -> fun g -> fun x -> f (g x) in let i = fun x -> x + 1 in c i (c i i) 4", "7", done}, {"case nil of nil -> 1 | h :: t -> 2", "1", done}, {"case 1 :: nil of nil -> nil | h :: t -> (h, t) :: nil", "(1, nil) :: nil", done},
		{"out 5 + out 6", "0", done}, {"let a = out 1 in a + 2", "2", done}, {"(fun x -> out x) 3", "0", done}, {"self", "pid 0", done}, {"fun x -> 1 / 0", "fun", done}, {"1 / 0", "", impl.WantDiv}, {"let z = 0 in (fun x -> x / z) 1", "", impl.WantDiv}, {"(1 / 0, recv)", "", impl.WantDiv},
		{"recv", "", impl.ExprRecv}, {"(recv, 1 / 0)", "", impl.ExprRecv}, {"spawn (fun x -> x)", "", impl.ExprSpawn}, {"send self 1", "", impl.ExprSend}, {"link self", "", impl.ExprLink}, {"let a = out 1 in (fun x -> send x a) self", "", impl.ExprSend}, {"out recv", "", impl.ExprRecv},
		{loop("7", most), "7", done}, {loop("7", most+1), "", impl.WantMore}, {"rec f x = f x in f 0", "", impl.WantMore}, {loop("1 / 0", most), "", impl.WantDiv}, {loop("1 / 0", most+1), "", impl.WantMore}, {loop("(fun x -> x) 1", most), "", impl.WantMore}, {loop("(fun x -> k) 1", most-1), "1", done}, {loop("recv", most), "", impl.ExprRecv}, {loop("recv", most+1), "", impl.WantMore},
		{"rec f n = if n < 1 then 0 else 1 + f (n - 1) in f " + strconv.Itoa(most), strconv.Itoa(most), done}, {"rec f n = if n < 1 then 0 else let o = out n in f (n - 1) in f " + strconv.Itoa(most), "0", done},
		{"rec l n = if n < 1 then nil else n :: l (n - 1) in (l 140, l 140)", "(" + listText(140, 11) + ", " + listText(140, 11) + ")", done},
	} {
		e := mustType(t, row.text)
		asksFlat(t, e)
		if s, want := impl.FlatRun(e); s != row.value || want != row.want {
			t.Errorf("%s: %q %d, want %q %d", row.text, s, want, row.value, row.want)
		}
	}
}

// listText is the text of a list that goes down from a number, of which so many are told.
func listText(from int, told int) string {
	text := ""
	for i := range told + 1 {
		text += strconv.Itoa(from-i) + " :: "
	}
	return text + "... :: ..."
}

// What has no type, is not ok, or has free names.
func TestFlatWrong(t *testing.T) {
	list := wrongExprs()
	for _, s := range []string{"x", "fun x -> y", "1 2", "1 + true", "fun x -> x x", "let f = f in 1", "rec f x = y in f", "if 1 then 2 else 3", "fst 1", "(1, x)", "fun x -> fun y -> z", "case 1 of nil -> 1 | h :: t -> 2"} {
		list = append(list, mustRead(t, s))
	}
	for i, e := range list {
		funs, size := impl.FlatOf(e), impl.FlatSize(e)
		if s, want := impl.FlatRun(e); len(funs) > 0 || len(size) > 0 || s != "" || want != impl.WantStuck {
			t.Errorf("wrong expression %d: %v %v %q %d", i, funs, size, s, want)
		}
	}
}

// P71 to P74, of all expressions that are so small, and of many others.
func TestFlatPromise(t *testing.T) {
	wants, inner, selves, functions := map[int]int{}, 0, 0, 0
	list := slices.Concat(withTypes(1903, 2500), plots(1904, 800))
	for _, e := range allOf(3) {
		if _, _, ok := impl.TypeOf(e); ok {
			list = append(list, e)
		}
	}
	for _, e := range list {
		funs := asksFlat(t, e)
		_, want := impl.FlatRun(e)
		wants[want]++
		functions += len(funs) - 1
		for _, f := range funs {
			if f.Free > 1 {
				inner++
			}
			if slices.Contains(f.Ops, impl.Op{Kind: impl.FlatSelf}) {
				selves++
			}
		}
	}
	for _, want := range []int{impl.WantMore, impl.WantDone, impl.WantDiv, impl.ExprSpawn, impl.ExprSend, impl.ExprRecv, impl.ExprLink} {
		if wants[want] < 10 {
			t.Errorf("%d was wanted %d times", want, wants[want])
		}
	}
	if functions < 5000 || inner < 300 || selves < 300 {
		t.Errorf("%d functions, %d with more than one value, %d name themselves", functions, inner, selves)
	}
}

// P73: names that are bound do not matter, be they tidied or others.
func TestFlatSizeNames(t *testing.T) {
	r := rand.New(rand.NewSource(1905))
	others := 0
	for _, e := range withTypes(1906, 1500) {
		other := renamed(r, e)
		if !impl.NameLike(e, other) {
			t.Fatalf("%s: %s", impl.ExprPut(e), impl.ExprPut(other))
		}
		if !sameExpr(e, other) {
			others++
		}
		if a, b := impl.FlatSize(e), impl.FlatSize(other); !slices.Equal(a, b) || len(a) != 3 {
			t.Fatalf("%s: %v, but %s: %v", impl.ExprPut(e), a, impl.ExprPut(other), b)
		}
	}
	if others < 500 {
		t.Errorf("%d have other names", others)
	}
}

// Nothing is written into an expression, and no two lists of an answer share memory, nor are kept.
func TestFlatKeepsArguments(t *testing.T) {
	for _, e := range withTypes(1907, 400) {
		spare := withSpare(e)
		funs, size := impl.FlatOf(spare), impl.FlatSize(spare)
		s, want := impl.FlatRun(spare)
		if !sameExpr(spare, e) || !spareKept(spare) {
			t.Fatalf("%s was written into", impl.ExprPut(e))
		}
		text := flatText(funs)
		for i := range funs {
			before := flatText(slices.Concat(funs[:i], funs[i+1:]))
			own := slices.Clone(funs[i].Ops)
			clear(funs[i].Ops[:cap(funs[i].Ops)])
			if flatText(slices.Concat(funs[:i], funs[i+1:])) != before {
				t.Fatalf("%s: lists share memory", impl.ExprPut(e))
			}
			copy(funs[i].Ops, own)
		}
		clear(funs[:cap(funs)])
		sizes := slices.Clone(size)
		clear(size[:cap(size)])
		if s2, want2 := impl.FlatRun(e); flatText(impl.FlatOf(e)) != text || !slices.Equal(impl.FlatSize(e), sizes) || s2 != s || want2 != want {
			t.Fatalf("%s: another answer", impl.ExprPut(e))
		}
	}
}
