package tests

import (
	"math/rand"
	"strings"
	"testing"

	"loop.example/ensemble/impl"
)

// How texts are read, told by how what is read is written.
func TestExprGetReads(t *testing.T) {
	pairs := [][2]string{
		{"0", "0"}, {"999999", "999999"}, {"  x  ", "x"}, {"abcd", "abcd"}, {"a1b2", "a1b2"},
		{"((((x))))", "x"}, {"f(x)(y)", "f x y"}, {"f x y", "f x y"}, {"f (x y)", "f (x y)"}, {"1 2", "1 2"},
		{"f 1 true nil self recv(x,y)", "f 1 true nil self recv (x, y)"},
		{"a+b-c", "a + b - c"}, {"a+(b-c)", "a + (b - c)"}, {"a*b/c", "a * b / c"}, {"a/(b*c)", "a / (b * c)"},
		{"a+b*c", "a + b * c"}, {"(a+b)*c", "(a + b) * c"}, {"a*b+c*d", "a * b + c * d"},
		{"a<b=c<d", "a < b = c < d"}, {"a<(b=c)", "a < (b = c)"}, {"((a<b)=c)", "a < b = c"},
		{"1+2::3*4::nil", "1 + 2 :: 3 * 4 :: nil"}, {"(1::nil)::nil", "(1 :: nil) :: nil"}, {"1::(2::nil)", "1 :: 2 :: nil"},
		{"1::nil=nil", "1 :: nil = nil"}, {"1::(nil=nil)", "1 :: (nil = nil)"},
		{"fst x y", "fst x y"}, {"(fst x)y", "fst x y"}, {"fst(x y)", "fst (x y)"}, {"fst(fst x)", "fst (fst x)"},
		{"send x y z", "send x y z"}, {"send(x y)z", "send (x y) z"}, {"out recv", "out recv"}, {"link self", "link self"},
		{"f(fst x)", "f (fst x)"}, {"spawn(fun x->x)", "spawn (fun x -> x)"},
		{"fun x->x y", "fun x -> x y"}, {"fun x->x<y", "fun x -> x < y"}, {"(fun x->x)y", "(fun x -> x) y"},
		{"let x=1=2 in x", "let x = 1 = 2 in x"}, {"let x=let y=1 in y in x", "let x = let y = 1 in y in x"},
		{"let x=1 in x+1", "let x = 1 in x + 1"}, {"(let x=1 in x)+1", "(let x = 1 in x) + 1"},
		{"rec f x=f x in f 1::nil", "rec f x = f x in f 1 :: nil"},
		{"if if a then b else c then d else e+1", "if if a then b else c then d else e + 1"},
		{"case case a of nil->b|h::t->c of nil->d|i::j->e", "case case a of nil -> b | h :: t -> c of nil -> d | i :: j -> e"},
		{"case a of nil->(case b of nil->c|h::t->d)|i::j->e", "case a of nil -> (case b of nil -> c | h :: t -> d) | i :: j -> e"},
		{"case a of nil->b|h::t->case c of nil->d|i::j->e", "case a of nil -> b | h :: t -> case c of nil -> d | i :: j -> e"},
		{"case a of nil->x::y<z|h::t->h::t", "case a of nil -> x :: y < z | h :: t -> h :: t"},
		{"(1,(2,3))", "(1, (2, 3))"}, {"((1,2),3)", "((1, 2), 3)"}, {"(fun x->x,fun y->y)", "(fun x -> x, fun y -> y)"},
		{"x-1", "x - 1"}, {"fun x->1", "fun x -> 1"},
	}
	for _, p := range pairs {
		e, ok := impl.ExprGet(p[0])
		if !ok || impl.ExprPut(e) != p[1] {
			t.Errorf("%q is %q %v, want %q", p[0], impl.ExprPut(e), ok, p[1])
		}
	}
}

func TestExprGetTree(t *testing.T) {
	x, y, z := variable("x"), variable("y"), variable("z")
	trees := map[string]impl.Expr{
		"x - y - z":   operation(impl.OpSub, operation(impl.OpSub, x, y), z),
		"x - y * z":   operation(impl.OpSub, x, operation(impl.OpMul, y, z)),
		"x < y = z":   operation(impl.OpSame, operation(impl.OpLess, x, y), z),
		"x :: y :: z": expr(impl.ExprCons, x, expr(impl.ExprCons, y, z)),
		"x y z":       expr(impl.ExprApp, expr(impl.ExprApp, x, y), z),
		"fst x y":     expr(impl.ExprApp, expr(impl.ExprFst, x), y),
		"send x y z":  expr(impl.ExprApp, expr(impl.ExprSend, x, y), z),
		"fun x -> y z": function("x",
			expr(impl.ExprApp, y, z)),
		"case x of nil -> y | a :: b -> z": {Kind: impl.ExprCase, Name: "a", Tail: "b", Kids: []impl.Expr{x, y, z}},
		"rec a b = x in y":                 {Kind: impl.ExprRec, Name: "a", Tail: "b", Kids: []impl.Expr{x, y}},
		"let a = x in y":                   {Kind: impl.ExprLet, Name: "a", Kids: []impl.Expr{x, y}},
	}
	for s, want := range trees {
		if e, ok := impl.ExprGet(s); !ok || !sameExpr(e, want) {
			t.Errorf("%q is %v %v", s, e, ok)
		}
	}
}

func TestExprGetRefuses(t *testing.T) {
	wrong := []string{
		"", " ", "()", "(", ")", "(x", "x)", "(x,)", "(,x)", "(x, y, z)", "x,y",
		"01", "00", "000000", "1000000", "0000001", "-1", "1a", "1x y", "x 1a", "+1", "x +", "x + + y", "* x", "x ** y",
		"abcde", "x abcde", "fun", "let", "rec", "in", "if", "then", "else", "case", "of", "fst", "snd", "spawn", "send", "out", "link",
		"send x", "fst fst x", "send fst x y", "f fst x", "x fun y -> y", "1 + fun x -> x", "x :: fun y -> y", "x < if a then b else c",
		"fun -> x", "fun x y -> x", "fun x = x", "fun x - > x", "fun 1 -> x", "fun in -> x", "fun abcde -> x", "fun x ->",
		"let x = 1", "let x = 1 in", "let x 1 in x", "let = 1 in x", "let x y = 1 in x", "let fst = 1 in 2",
		"rec f = 1 in f", "rec f f = 1 in 2", "rec f x 1 in f", "rec f x = 1", "rec f nil = 1 in f",
		"if a then b", "if a else b", "if a b else c", "if then b else c",
		"case a of nil -> b", "case a of h :: t -> b | nil -> c", "case a of nil -> b | h :: h -> c", "case a of nil -> b | h t -> c",
		"case a of nil -> b | 1 :: t -> c", "case a nil -> b | h :: t -> c", "case a of nil = b | h :: t -> c",
		"case a of nil -> fun x -> x | h :: t -> c", "case a of nil -> let x = 1 in x | h :: t -> c", "case a of nil -> if a then b else c | h :: t -> d",
		"x :", "x : : y", "x ::: y", "x :: ", ":: y", "x -> y", "x | y", "x > y", "x - > y", "x >= y", "x == y",
		"X", "x;", "x\ty", "x\ny", "x\x00", "\xff", "é", "x.y", "x'", "_", "\"x\"", "x\u00a0y", "[x]", "{x}", "x&y",
	}
	for _, s := range wrong {
		if e, ok := impl.ExprGet(s); ok || !isNothing(e) {
			t.Errorf("%q is read as %q %v", s, impl.ExprPut(e), ok)
		}
	}
}

func TestExprGetSizes(t *testing.T) {
	blanks := strings.Repeat(" ", impl.TextMax-1)
	if e, ok := impl.ExprGet(blanks + "x"); !ok || !sameExpr(e, variable("x")) {
		t.Error("a text of TextMax bytes is read")
	}
	for _, s := range []string{blanks + "x ", " " + blanks + "x", blanks + "xy"} {
		if e, ok := impl.ExprGet(s); ok || !isNothing(e) {
			t.Error("a text of a byte more is not read")
		}
	}
	around := impl.TextMax/2 - 1
	if e, ok := impl.ExprGet(strings.Repeat("(", around) + "xy" + strings.Repeat(")", around)); !ok || !sameExpr(e, variable("xy")) {
		t.Error("parentheses are no parts")
	}
	for _, s := range []string{strings.Repeat("(", impl.TextMax), strings.Repeat(")", impl.TextMax), strings.Repeat("(1,", 133), strings.Repeat("fun x->", 57), strings.Repeat("if ", 133)} {
		if e, ok := impl.ExprGet(s); ok || !isNothing(e) {
			t.Errorf("%q is none", s)
		}
	}
	for others, want := range map[int]bool{impl.DeepMax - 1: true, impl.DeepMax: false} {
		e, ok := impl.ExprGet(strings.Repeat("fst(", others) + "x" + strings.Repeat(")", others))
		if ok != want || ok && !sameExpr(e, chained(others)) || !ok && !isNothing(e) {
			t.Errorf("a part in %d others: %v", others, ok)
		}
	}
	for parts, want := range map[int]bool{impl.NodeMax: true, impl.NodeMax + 1: false} {
		s := plainSource(grown(parts))
		if len(s) > impl.TextMax {
			t.Fatal("too long as it stands")
		}
		e, ok := impl.ExprGet(s)
		if ok != want || ok && !sameExpr(e, grown(parts)) || !ok && !isNothing(e) {
			t.Errorf("an expression of %d parts: %v", parts, ok)
		}
	}
}

// plainSource writes ExprVar, ExprFun and ExprApp with all parentheses, however many parts there are.
func plainSource(e impl.Expr) string {
	switch e.Kind {
	case impl.ExprFun:
		return "(fun " + e.Name + "->" + plainSource(e.Kids[0]) + ")"
	case impl.ExprApp:
		return "(" + plainSource(e.Kids[0]) + plainSource(e.Kids[1]) + ")"
	}
	return "(" + e.Name + ")"
}

// What is read must not be longer when it is written, though it was short enough as it stood.
func TestExprGetOwnText(t *testing.T) {
	for bytes, want := range map[int]bool{impl.TextMax: true, impl.TextMax + 1: false} {
		e := longText(t, bytes)
		s := strings.ReplaceAll(longSource(e), ", ", ",")
		if len(s) > impl.TextMax {
			t.Fatal("too long as it stands")
		}
		got, ok := impl.ExprGet(s)
		if ok != want || ok && !sameExpr(got, e) || !ok && !isNothing(got) {
			t.Errorf("own text of %d bytes: %v", bytes, ok)
		}
	}
}

// longSource writes ExprIf, ExprPair and ExprNum, however long.
func longSource(e impl.Expr) string {
	switch e.Kind {
	case impl.ExprIf:
		return "if " + longSource(e.Kids[0]) + " then " + longSource(e.Kids[1]) + " else " + longSource(e.Kids[2])
	case impl.ExprPair:
		return "(" + longSource(e.Kids[0]) + ", " + longSource(e.Kids[1]) + ")"
	}
	return impl.ExprPut(e)
}

// textsToTry are texts of expressions, and such texts with something changed in them.
func textsToTry() []string {
	r := rand.New(rand.NewSource(5))
	pieces := []string{"fun", "let", "rec", "in", "if", "then", "else", "case", "of", "nil", "fst", "send", "true", "self", "x", "y", "12", "01", "->", "::", "(", ")", ",", "+", "-", "*", "/", "<", "=", "|", " ", "  ", ":", ">", "A", "\xc3"}
	var texts []string
	for _, e := range okExprs(6, 1500) {
		s := impl.ExprPut(e)
		texts = append(texts, s, strings.ReplaceAll(s, " + ", "+"), strings.ReplaceAll(s, " ", "  "))
		words := strings.Split(s, " ")
		words[r.Intn(len(words))] = pieces[r.Intn(len(pieces))]
		texts = append(texts, strings.Join(words, " "))
		if at := r.Intn(len(s) + 1); at < len(s) {
			texts = append(texts, s[:at]+s[at+1:], s[:at]+pieces[r.Intn(len(pieces))]+s[at:], s[at:], s[:at])
		}
	}
	for i := 0; i < 3000; i++ {
		s := ""
		for j := r.Intn(12); j >= 0; j-- {
			s += pieces[r.Intn(len(pieces))] + strings.Repeat(" ", r.Intn(2))
		}
		texts = append(texts, s)
	}
	return texts
}

// P2: what is read as an expression is one; blanks at the ends do not matter.
// P3: what stands between parentheses is what stands there.
func TestReadTwice(t *testing.T) {
	read := 0
	for _, s := range textsToTry() {
		e, ok := impl.ExprGet(s)
		if !ok {
			if !isNothing(e) {
				t.Errorf("%q: something beside false", s)
			}
			continue
		}
		read++
		if !impl.ExprOk(e) {
			t.Errorf("%q is read, and not ok", s)
		}
		if again, ok := impl.ExprGet(impl.ExprPut(e)); !ok || !sameExpr(again, e) {
			t.Errorf("%q is not read back", s)
		}
		for _, other := range []string{" " + s, s + " ", " " + s + " ", "(" + s + ")", "((" + s + "))", "( ( " + s + " ) )"} {
			again, ok := impl.ExprGet(other)
			if len(other) <= impl.TextMax && (!ok || !sameExpr(again, e)) {
				t.Errorf("%q is not as %q", other, s)
			}
			if len(other) > impl.TextMax && ok {
				t.Errorf("%q is too long", other)
			}
		}
	}
	if read < 4000 {
		t.Errorf("%d were read", read)
	}
}

// Where something is not one expression, parentheses around do not make it one.
func TestParenthesesMakeNone(t *testing.T) {
	for _, s := range []string{"", "1 +", "fun x", "x,y,z", "01"} {
		if e, ok := impl.ExprGet("((" + s + "))"); ok {
			t.Errorf("((%s)) is %q", s, impl.ExprPut(e))
		}
	}
}

func TestExprGetIsNewMemory(t *testing.T) {
	for _, s := range textsToTry()[:2000] {
		first, _ := impl.ExprGet(s)
		second, _ := impl.ExprGet(s)
		keepsToItself(t, "ExprGet", first, nil, nil)
		room := map[*impl.Expr]bool{}
		roomOf(first, room)
		if roomOf(second, room) {
			t.Fatalf("%q: two answers share memory", s)
		}
	}
}
