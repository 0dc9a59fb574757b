package tests

import (
	"strconv"
	"testing"

	"loop.example/ensemble/impl"
)

func TestNameOk(t *testing.T) {
	for _, s := range []string{"a", "z", "a0", "z9", "abcd", "a123", "funs", "inn", "ofx", "e", "tru", "v0", "nils"} {
		if !impl.NameOk(s) {
			t.Errorf("%q is a name", s)
		}
	}
	words := []string{"fun", "let", "rec", "in", "if", "then", "else", "case", "of", "nil", "fst", "snd", "true", "false", "spawn", "send", "self", "recv", "out", "link"}
	others := []string{"", "abcde", "0", "0a", "9abc", "A", "aB", "a b", " a", "a ", "a_", "a-", "é", "a\x00", "\xff", "a\n", "`", "{", "a{", "a/", "a:"}
	for _, s := range append(words, others...) {
		if impl.NameOk(s) {
			t.Errorf("%q is no name", s)
		}
	}
}

// oneOfEach is an expression of each kind, of ExprOp one of each op.
func oneOfEach() []impl.Expr {
	x, y, z := variable("x"), variable("y"), variable("z")
	list := []impl.Expr{
		number(12), {Kind: impl.ExprBool, Num: 1}, {Kind: impl.ExprBool}, variable("abcd"), function("a", x), expr(impl.ExprApp, x, y),
		{Kind: impl.ExprLet, Name: "a", Kids: []impl.Expr{x, y}},
		{Kind: impl.ExprRec, Name: "a", Tail: "b", Kids: []impl.Expr{x, y}},
		expr(impl.ExprIf, x, y, z), expr(impl.ExprPair, x, y), expr(impl.ExprFst, x), expr(impl.ExprSnd, x), expr(impl.ExprNil),
		expr(impl.ExprCons, x, y),
		{Kind: impl.ExprCase, Name: "a", Tail: "b", Kids: []impl.Expr{x, y, z}},
		expr(impl.ExprSpawn, x), expr(impl.ExprSend, x, y), expr(impl.ExprSelf), expr(impl.ExprRecv), expr(impl.ExprOut, x), expr(impl.ExprLink, x),
	}
	for op := impl.OpAdd; op <= impl.OpSame; op++ {
		list = append(list, operation(op, x, y))
	}
	return list
}

// textsOfEach are the texts of oneOfEach, and levelsOfEach their levels, by the table of chapter 1.
func textsOfEach() []string {
	return []string{
		"12", "true", "false", "abcd", "fun a -> x", "x y",
		"let a = x in y", "rec a b = x in y",
		"if x then y else z", "(x, y)", "fst x", "snd x", "nil",
		"x :: y",
		"case x of nil -> y | a :: b -> z",
		"spawn x", "send x y", "self", "recv", "out x", "link x",
		"x + y", "x - y", "x * y", "x / y", "x < y", "x = y",
	}
}

func levelsOfEach() []int {
	return []int{6, 6, 6, 6, 0, 5, 0, 0, 0, 6, 5, 5, 6, 2, 0, 5, 5, 6, 6, 5, 5, 3, 3, 4, 4, 1, 1}
}

// partLevels is of which level each part of an expression must be.
func partLevels(e impl.Expr) []int {
	switch e.Kind {
	case impl.ExprApp:
		return []int{5, 6}
	case impl.ExprFst, impl.ExprSnd, impl.ExprSpawn, impl.ExprOut, impl.ExprLink:
		return []int{6}
	case impl.ExprSend:
		return []int{6, 6}
	case impl.ExprCons:
		return []int{3, 2}
	case impl.ExprCase:
		return []int{0, 1, 0}
	case impl.ExprOp:
		own := []int{3, 3, 4, 4, 1, 1}[e.Num-1]
		return []int{own, own + 1}
	}
	return make([]int, len(e.Kids))
}

func TestEachKind(t *testing.T) {
	texts := textsOfEach()
	for i, e := range oneOfEach() {
		if !impl.ExprOk(e) {
			t.Errorf("%s is ok", texts[i])
		}
		if s := impl.ExprPut(e); s != texts[i] {
			t.Errorf("%q, want %q", s, texts[i])
		}
		if got, ok := impl.ExprGet(texts[i]); !ok || !sameExpr(got, e) {
			t.Errorf("%q is read as %v %v", texts[i], got, ok)
		}
	}
}

// P1, P2: each kind as each part of each kind has parentheses just where its level is lower.
func TestParenthesesByLevel(t *testing.T) {
	list, levels := oneOfEach(), levelsOfEach()
	for i, outer := range list {
		for place, least := range partLevels(outer) {
			for j, inner := range list {
				marked := withKid(outer, place, variable("mark"))
				e := withKid(outer, place, inner)
				part := impl.ExprPut(inner)
				if levels[j] < least {
					part = "(" + part + ")"
				}
				want := replaceWord(impl.ExprPut(marked), "mark", part)
				if s := impl.ExprPut(e); s != want {
					t.Errorf("kind %d in place %d of kind %d: %q, want %q", inner.Kind, place, list[i].Kind, s, want)
				}
				if got, ok := impl.ExprGet(want); !ok || !sameExpr(got, e) {
					t.Errorf("%q is read as %v %v", want, got, ok)
				}
			}
		}
	}
}

// withKid is an expression with another part at a place.
func withKid(e impl.Expr, place int, kid impl.Expr) impl.Expr {
	e.Kids = append([]impl.Expr{}, e.Kids...)
	e.Kids[place] = kid
	return e
}

// replaceWord puts a text in place of the one word there is.
func replaceWord(s string, word string, text string) string {
	for i := 0; i+len(word) <= len(s); i++ {
		if s[i:i+len(word)] == word {
			return s[:i] + text + s[i+len(word):]
		}
	}
	return s
}

func TestExprOkHasJustItsOwn(t *testing.T) {
	x := variable("x")
	for _, e := range oneOfEach() {
		names, kids := hasOf(e.Kind)
		var wrong []impl.Expr
		change := func(f func(e *impl.Expr)) {
			c := e
			c.Kids = append([]impl.Expr{}, e.Kids...)
			f(&c)
			wrong = append(wrong, c)
		}
		change(func(c *impl.Expr) { c.Kids = append(c.Kids, x) })
		change(func(c *impl.Expr) { c.Num = -1 })
		change(func(c *impl.Expr) { c.Num = 1000000 })
		change(func(c *impl.Expr) { c.Kind = 0 })
		change(func(c *impl.Expr) { c.Kind = -c.Kind })
		if kids > 0 {
			change(func(c *impl.Expr) { c.Kids = c.Kids[1:] })
			change(func(c *impl.Expr) { c.Kids = nil })
			change(func(c *impl.Expr) { c.Kids[kids-1] = impl.Expr{} })
		}
		if names < 2 {
			change(func(c *impl.Expr) { c.Tail = "t" })
		}
		for _, name := range []string{"", "a b", "abcde", "in", "Q"} {
			if names > 0 {
				change(func(c *impl.Expr) { c.Name = name })
			}
			if names > 1 {
				change(func(c *impl.Expr) { c.Tail = name })
			}
		}
		if names > 1 {
			change(func(c *impl.Expr) { c.Tail = c.Name })
		}
		if names == 0 {
			change(func(c *impl.Expr) { c.Name = "n" })
		}
		if e.Kind != impl.ExprNum && e.Kind != impl.ExprBool && e.Kind != impl.ExprOp {
			change(func(c *impl.Expr) { c.Num = 1 })
		}
		for _, c := range wrong {
			if impl.ExprOk(c) || impl.ExprPut(c) != "" {
				t.Errorf("%v is not ok", c)
			}
			if impl.ExprOk(expr(impl.ExprFst, c)) || impl.ExprOk(expr(impl.ExprPair, x, c)) {
				t.Errorf("a part %v is not ok", c)
			}
		}
	}
}

func TestExprOkNumbers(t *testing.T) {
	for _, n := range []int{0, 1, 999999} {
		if e := number(n); !impl.ExprOk(e) || impl.ExprPut(e) != strconv.Itoa(n) {
			t.Errorf("%d is a number", n)
		}
	}
	for _, n := range []int{-1, 1000000, -1 << 63, 1<<63 - 1} {
		if e := number(n); impl.ExprOk(e) || impl.ExprPut(e) != "" {
			t.Errorf("%d is none", n)
		}
	}
	for _, op := range []int{0, 7, -1} {
		if impl.ExprOk(operation(op, number(1), number(2))) {
			t.Errorf("%d is no op", op)
		}
	}
}

func TestExprOkSizes(t *testing.T) {
	most := grown(impl.NodeMax)
	if partsOf(most) != 60 || !impl.ExprOk(most) || impl.ExprPut(most) == "" {
		t.Error("an expression of NodeMax parts is ok")
	}
	if more := grown(impl.NodeMax + 1); impl.ExprOk(more) || impl.ExprPut(more) != "" {
		t.Error("one of a part more is not")
	}
	if e := chained(impl.DeepMax - 1); deepOf(e) != 14 || !impl.ExprOk(e) || impl.ExprPut(e) == "" {
		t.Error("a part may stand in DeepMax - 1 others")
	}
	if e := chained(impl.DeepMax); impl.ExprOk(e) || impl.ExprPut(e) != "" {
		t.Error("a part may not stand in DeepMax others")
	}
	deepLast := expr(impl.ExprPair, number(1), chained(impl.DeepMax-1))
	if impl.ExprOk(deepLast) || !impl.ExprOk(expr(impl.ExprPair, number(1), chained(impl.DeepMax-2))) {
		t.Error("how deep a part stands is counted in the last one, too")
	}
	for i, e := range wrongExprs() {
		if impl.ExprOk(e) || impl.ExprPut(e) != "" {
			t.Errorf("wrong expression %d is not ok", i)
		}
	}
	empty := impl.Expr{Kind: impl.ExprNil, Kids: []impl.Expr{}}
	if !impl.ExprOk(empty) || impl.ExprPut(empty) != "nil" {
		t.Error("the empty list is the nil list")
	}
}

func TestExprPutLongest(t *testing.T) {
	e := longText(t, impl.TextMax)
	s := impl.ExprPut(e)
	if len(s) != 400 {
		t.Errorf("a text of %d bytes", len(s))
	}
	if got, ok := impl.ExprGet(s); !ok || !sameExpr(got, e) {
		t.Error("a text of TextMax bytes is read")
	}
	long := longText(t, impl.TextMax+1)
	if !impl.ExprOk(long) || impl.ExprPut(long) != "" {
		t.Error("a text of a byte more is not written, though the expression is ok")
	}
}

// P1: an expression is read back from how it is written.
func TestReadBack(t *testing.T) {
	list := append(okExprs(1, 4000), oneOfEach()...)
	list = append(list, grown(impl.NodeMax), chained(impl.DeepMax-1))
	written := 0
	for _, e := range list {
		if !impl.ExprOk(e) {
			t.Fatalf("%v is ok", e)
		}
		s := impl.ExprPut(e)
		if s == "" {
			continue
		}
		written++
		if got, ok := impl.ExprGet(s); !ok || len(s) > impl.TextMax || !sameExpr(got, e) {
			t.Fatalf("%q is read as %v %v", s, got, ok)
		}
	}
	if written < 3000 {
		t.Errorf("%d were written", written)
	}
}

func TestExprPutKeepsArguments(t *testing.T) {
	for _, e := range okExprs(2, 300) {
		a := withSpare(e)
		impl.ExprOk(a)
		impl.ExprPut(a)
		keepsToItself(t, "ExprPut", impl.Expr{}, []impl.Expr{a}, []impl.Expr{e})
	}
}
