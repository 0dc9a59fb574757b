package tests

import (
	"math/rand"
	"strconv"
	"strings"
	"testing"

	"loop.example/ensemble/impl"
)

// expr is an expression without names and a number.
func expr(kind int, kids ...impl.Expr) impl.Expr {
	return impl.Expr{Kind: kind, Kids: kids}
}

func number(n int) impl.Expr { return impl.Expr{Kind: impl.ExprNum, Num: n} }

func variable(name string) impl.Expr { return impl.Expr{Kind: impl.ExprVar, Name: name} }

func function(name string, body impl.Expr) impl.Expr {
	return impl.Expr{Kind: impl.ExprFun, Name: name, Kids: []impl.Expr{body}}
}

func operation(op int, a impl.Expr, b impl.Expr) impl.Expr {
	return impl.Expr{Kind: impl.ExprOp, Num: op, Kids: []impl.Expr{a, b}}
}

// mustRead reads a text that is an expression.
func mustRead(t *testing.T, s string) impl.Expr {
	t.Helper()
	e, ok := impl.ExprGet(s)
	if !ok {
		t.Fatalf("no expression: %q", s)
	}
	return e
}

// mustType reads a text that is an expression with a type.
func mustType(t *testing.T, s string) impl.Expr {
	t.Helper()
	e := mustRead(t, s)
	if _, _, ok := impl.TypeOf(e); !ok {
		t.Fatalf("no type: %q", s)
	}
	return e
}

// sameExpr says whether two expressions are the same; the empty list is the nil list.
func sameExpr(x impl.Expr, y impl.Expr) bool {
	if x.Kind != y.Kind || x.Name != y.Name || x.Tail != y.Tail || x.Num != y.Num || len(x.Kids) != len(y.Kids) {
		return false
	}
	for i := range x.Kids {
		if !sameExpr(x.Kids[i], y.Kids[i]) {
			return false
		}
	}
	return true
}

// isNothing says whether an expression is the zero value.
func isNothing(e impl.Expr) bool { return sameExpr(e, impl.Expr{}) }

// bindsIn is which names an expression binds in the part at a place, by the words of chapter 3.
func bindsIn(e impl.Expr, place int) []string {
	switch {
	case e.Kind == impl.ExprFun, e.Kind == impl.ExprLet && place == 1, e.Kind == impl.ExprRec && place == 1:
		return []string{e.Name}
	case e.Kind == impl.ExprRec && place == 0, e.Kind == impl.ExprCase && place == 2:
		return []string{e.Name, e.Tail}
	}
	return nil
}

// nameless writes an expression so that what binds has no names, and what is bound says how many were bound later.
// In place of each free ExprVar of the name the text place is written.
func nameless(e impl.Expr, around []string, name string, place string) string {
	if e.Kind == impl.ExprVar {
		for i := len(around) - 1; i >= 0; i-- {
			if around[i] == e.Name {
				return "#" + strconv.Itoa(len(around)-1-i)
			}
		}
		if e.Name == name {
			return place
		}
		return e.Name
	}
	out := "(" + strconv.Itoa(e.Kind) + " " + strconv.Itoa(e.Num)
	for i, kid := range e.Kids {
		inside := append(append([]string{}, around...), bindsIn(e, i)...)
		out += " " + nameless(kid, inside, name, place)
	}
	return out + ")"
}

// partsOf is how many parts an expression has.
func partsOf(e impl.Expr) int {
	n := 1
	for _, kid := range e.Kids {
		n += partsOf(kid)
	}
	return n
}

// deepOf is in how many parts, with itself, the innermost one stands.
func deepOf(e impl.Expr) int {
	n := 0
	for _, kid := range e.Kids {
		n = max(n, deepOf(kid))
	}
	return n + 1
}

// grown is an expression of just so many parts, that is not deep.
func grown(parts int) impl.Expr {
	switch {
	case parts == 1:
		return variable("x")
	case parts%2 == 0:
		return function("y", grown(parts-1))
	}
	left := (parts - 1) / 2
	return expr(impl.ExprApp, grown(left), grown(parts-1-left))
}

// chained is an expression in which the innermost part stands in so many others.
func chained(others int) impl.Expr {
	e := variable("x")
	for i := 0; i < others; i++ {
		e = expr(impl.ExprFst, e)
	}
	return e
}

// longText is an expression whose text has just so many bytes, 267 to 447.
func longText(t *testing.T, bytes int) impl.Expr {
	t.Helper()
	e := choices(3)
	for spare := bytes - len(impl.ExprPut(choices(3))); spare > 0; spare-- {
		if !lengthen(&e) {
			t.Fatal("no expression so long")
		}
	}
	return e
}

// choices is ExprIf of such; in the innermost ones one part is a pair.
func choices(deep int) impl.Expr {
	if deep == 1 {
		return expr(impl.ExprIf, number(1), expr(impl.ExprPair, number(1), number(1)), number(1))
	}
	return expr(impl.ExprIf, choices(deep-1), choices(deep-1), choices(deep-1))
}

// lengthen makes the first number of fewer than 6 figures one figure longer.
func lengthen(e *impl.Expr) bool {
	if e.Kind == impl.ExprNum && e.Num < 100000 {
		e.Num *= 10
		return true
	}
	for i := range e.Kids {
		if lengthen(&e.Kids[i]) {
			return true
		}
	}
	return false
}

// someNames are few, so that they hide each other often; v and w are those that the program gives.
var someNames = []string{"x", "y", "z", "v0", "v1", "v2", "w0", "w1"}

func someName(r *rand.Rand) string { return someNames[r.Intn(len(someNames))] }

// someExpr is an expression of at most about so many parts, that need not be ok by its size.
func someExpr(r *rand.Rand, parts int) impl.Expr {
	if parts <= 1 || r.Intn(12) == 0 {
		return someLeaf(r)
	}
	kind := 4 + r.Intn(18)
	switch kind {
	case impl.ExprNil, impl.ExprSelf, impl.ExprRecv:
		kind = []int{impl.ExprFun, impl.ExprRec, impl.ExprCase}[r.Intn(3)]
	}
	e := impl.Expr{Kind: kind}
	names, kids := hasOf(kind)
	if names > 0 {
		e.Name = someName(r)
	}
	for names == 2 && (e.Tail == "" || e.Tail == e.Name) {
		e.Tail = someName(r)
	}
	if kind == impl.ExprOp {
		e.Num = 1 + r.Intn(6)
	}
	for i := 0; i < kids; i++ {
		e.Kids = append(e.Kids, someExpr(r, 1+r.Intn(parts)*2/(kids+1)))
	}
	return e
}

func someLeaf(r *rand.Rand) impl.Expr {
	switch r.Intn(12) {
	case 0:
		return number(r.Intn(1000000))
	case 1:
		return impl.Expr{Kind: impl.ExprBool, Num: r.Intn(2)}
	case 2:
		return expr([]int{impl.ExprNil, impl.ExprSelf, impl.ExprRecv}[r.Intn(3)])
	}
	return variable(someName(r))
}

// hasOf is how many names and parts a kind has, by the table of chapter 1.
func hasOf(kind int) (int, int) {
	switch kind {
	case impl.ExprVar:
		return 1, 0
	case impl.ExprFun:
		return 1, 1
	case impl.ExprLet:
		return 1, 2
	case impl.ExprRec:
		return 2, 2
	case impl.ExprCase:
		return 2, 3
	case impl.ExprIf:
		return 0, 3
	case impl.ExprApp, impl.ExprPair, impl.ExprCons, impl.ExprOp, impl.ExprSend:
		return 0, 2
	case impl.ExprFst, impl.ExprSnd, impl.ExprSpawn, impl.ExprOut, impl.ExprLink:
		return 0, 1
	}
	return 0, 0
}

// okExprs are so many expressions that are ok, of all sizes, the same each time.
func okExprs(seed int64, count int) []impl.Expr {
	r := rand.New(rand.NewSource(seed))
	var list []impl.Expr
	for len(list) < count {
		e := someExpr(r, 2+r.Intn(60))
		if partsOf(e) <= impl.NodeMax && deepOf(e) <= impl.DeepMax {
			list = append(list, e)
		}
	}
	return list
}

// wrongExprs are expressions that are not ok.
func wrongExprs() []impl.Expr {
	x := variable("x")
	ring := make([]impl.Expr, 1)
	ring[0] = impl.Expr{Kind: impl.ExprFst, Kids: ring}
	wide := make([]impl.Expr, 2)
	wide[0] = impl.Expr{Kind: impl.ExprApp, Kids: wide}
	wide[1] = wide[0]
	return []impl.Expr{
		{}, {Kind: -1}, {Kind: 22}, {Kind: 1 << 40},
		number(-1), number(1000000),
		{Kind: impl.ExprBool, Num: 2}, {Kind: impl.ExprBool, Num: -1},
		variable(""), variable("abcde"), variable("in"), variable("1"), variable("x y"), variable("X"),
		function("fun", x), function("", x), expr(impl.ExprFun, x),
		{Kind: impl.ExprRec, Name: "f", Tail: "f", Kids: []impl.Expr{x, x}},
		{Kind: impl.ExprCase, Name: "h", Tail: "h", Kids: []impl.Expr{x, x, x}},
		{Kind: impl.ExprRec, Name: "f", Kids: []impl.Expr{x, x}},
		{Kind: impl.ExprCase, Tail: "f", Kids: []impl.Expr{x, x, x}},
		operation(0, x, x), operation(7, x, x), operation(-1, x, x),
		expr(impl.ExprApp, x), expr(impl.ExprApp, x, x, x), expr(impl.ExprIf, x, x), expr(impl.ExprNil, x),
		expr(impl.ExprPair, x, impl.Expr{}), expr(impl.ExprPair, number(-1), x),
		grown(impl.NodeMax + 1), chained(impl.DeepMax), {Kind: impl.ExprFst, Kids: ring}, {Kind: impl.ExprApp, Kids: wide},
	}
}

// roomOf adds all places that the lists of an expression have, spare ones too, and says whether one was there already.
func roomOf(e impl.Expr, room map[*impl.Expr]bool) bool {
	twice := false
	all := e.Kids[:cap(e.Kids)]
	for i := range all {
		twice = twice || room[&all[i]]
		room[&all[i]] = true
	}
	for _, kid := range e.Kids {
		twice = roomOf(kid, room) || twice
	}
	return twice
}

// withSpare is an expression whose lists have spare room, with something in it.
func withSpare(e impl.Expr) impl.Expr {
	kids := make([]impl.Expr, 0, len(e.Kids)+2)
	for _, kid := range e.Kids {
		kids = append(kids, withSpare(kid))
	}
	for i := len(kids); i < cap(kids); i++ {
		kids[:cap(kids)][i] = number(7)
	}
	e.Kids = kids
	return e
}

// spareKept says whether in spare room is what withSpare put there.
func spareKept(e impl.Expr) bool {
	all := e.Kids[:cap(e.Kids)]
	for i := len(e.Kids); i < len(all); i++ {
		if !sameExpr(all[i], number(7)) {
			return false
		}
	}
	for _, kid := range e.Kids {
		if !spareKept(kid) {
			return false
		}
	}
	return true
}

// keepsToItself asks that an answer shares no memory with arguments, nor within itself, and that those are as they were.
func keepsToItself(t *testing.T, what string, out impl.Expr, arguments []impl.Expr, before []impl.Expr) {
	t.Helper()
	room := map[*impl.Expr]bool{}
	for _, a := range arguments {
		roomOf(a, room)
	}
	own := map[*impl.Expr]bool{}
	if roomOf(out, own) {
		t.Errorf("%s: two lists of the answer share memory", what)
	}
	for place := range own {
		if room[place] {
			t.Errorf("%s: the answer shares memory with an argument", what)
			break
		}
	}
	for i := range arguments {
		if !sameExpr(arguments[i], before[i]) || !spareKept(arguments[i]) {
			t.Errorf("%s: argument %d was written into", what, i)
		}
	}
}

// sameNames says whether two lists of names are the same.
func sameNames(a []string, b []string) bool {
	return len(a) == len(b) && strings.Join(a, " ") == strings.Join(b, " ")
}
