package tests

import (
	"slices"

	"loop.example/ensemble/impl"
)

// isEnd is StepValue of what is ok, by the words of chapter 11.
func isEnd(e impl.Expr) bool {
	return allAmong(e, impl.ExprNum, impl.ExprBool, impl.ExprFun, impl.ExprNil)
}

// closedInto puts what has no free names into an expression, for a name; so nothing needs to step aside.
func closedInto(e impl.Expr, name string, x impl.Expr) impl.Expr {
	if e.Kind == impl.ExprVar && e.Name == name {
		return x
	}
	for i, kid := range e.Kids {
		if !slices.Contains(bindsIn(e, i), name) {
			e = withKid(e, i, closedInto(kid, name, x))
		}
	}
	return e
}

// mustEnd is how many parts of an expression, from the left, must be values.
func mustEnd(e impl.Expr) int {
	switch e.Kind {
	case impl.ExprRec:
		return 0
	case impl.ExprLet, impl.ExprIf, impl.ExprCase:
		return 1
	}
	return len(e.Kids)
}

// wayDown is the places of parts by which one comes to what is to be done next.
func wayDown(e impl.Expr) []int {
	var way []int
	for {
		at := slices.IndexFunc(e.Kids[:mustEnd(e)], func(kid impl.Expr) bool { return !isEnd(kid) })
		if at < 0 || isEnd(e) {
			return way
		}
		way = append(way, at)
		e = e.Kids[at]
	}
}

// partAt is the part to which a way leads.
func partAt(e impl.Expr, way []int) impl.Expr {
	for _, at := range way {
		e = e.Kids[at]
	}
	return e
}

// partInto puts a part where a way leads.
func partInto(e impl.Expr, way []int, part impl.Expr) impl.Expr {
	if len(way) == 0 {
		return part
	}
	return withKid(e, way[0], partInto(e.Kids[way[0]], way[1:], part))
}

func fits(e impl.Expr) bool { return partsOf(e) <= impl.NodeMax && deepOf(e) <= impl.DeepMax }

// doneHere is what comes of an expression whose parts are values, as far as they must be, and what that is called; empty if there is nothing.
func doneHere(e impl.Expr) (impl.Expr, string) {
	if isEnd(e) || len(e.Kids) == 0 {
		return impl.Expr{}, ""
	}
	a := e.Kids[0]
	switch e.Kind {
	case impl.ExprApp:
		return closedInto(a.Kids[0], a.Name, e.Kids[1]), "call"
	case impl.ExprLet:
		return closedInto(e.Kids[1], e.Name, a), "let"
	case impl.ExprRec:
		f := function(e.Tail, closedInto(a, e.Name, withKid(e, 1, variable(e.Name))))
		if !fits(f) {
			return impl.Expr{}, "" // by NameInto a function that is not ok is put into nothing, even if its name stands nowhere
		}
		return closedInto(e.Kids[1], e.Name, f), "rec"
	case impl.ExprIf:
		return e.Kids[2-a.Num], "if"
	case impl.ExprFst:
		return a.Kids[0], "fst"
	case impl.ExprSnd:
		return a.Kids[1], "snd"
	case impl.ExprCase:
		if a.Kind == impl.ExprNil {
			return e.Kids[1], "nil"
		}
		return closedInto(closedInto(e.Kids[2], e.Name, a.Kids[0]), e.Tail, a.Kids[1]), "cons"
	case impl.ExprOp:
		if out, ok := opFolds(e); ok {
			return out, "op"
		}
	}
	return impl.Expr{}, ""
}

// stepSeen is one step of an expression without free names, but for names that are bound, and what was done; empty if there is none.
func stepSeen(e impl.Expr) (impl.Expr, string) {
	way := wayDown(e)
	part, did := doneHere(partAt(e, way))
	if did == "" {
		return e, ""
	}
	if out := partInto(e, way, part); fits(out) {
		return out, did
	}
	return e, "great"
}
