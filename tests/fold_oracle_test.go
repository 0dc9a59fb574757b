package tests

import (
	"slices"

	"loop.example/ensemble/impl"
)

// atEnds goes to all that pairs and lists of an expression are made of.
func atEnds(e impl.Expr) []impl.Expr {
	if e.Kind != impl.ExprPair && e.Kind != impl.ExprCons {
		return []impl.Expr{e}
	}
	return append(atEnds(e.Kids[0]), atEnds(e.Kids[1])...)
}

// allAmong says whether all that pairs and lists of an expression are made of is of these kinds.
func allAmong(e impl.Expr, kinds ...int) bool {
	return !slices.ContainsFunc(atEnds(e), func(end impl.Expr) bool { return !slices.Contains(kinds, end.Kind) })
}

// isStill is FoldStill of what is ok, by the words of chapter 10.
func isStill(e impl.Expr) bool {
	return allAmong(e, impl.ExprNum, impl.ExprBool, impl.ExprVar, impl.ExprFun, impl.ExprNil, impl.ExprSelf)
}

// opFolds is what an op of two numbers is, if chapter 10 folds it.
func opFolds(e impl.Expr) (out impl.Expr, ok bool) {
	if e.Kind != impl.ExprOp || e.Kids[0].Kind != impl.ExprNum || e.Kids[1].Kind != impl.ExprNum {
		return impl.Expr{}, false
	}
	defer func() {
		if recover() != nil {
			out, ok = impl.Expr{}, false
		}
	}()
	w := opWorth(e.Num, int64(e.Kids[0].Num), int64(e.Kids[1].Num))
	if w.sign == "bool" {
		return truth(int(w.num)), true
	}
	return number(int(w.num)), w.num >= 0 && w.num <= 999999
}

// foldHere is what one rule of chapter 10 makes of an expression, its parts being as they are, and which rule that is.
func foldHere(e impl.Expr) (impl.Expr, string) {
	if out, ok := opFolds(e); ok {
		return out, "op"
	}
	if len(e.Kids) == 0 {
		return impl.Expr{}, ""
	}
	a := e.Kids[0]
	unused := len(e.Kids) > 1 && !slices.Contains(freeNames(e.Kids[1]), e.Name)
	switch {
	case e.Kind == impl.ExprIf && a.Kind == impl.ExprBool:
		return e.Kids[2-a.Num], "if"
	case e.Kind == impl.ExprLet && (a.Kind == impl.ExprNum || a.Kind == impl.ExprBool || a.Kind == impl.ExprVar):
		out, _ := impl.NameInto(e.Kids[1], e.Name, a)
		return out, "into"
	case e.Kind == impl.ExprLet && isStill(a) && unused:
		return e.Kids[1], "let"
	case e.Kind == impl.ExprRec && unused:
		return e.Kids[1], "rec"
	case e.Kind == impl.ExprFst && a.Kind == impl.ExprPair && isStill(a):
		return a.Kids[0], "fst"
	case e.Kind == impl.ExprSnd && a.Kind == impl.ExprPair && isStill(a):
		return a.Kids[1], "snd"
	case e.Kind == impl.ExprCase && a.Kind == impl.ExprNil:
		return e.Kids[1], "case"
	}
	return impl.Expr{}, ""
}

// foldOnce does the first fold that there is, parts being ahead of what they are parts of; the rule is empty if there is none.
func foldOnce(e impl.Expr) (impl.Expr, string) {
	for i, kid := range e.Kids {
		if out, rule := foldOnce(kid); rule != "" {
			return withKid(e, i, out), rule
		}
	}
	return foldHere(e)
}

// foldedBit is FoldOf of an expression that has a type, one fold at a time, each looked for from the beginning; it counts the rules.
func foldedBit(e impl.Expr, count map[string]int) impl.Expr {
	for {
		next, rule := foldOnce(e)
		if rule == "" {
			return e
		}
		count[rule]++
		e = next
	}
}
