package impl

import (
	"maps"
	"slices"
	"strconv"
)

// boundMax is how many names can be bound around each other: no kind binds more than two.
const boundMax = 2 * DeepMax

// NameFree is the free names of an expression.
func NameFree(e Expr) []string {
	if !ExprOk(e) {
		return nil
	}
	return slices.Sorted(maps.Keys(freeSet(e)))
}

// NameLike says whether expressions differ by names that they bind alone.
func NameLike(x Expr, y Expr) bool {
	return ExprOk(x) && ExprOk(y) && likeUnder(x, y, nil, nil)
}

// NameInto puts an expression into another one, for a free name of that.
func NameInto(e Expr, name string, x Expr) (Expr, bool) {
	if !ExprOk(e) || !NameOk(name) || !ExprOk(x) {
		return Expr{}, false
	}
	out := putInto(e, name, x)
	if !ExprOk(out) {
		return Expr{}, false
	}
	return out, true
}

// NameTidy is an expression in which what is bound is named by how deep it is bound.
func NameTidy(e Expr) Expr {
	if !ExprOk(e) {
		return Expr{}
	}
	return tidyUnder(e, nil, tidyNames(freeSet(e)))
}

// binds says whether an expression is of a kind that binds names.
func binds(e Expr) bool {
	return e.Kind == ExprFun || e.Kind == ExprLet || e.Kind == ExprRec || e.Kind == ExprCase
}

// bindsNameIn says whether an expression binds its Name in the part at a place.
func bindsNameIn(e Expr, place int) bool {
	switch e.Kind {
	case ExprFun, ExprRec:
		return true
	case ExprLet:
		return place == 1
	case ExprCase:
		return place == 2
	}
	return false
}

// bindsTailIn says whether an expression binds its Tail in the part at a place.
func bindsTailIn(e Expr, place int) bool {
	return e.Kind == ExprRec && place == 0 || e.Kind == ExprCase && place == 2
}

// under is what is bound in the part at a place, the innermost last, where what is bound around the expression is known.
func under(e Expr, place int, around []string) []string {
	inside := slices.Clone(around)
	if bindsNameIn(e, place) {
		inside = append(inside, e.Name)
	}
	if bindsTailIn(e, place) {
		inside = append(inside, e.Tail)
	}
	return inside
}

// lastPlace is where a name was bound last, -1 if it is not bound.
func lastPlace(bound []string, name string) int {
	for i := len(bound) - 1; i >= 0; i-- {
		if bound[i] == name {
			return i
		}
	}
	return -1
}

// walkFree tells each ExprVar that is bound neither around nor in the expression, by its name.
func walkFree(e Expr, around []string, found func(name string)) {
	if e.Kind == ExprVar && lastPlace(around, e.Name) < 0 {
		found(e.Name)
	}
	for i, kid := range e.Kids {
		walkFree(kid, under(e, i, around), found)
	}
}

// freeSet is the free names of expressions that are ok, each with how often it stands there.
func freeSet(list ...Expr) map[string]int {
	set := map[string]int{}
	for _, e := range list {
		walkFree(e, nil, func(name string) { set[name]++ })
	}
	return set
}

// likeUnder says whether two expressions are alike, where around each of them so much is bound, place by place.
func likeUnder(x Expr, y Expr, xs []string, ys []string) bool {
	if x.Kind != y.Kind || x.Num != y.Num || len(x.Kids) != len(y.Kids) {
		return false
	}
	if x.Kind == ExprVar {
		at := lastPlace(xs, x.Name)
		return at == lastPlace(ys, y.Name) && (at >= 0 || x.Name == y.Name)
	}
	for i := range x.Kids {
		if !likeUnder(x.Kids[i], y.Kids[i], under(x, i, xs), under(y, i, ys)) {
			return false
		}
	}
	return true
}

// copyExpr is an expression in memory of its own.
func copyExpr(e Expr) Expr {
	out := bareCopy(e)
	for i, kid := range e.Kids {
		out.Kids[i] = copyExpr(kid)
	}
	return out
}

// bareCopy is an expression with room for its parts, that are not there yet.
func bareCopy(e Expr) Expr {
	out := Expr{Kind: e.Kind, Name: e.Name, Tail: e.Tail, Num: e.Num}
	if len(e.Kids) > 0 {
		out.Kids = make([]Expr, len(e.Kids))
	}
	return out
}

// putInto is NameInto, of arguments that are ok, without a bound.
func putInto(e Expr, name string, x Expr) Expr {
	if freeSet(e)[name] == 0 {
		return copyExpr(e)
	}
	if e.Kind == ExprVar {
		return copyExpr(x)
	}
	if binds(e) {
		e = stepAside(e, name, x)
	}
	out := bareCopy(e)
	for i, kid := range e.Kids {
		out.Kids[i] = putInto(kid, name, x)
	}
	return out
}

// stepAside gives an expression that binds names other ones, where those would catch what is free in x, or hide the name.
func stepAside(e Expr, name string, x Expr) Expr {
	inX := freeSet(x)
	taken := freeSet(append(slices.Clone(e.Kids), x)...)
	taken[name]++
	out := bareCopy(e)
	if e.Name == name || inX[e.Name] > 0 {
		out.Name = firstNot(taken, e.Tail)
	}
	if e.Tail == name || inX[e.Tail] > 0 {
		out.Tail = firstNot(taken, out.Name)
	}
	for i, kid := range e.Kids {
		if out.Tail != e.Tail && bindsTailIn(e, i) {
			kid = putInto(kid, e.Tail, Expr{Kind: ExprVar, Name: out.Tail})
		}
		if out.Name != e.Name && bindsNameIn(e, i) {
			kid = putInto(kid, e.Name, Expr{Kind: ExprVar, Name: out.Name})
		}
		out.Kids[i] = kid
	}
	return out
}

// firstNot is the first of v0, v1 and so on that is not taken, nor the other name.
func firstNot(taken map[string]int, other string) string {
	for i := 0; ; i++ {
		name := "v" + strconv.Itoa(i)
		if taken[name] == 0 && name != other {
			return name
		}
	}
}

// tidyNames are the first of w0, w1 and so on that are not free, as many as can be bound.
func tidyNames(free map[string]int) []string {
	names := []string{}
	for i := 0; len(names) < boundMax; i++ {
		name := "w" + strconv.Itoa(i)
		if free[name] == 0 {
			names = append(names, name)
		}
	}
	return names
}

// tidyUnder gives what an expression binds the names of how much is bound around.
func tidyUnder(e Expr, around []string, names []string) Expr {
	out := bareCopy(e)
	if e.Kind == ExprVar {
		if at := lastPlace(around, e.Name); at >= 0 {
			out.Name = names[at]
		}
	}
	if binds(e) {
		out.Name = names[len(around)]
	}
	if e.Tail != "" {
		out.Tail = names[len(around)+1]
	}
	for i, kid := range e.Kids {
		out.Kids[i] = tidyUnder(kid, under(e, i, around), names)
	}
	return out
}
