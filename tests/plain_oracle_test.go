package tests

import (
	"fmt"
	"regexp"
	"slices"

	"loop.example/ensemble/impl"
)

// waitsFor is how many parts of an expression, the first ones, it waits for, by the words of chapter 15.
func waitsFor(e impl.Expr) int {
	switch e.Kind {
	case impl.ExprFun, impl.ExprLet, impl.ExprRec:
		return 0
	case impl.ExprIf, impl.ExprCase:
		return 1
	}
	return len(e.Kids)
}

// isThere says whether an expression is there at once.
func isThere(e impl.Expr) bool {
	return slices.Contains([]int{impl.ExprNum, impl.ExprBool, impl.ExprVar, impl.ExprNil, impl.ExprSelf}, e.Kind)
}

// wayTo is the way to the part at a place of what a way leads to.
func wayTo(way string, place int) string { return fmt.Sprintf("%s.%d", way, place) }

// waysToNamed are the ways to all parts that are to have a name, in the order in which they get it.
func waysToNamed(e impl.Expr, way string) []string {
	var list []string
	for i, kid := range e.Kids {
		list = append(list, waysToNamed(kid, wayTo(way, i))...)
	}
	for i := range waitsFor(e) {
		if !isThere(e.Kids[i]) {
			list = append(list, wayTo(way, i))
		}
	}
	return list
}

var anyWord = regexp.MustCompile(`[a-z0-9]+`)

// tNames are the first of t0, t1 and so on that are no words of a text.
func tNames(text string, count int) []string {
	words := anyWord.FindAllString(text, -1)
	var list []string
	for i := 0; len(list) < count; i++ {
		if name := fmt.Sprintf("t%d", i); !slices.Contains(words, name) {
			list = append(list, name)
		}
	}
	return list
}

// plainSeen is what PlainOf makes of an expression that is ok, be it ok or not: all names are given first, and then it is written anew.
func plainSeen(e impl.Expr) impl.Expr {
	ways := waysToNamed(e, "")
	names := map[string]string{}
	for i, name := range tNames(spelled(e), len(ways)) {
		names[ways[i]] = name
	}
	return writtenPlain(e, "", names)
}

// writtenPlain is an expression to which a way leads, with names for the parts that have some.
func writtenPlain(e impl.Expr, way string, names map[string]string) impl.Expr {
	out := e
	for i, kid := range e.Kids {
		if name := names[wayTo(way, i)]; name != "" {
			out = withKid(out, i, variable(name))
		} else {
			out = withKid(out, i, writtenPlain(kid, wayTo(way, i), names))
		}
	}
	for i := len(e.Kids) - 1; i >= 0; i-- {
		if name := names[wayTo(way, i)]; name != "" {
			out = letIn(name, writtenPlain(e.Kids[i], wayTo(way, i), names), out)
		}
	}
	return out
}

// isPlainSeen is PlainIs of what is ok.
func isPlainSeen(e impl.Expr) bool { return len(waysToNamed(e, "")) == 0 }
