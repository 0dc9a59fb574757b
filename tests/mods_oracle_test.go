package tests

import (
	"regexp"
	"slices"
	"strings"

	"loop.example/ensemble/impl"
)

var defLine = regexp.MustCompile(`^([a-z0-9]*) = (.*)$`)

// isWritten says whether a text is that of an expression, just as it is written.
func isWritten(s string) bool {
	e, ok := impl.ExprGet(s)
	return ok && spelled(e) == s && len(s) <= 400
}

// modRead is ModGet, as the tests see it: line by line.
func modRead(s string) (impl.Mod, bool) {
	lines := strings.Split(s, "\n")
	if len(lines) < 2 || len(lines) > 8 || lines[len(lines)-1] != "" {
		return impl.Mod{}, false
	}
	main := lines[len(lines)-2]
	m, ok := impl.Mod{}, isWritten(main)
	m.Main, _ = impl.ExprGet(main)
	for _, line := range lines[:len(lines)-2] {
		words := defLine.FindStringSubmatch(line)
		if words == nil || !impl.NameOk(words[1]) || !isWritten(words[2]) {
			return impl.Mod{}, false
		}
		e, _ := impl.ExprGet(words[2])
		m.Defs = append(m.Defs, impl.Def{Name: words[1], Expr: e})
	}
	if !ok {
		return impl.Mod{}, false
	}
	return m, true
}

// isModSeen says whether definitions and an expression are ok, by the words of chapter 16.
func isModSeen(m impl.Mod) bool {
	wrong := slices.ContainsFunc(m.Defs, func(d impl.Def) bool { return !impl.NameOk(d.Name) || impl.ExprPut(d.Expr) == "" })
	return !wrong && impl.ExprPut(m.Main) != "" && len(m.Defs) <= 6
}

// modWritten is ModPut of what is ok.
func modWritten(m impl.Mod) string {
	var lines []string
	for _, d := range m.Defs {
		lines = append(lines, strings.Join([]string{d.Name, "=", spelled(d.Expr)}, " "))
	}
	return strings.Join(append(lines, spelled(m.Main), ""), "\n")
}

// nestedLets is an expression with the first definitions around it, be that ok or not.
func nestedLets(defs []impl.Def, e impl.Expr) impl.Expr {
	if len(defs) == 0 {
		return e
	}
	return letIn(defs[0].Name, defs[0].Expr, nestedLets(defs[1:], e))
}

// modTyped are the types of definitions and an expression that are ok, by the tests' own types; none, if there are not all.
func modTyped(m impl.Mod) []string {
	var list []string
	if !fits(nestedLets(m.Defs, m.Main)) {
		return nil
	}
	for i := 0; i <= len(m.Defs); i++ {
		e := nestedLets(m.Defs, m.Main)
		if i < len(m.Defs) {
			e = nestedLets(m.Defs[:i+1], variable(m.Defs[i].Name))
		}
		if len(freeNames(e)) > 0 {
			return nil
		}
		kind, _, ok := typeGuessed(e)
		if !ok {
			return nil
		}
		list = append(list, kind)
	}
	return list
}

// meantBy is the place of the definition that a name means where it stands in that of a place; -1 if it means none.
func meantBy(m impl.Mod, name string, place int) int {
	for i := place - 1; i >= 0; i-- {
		if m.Defs[i].Name == name {
			return i
		}
	}
	return -1
}

// modNeeded is ModNeeds of what is ok: what names mean is gone after from Main on.
func modNeeded(m impl.Mod) []int {
	var list []int
	open := []int{len(m.Defs)}
	for len(open) > 0 {
		place := open[0]
		open = open[1:]
		e := m.Main
		if place < len(m.Defs) {
			e = m.Defs[place].Expr
		}
		for _, name := range freeNames(e) {
			if other := meantBy(m, name, place); other >= 0 && !slices.Contains(list, other) {
				list = append(list, other)
				open = append(open, other)
			}
		}
	}
	slices.Sort(list)
	return list
}
