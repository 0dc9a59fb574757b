package tests

import (
	"slices"
	"strconv"
	"strings"

	"loop.example/ensemble/impl"
)

// flatWords are the words of ops that flat functions have beside those of code, that of FlatLoc first.
var flatWords = strings.Fields("loc free me make")

// flatText writes flat functions, in one line each: how many values they have with them, and their ops.
func flatText(list []impl.Fun) string {
	text := ""
	for _, f := range list {
		var ops []string
		for _, op := range f.Ops {
			if op.Kind > impl.CodeGive {
				ops = append(ops, flatWords[op.Kind-impl.FlatLoc]+" "+strconv.Itoa(op.Num))
				continue
			}
			ops = append(ops, strings.TrimSpace(codeLines([]impl.Op{op})))
		}
		text += strconv.Itoa(f.Free) + ": " + strings.Join(ops, "; ") + "\n"
	}
	return text
}

// funsIn are the functions of an expression, in the order in which they stand; of ExprCase C is ahead of B. Each has where it is found.
func funsIn(e impl.Expr, way string, found map[string]int) {
	if e.Kind == impl.ExprFun || e.Kind == impl.ExprRec {
		found[way] = len(found) + 1
	}
	order := []int{0, 1, 2}[:len(e.Kids)]
	if e.Kind == impl.ExprCase {
		order = []int{0, 2, 1}
	}
	for _, place := range order {
		funsIn(e.Kids[place], wayTo(way, place), found)
	}
}

// ownOf is the name of its own that a function has, and that by which it calls itself.
func ownOf(e impl.Expr) (string, string) {
	if e.Kind == impl.ExprRec {
		return e.Tail, e.Name
	}
	return e.Name, ""
}

// withIt are the names, ascending, that are free in what a function does, but its own ones.
func withIt(e impl.Expr) []string {
	own, self := ownOf(e)
	var names []string
	for _, name := range freeNames(e.Kids[0]) {
		if name != own && name != self {
			names = append(names, name)
		}
	}
	return names
}

// flatSeen is what flatText writes of an expression that has a type, as the tests see it.
func flatSeen(e impl.Expr) string {
	places := map[string]int{}
	funsIn(e, "", places)
	lines := make([]string, len(places)+1)
	lines[0] = "0: " + flatBody(e, "", nil, nil, "", places)
	for way, place := range places {
		f := e
		for _, step := range strings.Split(way, ".")[1:] {
			n, _ := strconv.Atoi(step)
			f = f.Kids[n]
		}
		own, self := ownOf(f)
		lines[place] = strconv.Itoa(len(withIt(f))) + ": " + flatBody(f.Kids[0], wayTo(way, 0), []string{own}, withIt(f), self, places)
	}
	return strings.Join(lines, "\n") + "\n"
}

// flatBody writes the ops of what a function does, that is found at a place. Functions in it are come to in the order of its code, so in that of places.
func flatBody(e impl.Expr, way string, bound []string, with []string, self string, places map[string]int) string {
	inner := map[string]int{}
	funsIn(e, way, inner)
	var left []int
	for at := range inner {
		left = append(left, places[at])
	}
	for at := range inner {
		for under := range inner {
			if strings.HasPrefix(under, at+".0") {
				left = slices.DeleteFunc(left, func(place int) bool { return place == places[under] })
			}
		}
	}
	slices.Sort(left)
	s := &sheet{}
	s.named = func(name string, names []string) {
		for i := len(names) - 1; i >= 0; i-- {
			if names[i] == name {
				s.line("loc", strconv.Itoa(i))
				return
			}
		}
		if name == self {
			s.line("me", "0")
			return
		}
		at, _ := slices.BinarySearch(with, name)
		s.line("free", strconv.Itoa(at))
	}
	s.made = func(f impl.Expr, names []string) {
		for _, name := range withIt(f) {
			s.named(name, names)
		}
		s.line("make", strconv.Itoa(left[0]))
		left = left[1:]
	}
	s.of(e, bound)
	s.line("give")
	return strings.ReplaceAll(strings.TrimSpace(s.text()), "\n", "; ")
}

// flatDoing does flat functions, one by one.
type flatDoing struct {
	list []impl.Fun
	does thought
}

// from is what a function comes to, that has some values with it, and in which so much is bound.
func (d *flatDoing) from(place int, self *worth, with []*worth, bound []*worth) *worth {
	f := d.list[place]
	g := going{known: bound}
	for {
		op := f.Ops[g.at]
		g.at++
		switch op.Kind {
		case impl.FlatLoc:
			g.values = append(g.values, g.known[op.Num])
		case impl.FlatFree:
			g.values = append(g.values, with[:f.Free][op.Num])
		case impl.FlatSelf:
			g.values = append(g.values, self)
		case impl.FlatMake:
			g.values = append(g.values, d.function(op.Num, g.take(d.list[op.Num].Free)))
		case impl.CodeGive:
			return g.values[0]
		default:
			takes, _ := takesAndPuts(op.Kind)
			g.one(op, g.take(takes), &d.does)
		}
	}
}

func (d *flatDoing) function(place int, with []*worth) *worth {
	f := &worth{sign: "fun"}
	f.call = func(_ *thought, x *worth) *worth { return d.from(place, f, with, []*worth{x}) }
	return f
}

// flatDone is what flat functions come to, told as EvalOf tells it.
func flatDone(list []impl.Fun) (text string, want int) {
	defer func() {
		if caught := recover(); caught != nil {
			text, want = "", caught.(stops).want
		}
	}()
	d := &flatDoing{list: list}
	return d.from(0, nil, nil, nil).told(0), impl.WantDone
}
