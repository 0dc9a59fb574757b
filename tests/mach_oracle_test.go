package tests

import (
	"slices"

	"loop.example/ensemble/impl"
)

// thing is a value that may be a cell, or what is known: its name, the value, and what was known ahead. It leads to others by pointers.
type thing struct {
	sign  string
	num   int32
	name  string
	made  impl.Expr
	first *thing
	next  *thing
}

// isCell says whether a thing takes a cell of its own.
func (x *thing) isCell() bool {
	return slices.Contains([]string{"pair", "list", "fun", "rec", "env"}, x.sign) && !(x.sign == "list" && x.first == nil)
}

// count is how many cells things lead to.
func count(things ...*thing) int {
	seen := map[*thing]bool{}
	for len(things) > 0 {
		x := things[0]
		things = things[1:]
		if x != nil && x.isCell() && !seen[x] {
			seen[x] = true
			things = append(things, x.first, x.next)
		}
	}
	return len(seen)
}

// twin is a thing that says the same, and shares no cell with it; what shares cells within it does so within its twin.
func twin(x *thing, twins map[*thing]*thing) *thing {
	if x == nil || twins[x] != nil {
		return twins[x]
	}
	y := &thing{sign: x.sign, num: x.num, name: x.name, made: x.made}
	twins[x] = y
	y.first, y.next = twin(x.first, twins), twin(x.next, twins)
	return y
}

// worth is a thing as a value that can be told.
func (x *thing) worth() *worth {
	out := &worth{sign: x.sign, num: x.num}
	if x.sign == "rec" {
		out.sign = "fun"
	}
	if x.sign == "pair" || x.sign == "list" && x.first != nil {
		out.parts = []*worth{x.first.worth(), x.next.worth()}
	}
	return out
}

// labour does what words mean by going into parts, and counts cells as the machine's words say it, without any code.
// What is held are values that were not taken yet; waits is what is known to all that wait.
type labour struct {
	self   int
	always bool
	calls  int
	cells  int
	most   int
	held   []*thing
	waits  []*thing
	asks   func(kind int, parts []*thing, known *thing) *thing
}

// clean counts just those cells that are needed.
func (l *labour) clean(known *thing, beside ...*thing) {
	l.cells = count(slices.Concat(l.held, l.waits, beside, []*thing{known})...)
}

// cell makes a cell of a thing, something being known.
func (l *labour) cell(x *thing, known *thing) *thing {
	if l.always || l.cells == 120 {
		l.clean(known, x.first, x.next)
	}
	if l.cells == 120 {
		panic(stops{impl.WantFull})
	}
	l.cells++
	l.most = max(l.most, l.cells)
	return x
}

// bind is what is known with one name more; another thing is needed all the while.
func (l *labour) bind(known *thing, name string, x *thing, needed ...*thing) *thing {
	l.held = append(l.held, needed...)
	env := l.cell(&thing{sign: "env", name: name, first: x, next: known}, known)
	l.held = l.held[:len(l.held)-len(needed)]
	return env
}

// of is the thing that an expression comes to.
func (l *labour) of(e impl.Expr, known *thing) *thing {
	switch e.Kind {
	case impl.ExprVar:
		for known.name != e.Name {
			known = known.next
		}
		return known.first
	case impl.ExprFun:
		return l.cell(&thing{sign: "fun", made: e, next: known}, known)
	case impl.ExprRec:
		f := l.cell(&thing{sign: "rec", made: e, next: known}, known)
		return l.of(e.Kids[1], l.bind(known, e.Name, f))
	case impl.ExprLet:
		return l.of(e.Kids[1], l.bind(known, e.Name, l.of(e.Kids[0], known)))
	case impl.ExprIf:
		return l.of(e.Kids[2-l.of(e.Kids[0], known).num], known)
	case impl.ExprCase:
		list := l.of(e.Kids[0], known)
		if list.first == nil {
			return l.of(e.Kids[1], known)
		}
		head := l.bind(known, e.Name, list.first, list.next)
		return l.of(e.Kids[2], l.bind(head, e.Tail, list.next))
	}
	had := len(l.held)
	for _, kid := range e.Kids {
		l.held = append(l.held, l.of(kid, known))
	}
	parts := slices.Clone(l.held[had:])
	l.held = l.held[:had]
	return l.does(e, parts, known)
}

func (l *labour) does(e impl.Expr, parts []*thing, known *thing) *thing {
	switch e.Kind {
	case impl.ExprNum:
		return &thing{sign: "int", num: int32(e.Num)}
	case impl.ExprBool:
		return &thing{sign: "bool", num: int32(e.Num)}
	case impl.ExprSelf:
		return &thing{sign: "pid", num: int32(l.self)}
	case impl.ExprNil:
		return &thing{sign: "list"}
	case impl.ExprCons:
		return l.cell(&thing{sign: "list", first: parts[0], next: parts[1]}, known)
	case impl.ExprPair:
		return l.cell(&thing{sign: "pair", first: parts[0], next: parts[1]}, known)
	case impl.ExprFst:
		return parts[0].first
	case impl.ExprSnd:
		return parts[0].next
	case impl.ExprOp:
		w := opWorth(e.Num, int64(parts[0].num), int64(parts[1].num))
		return &thing{sign: w.sign, num: w.num}
	case impl.ExprApp:
		return l.call(parts[0], parts[1], known)
	}
	if l.asks != nil {
		return l.asks(e.Kind, parts, known)
	}
	if e.Kind == impl.ExprOut {
		return &thing{sign: "int"}
	}
	panic(stops{e.Kind})
}

// call is what a function that is called comes to; where it was called something is known.
func (l *labour) call(f *thing, x *thing, known *thing) *thing {
	if len(l.waits) == 60 {
		panic(stops{impl.WantFull})
	}
	l.waits = append(l.waits, known)
	inner := l.enter(f, x)
	l.calls++
	if l.asks == nil && l.calls == 300 {
		panic(stops{impl.WantMore})
	}
	if l.asks != nil && l.calls == 40 {
		l.asks(impl.WantMore, nil, inner)
	}
	out := l.of(f.made.Kids[0], inner)
	l.waits = l.waits[:len(l.waits)-1]
	return out
}

// enter is what is known in a function that is called.
func (l *labour) enter(f *thing, x *thing) *thing {
	if f.sign == "fun" {
		return l.bind(f.next, f.made.Name, x)
	}
	return l.bind(l.bind(f.next, f.made.Name, f, x), f.made.Tail, x)
}

// machLaboured is MachOf of an expression that has a type, as the tests see it.
func machLaboured(e impl.Expr, always bool) (text string, want int, most int) {
	l := &labour{always: always}
	defer func() {
		if caught := recover(); caught != nil {
			text, want, most = "", caught.(stops).want, l.most
		}
	}()
	return l.of(e, nil).worth().told(0), impl.WantDone, l.most
}
