package tests

import (
	"slices"
	"strconv"
	"strings"

	"loop.example/ensemble/impl"
)

// opWords are the words of ops in the order of chapter 6.
var opWords = strings.Fields("num bool var fun rec call bind drop if go pair fst snd nil cons case op spawn send self recv out link give")

// wordsWithNum are those with a Num behind.
var wordsWithNum = strings.Fields("num bool var fun rec drop if go case op")

// sheet is code in lines, in which places are still labels: `@N` alone stands where a label is, and behind a word it leads there.
// What is to be written of a name, and of a function, is that of chapter 6, if it is not told otherwise.
type sheet struct {
	lines  []string
	labels int
	bodies []func()
	named  func(name string, names []string)
	made   func(e impl.Expr, names []string)
}

func (s *sheet) line(words ...string) { s.lines = append(s.lines, strings.Join(words, " ")) }

func (s *sheet) label() string {
	s.labels++
	return "@" + strconv.Itoa(s.labels)
}

// kindsByWord are the kinds of chapter 1 that are their parts and a word.
var kindsByWord = map[int]string{
	impl.ExprApp: "call", impl.ExprPair: "pair", impl.ExprFst: "fst", impl.ExprSnd: "snd", impl.ExprNil: "nil", impl.ExprCons: "cons",
	impl.ExprSpawn: "spawn", impl.ExprSend: "send", impl.ExprSelf: "self", impl.ExprRecv: "recv", impl.ExprOut: "out", impl.ExprLink: "link",
}

// of writes the lines of a part.
func (s *sheet) of(e impl.Expr, names []string) {
	num := strconv.Itoa(e.Num)
	in := func(place int) []string { return slices.Concat(names, bindsIn(e, place)) }
	kid := func(place int) { s.of(e.Kids[place], in(place)) }
	switch e.Kind {
	case impl.ExprNum:
		s.line("num", num)
	case impl.ExprBool:
		s.line("bool", num)
	case impl.ExprVar:
		s.name(e.Name, names)
	case impl.ExprFun:
		s.function("fun", e, names)
	case impl.ExprRec:
		s.function("rec", e, names)
		s.line("bind")
		kid(1)
		s.line("drop 1")
	case impl.ExprLet:
		kid(0)
		s.line("bind")
		kid(1)
		s.line("drop 1")
	case impl.ExprIf, impl.ExprCase:
		s.ways(e, kid)
	default:
		for i := range e.Kids {
			kid(i)
		}
		if e.Kind == impl.ExprOp {
			s.line("op", num)
			return
		}
		s.line(kindsByWord[e.Kind])
	}
}

// ways writes the lines of ExprIf and ExprCase.
func (s *sheet) ways(e impl.Expr, kid func(place int)) {
	other, end := s.label(), s.label()
	kid(0)
	if e.Kind == impl.ExprIf {
		s.line("if", other)
		kid(1)
	} else {
		s.line("case", other)
		kid(2)
		s.line("drop 2")
	}
	s.line("go", end)
	s.line(other)
	kid(map[int]int{impl.ExprIf: 2, impl.ExprCase: 1}[e.Kind])
	s.line(end)
}

// name writes the line of a name.
func (s *sheet) name(name string, names []string) {
	if s.named != nil {
		s.named(name, names)
		return
	}
	later := 0
	for names[len(names)-1-later] != name {
		later++
	}
	s.line("var", strconv.Itoa(later))
}

// function writes the line that makes a function; its body is written later.
func (s *sheet) function(word string, e impl.Expr, names []string) {
	if s.made != nil {
		s.made(e, names)
		return
	}
	label := s.label()
	s.line(word, label)
	s.bodies = append(s.bodies, func() {
		s.line(label)
		s.of(e.Kids[0], slices.Concat(names, bindsIn(e, 0)))
		s.line("give")
	})
}

// text is the lines, once labels are places.
func (s *sheet) text() string {
	places := map[string]string{}
	var ops []string
	for _, line := range s.lines {
		if line[0] == '@' {
			places[line] = strconv.Itoa(len(ops))
			continue
		}
		ops = append(ops, line)
	}
	for i, line := range ops {
		if word, label, ok := strings.Cut(line, " @"); ok {
			ops[i] = word + " " + places["@"+label]
		}
	}
	return strings.Join(ops, "\n") + "\n"
}

// codeLabelled is the text of the code of an expression that has a type, as the tests see it.
func codeLabelled(e impl.Expr) string {
	s := &sheet{}
	s.of(e, nil)
	s.line("give")
	for len(s.bodies) > 0 {
		next := s.bodies[0]
		s.bodies = s.bodies[1:]
		next()
	}
	return s.text()
}

// codeLines is the text of ops, be they ok or not, if their kinds are.
func codeLines(list []impl.Op) string {
	text := ""
	for _, op := range list {
		word := opWords[op.Kind-1]
		text += word
		if slices.Contains(wordsWithNum, word) {
			text += " " + strconv.Itoa(op.Num)
		}
		text += "\n"
	}
	return text
}

// opsOf are ops written with `;` between.
func opsOf(text string) []impl.Op {
	var list []impl.Op
	for _, line := range strings.Split(text, ";") {
		fields := strings.Fields(line)
		op := impl.Op{Kind: slices.Index(opWords, fields[0]) + 1}
		if len(fields) > 1 {
			op.Num, _ = strconv.Atoi(fields[1])
		}
		list = append(list, op)
	}
	return list
}

// numBounds are the least and the greatest Num of an op in code of so many.
func numBounds(kind int, size int) (int, int) {
	switch kind {
	case impl.CodeNum:
		return 0, 999999
	case impl.CodeBool:
		return 0, 1
	case impl.CodeVar:
		return 0, 60
	case impl.CodeFun, impl.CodeRec, impl.CodeIf, impl.CodeGo, impl.CodeCase:
		return 0, size - 1
	case impl.CodeDrop:
		return 1, 2
	case impl.CodeOp:
		return 1, 6
	}
	return 0, 0
}

// takesAndPuts are how many values ops take and put, by the words of chapter 6.
func takesAndPuts(kind int) (int, int) {
	word := " " + opWords[kind-1] + " "
	switch {
	case strings.Contains(" call pair cons op send ", word):
		return 2, 1
	case strings.Contains(" fst snd spawn out link ", word):
		return 1, 1
	case strings.Contains(" bind if case ", word):
		return 1, 0
	case strings.Contains(" go drop give ", word):
		return 0, 0
	}
	return 0, 1
}

// codeFits is CodeOk, as the tests see it: all ways are gone, one behind the other, each to where it was gone already.
func codeFits(list []impl.Op) bool {
	if len(list) == 0 || len(list) > 200 {
		return false
	}
	for _, op := range list {
		if op.Kind < 1 || op.Kind > 24 {
			return false
		}
		if least, most := numBounds(op.Kind, len(list)); op.Num < least || op.Num > most {
			return false
		}
	}
	return wayFits(list, 0, 0, 0, map[int][2]int{})
}

func wayFits(list []impl.Op, at int, names int, values int, seen map[int][2]int) bool {
	if at >= len(list) || names < 0 || values < 0 {
		return false
	}
	if was, ok := seen[at]; ok {
		return was == [2]int{names, values}
	}
	seen[at] = [2]int{names, values}
	op := list[at]
	takes, puts := takesAndPuts(op.Kind)
	if values < takes {
		return false
	}
	after := values - takes + puts
	on := func(place int, names int, values int) bool { return wayFits(list, place, names, values, seen) }
	switch op.Kind {
	case impl.CodeVar:
		return op.Num < names && on(at+1, names, after)
	case impl.CodeFun:
		return on(op.Num, names+1, 0) && on(at+1, names, after)
	case impl.CodeRec:
		return on(op.Num, names+2, 0) && on(at+1, names, after)
	case impl.CodeBind:
		return on(at+1, names+1, after)
	case impl.CodeDrop:
		return on(at+1, names-op.Num, after)
	case impl.CodeIf:
		return on(op.Num, names, after) && on(at+1, names, after)
	case impl.CodeCase:
		return on(op.Num, names, after) && on(at+1, names+2, after)
	case impl.CodeGo:
		return on(op.Num, names, after)
	case impl.CodeGive:
		return values == 1
	}
	return on(at+1, names, after)
}

// doing does ops, one by one; what is known is a list, the last name last.
type doing struct {
	list []impl.Op
	does thought
}

// kindByOp is the kind of an expression that does with values what an op does.
func kindByOp(op impl.Op) int {
	for kind, word := range kindsByWord {
		if opWords[op.Kind-1] == word {
			return kind
		}
	}
	return map[int]int{impl.CodeNum: impl.ExprNum, impl.CodeBool: impl.ExprBool, impl.CodeOp: impl.ExprOp}[op.Kind]
}

// going is where it is gone on, what is known there, the last name last, and values that were not taken yet.
type going struct {
	at     int
	known  []*worth
	values []*worth
}

// take takes the last values.
func (g *going) take(count int) []*worth {
	left := len(g.values) - count
	parts := slices.Clone(g.values[left:])
	g.values = g.values[:left]
	return parts
}

// one does an op that took these values, be it of code or of flat functions; what it does not do itself a thought does.
func (g *going) one(op impl.Op, parts []*worth, d *thought) {
	switch op.Kind {
	case impl.CodeBind:
		g.known = slices.Concat(g.known, parts)
	case impl.CodeDrop:
		g.known = g.known[:len(g.known)-op.Num]
	case impl.CodeGo:
		g.at = op.Num
	case impl.CodeIf:
		if parts[0].num == 0 {
			g.at = op.Num
		}
	case impl.CodeCase:
		if len(parts[0].parts) == 0 {
			g.at = op.Num
		}
		g.known = slices.Concat(g.known, parts[0].parts)
	default:
		g.values = append(g.values, d.does(impl.Expr{Kind: kindByOp(op), Num: op.Num}, parts))
	}
}

// from is what is given back, if it is gone on at a place, so much being known.
func (d *doing) from(at int, known []*worth) *worth {
	g := going{at: at, known: known}
	for {
		op := d.list[g.at]
		takes, _ := takesAndPuts(op.Kind)
		parts := g.take(takes)
		g.at++
		switch op.Kind {
		case impl.CodeVar:
			g.values = append(g.values, g.known[len(g.known)-1-op.Num])
		case impl.CodeFun, impl.CodeRec:
			g.values = append(g.values, d.function(op, g.known))
		case impl.CodeGive:
			return g.values[0]
		default:
			g.one(op, parts, &d.does)
		}
	}
}

func (d *doing) function(op impl.Op, known []*worth) *worth {
	f := &worth{sign: "fun"}
	f.call = func(_ *thought, x *worth) *worth {
		if op.Kind == impl.CodeRec {
			return d.from(op.Num, slices.Concat(known, []*worth{f, x}))
		}
		return d.from(op.Num, slices.Concat(known, []*worth{x}))
	}
	return f
}

// codeDone is what code of an expression comes to, told as EvalOf tells it.
func codeDone(list []impl.Op) (text string, want int) {
	defer func() {
		if caught := recover(); caught != nil {
			text, want = "", caught.(stops).want
		}
	}()
	d := &doing{list: list}
	return d.from(0, nil).told(0), impl.WantDone
}
