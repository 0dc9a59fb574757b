package impl

import (
	"strconv"
	"strings"
)

// Kinds of expressions, ops, and limits.
const (
	ExprNum   = 1
	ExprBool  = 2
	ExprVar   = 3
	ExprFun   = 4
	ExprApp   = 5
	ExprLet   = 6
	ExprRec   = 7
	ExprIf    = 8
	ExprPair  = 9
	ExprFst   = 10
	ExprSnd   = 11
	ExprNil   = 12
	ExprCons  = 13
	ExprCase  = 14
	ExprOp    = 15
	ExprSpawn = 16
	ExprSend  = 17
	ExprSelf  = 18
	ExprRecv  = 19
	ExprOut   = 20
	ExprLink  = 21
	OpAdd     = 1
	OpSub     = 2
	OpMul     = 3
	OpDiv     = 4
	OpLess    = 5
	OpSame    = 6
	NameMax   = 4
	NodeMax   = 60
	DeepMax   = 14
	TextMax   = 400
)

// Expr is an expression: its kind, its names, its number, and its parts.
type Expr struct {
	Kind int
	Name string
	Tail string
	Num  int
	Kids []Expr
}

// reservedWords are those that are no names, because reading gives them another meaning.
var reservedWords = [...]string{
	"fun", "let", "rec", "in", "if", "then", "else", "case", "of", "nil",
	"fst", "snd", "true", "false", "spawn", "send", "self", "recv", "out", "link",
}

// opSigns are the signs of ops, that of OpAdd first.
var opSigns = [...]string{"+", "-", "*", "/", "<", "="}

// kindWord is a word that alone tells the kind of an expression.
type kindWord struct {
	word string
	kind int
}

// kindWords are the words of kinds that are a word, with as many parts behind it as the kind has.
var kindWords = [...]kindWord{
	{"fst", ExprFst}, {"snd", ExprSnd}, {"spawn", ExprSpawn}, {"send", ExprSend}, {"out", ExprOut},
	{"link", ExprLink}, {"nil", ExprNil}, {"self", ExprSelf}, {"recv", ExprRecv},
}

// rule is what a kind has: how many names and parts, the bounds of its number, and its level.
type rule struct {
	names int
	kids  int
	least int
	most  int
	level int
}

// form is an expression, seen as one of its kind.
type form interface {
	rule() rule
	write(p *pen)
}

// The kinds; those that are written alike are one type.
type (
	numForm  Expr
	boolForm Expr
	varForm  Expr
	funForm  Expr
	appForm  Expr
	letForm  Expr
	recForm  Expr
	ifForm   Expr
	pairForm Expr
	consForm Expr
	caseForm Expr
	opForm   Expr
	wordForm Expr
	headForm Expr
)

// NameOk says whether a text is a name.
func NameOk(s string) bool {
	if len(s) < 1 || len(s) > NameMax || !isLetter(s[0]) {
		return false
	}
	for i := 1; i < len(s); i++ {
		if !isWordByte(s[i]) {
			return false
		}
	}
	for _, word := range reservedWords {
		if word == s {
			return false
		}
	}
	return true
}

// ExprOk says whether an expression is ok.
func ExprOk(e Expr) bool {
	c := census{}
	return c.takes(e, 0)
}

// ExprPut writes an expression.
func ExprPut(e Expr) string {
	if !ExprOk(e) {
		return ""
	}
	text := exprText(e)
	if len(text) > TextMax {
		return ""
	}
	return text
}

// isLetter says whether a byte can begin a name.
func isLetter(b byte) bool {
	return b >= 'a' && b <= 'z'
}

// isFigure says whether a byte can stand in a number.
func isFigure(b byte) bool {
	return b >= '0' && b <= '9'
}

// isWordByte says whether a byte can stand in a word.
func isWordByte(b byte) bool {
	return isLetter(b) || isFigure(b)
}

// census counts parts while they are looked at, so that one without an end is left early.
type census struct {
	parts int
}

// takes says whether an expression that stands in so many others, with all of its parts, is as its kind asks, and not too many.
func (c *census) takes(e Expr, around int) bool {
	c.parts++
	if c.parts > NodeMax || around > DeepMax-1 || !hasItsOwn(e) {
		return false
	}
	for _, kid := range e.Kids {
		if !c.takes(kid, around+1) {
			return false
		}
	}
	return true
}

// hasItsOwn says whether an expression has what its kind has, and nothing else; its parts are not looked at.
func hasItsOwn(e Expr) bool {
	f := formOf(e)
	if f == nil {
		return false
	}
	r := f.rule()
	return len(e.Kids) == r.kids && e.Num >= r.least && e.Num <= r.most && namesFit(e, r.names)
}

// namesFit says whether an expression has just so many names, of which no two are the same.
func namesFit(e Expr, names int) bool {
	switch names {
	case 0:
		return e.Name == "" && e.Tail == ""
	case 1:
		return NameOk(e.Name) && e.Tail == ""
	}
	return NameOk(e.Name) && NameOk(e.Tail) && e.Name != e.Tail
}

// formOf is an expression as one of its kind, nil if there is no such kind.
func formOf(e Expr) form {
	switch e.Kind {
	case ExprNum:
		return numForm(e)
	case ExprBool:
		return boolForm(e)
	case ExprVar:
		return varForm(e)
	case ExprFun:
		return funForm(e)
	case ExprApp:
		return appForm(e)
	case ExprLet:
		return letForm(e)
	case ExprRec:
		return recForm(e)
	case ExprIf:
		return ifForm(e)
	case ExprPair:
		return pairForm(e)
	case ExprCons:
		return consForm(e)
	case ExprCase:
		return caseForm(e)
	case ExprOp:
		return opForm(e)
	case ExprNil, ExprSelf, ExprRecv:
		return wordForm(e)
	case ExprFst, ExprSnd, ExprSpawn, ExprSend, ExprOut, ExprLink:
		return headForm(e)
	}
	return nil
}

// wordOfKind is the word that tells a kind, empty if it has none.
func wordOfKind(kind int) string {
	for _, k := range kindWords {
		if k.kind == kind {
			return k.word
		}
	}
	return ""
}

// kindOfWord is the kind that a word tells, 0 if it tells none.
func kindOfWord(word string) int {
	for _, k := range kindWords {
		if k.word == word {
			return k.kind
		}
	}
	return 0
}

// opOfSign is the op of a sign, 0 if it is that of none.
func opOfSign(sign string) int {
	for i, s := range opSigns {
		if s == sign {
			return OpAdd + i
		}
	}
	return 0
}

// levelOfOp is the level of an expression that does this op.
func levelOfOp(op int) int {
	switch op {
	case OpAdd, OpSub:
		return 3
	case OpMul, OpDiv:
		return 4
	}
	return 1
}

// isTruth says whether an op makes a truth of numbers.
func isTruth(op int) bool {
	return op == OpLess || op == OpSame
}

// exprText is the text of an expression that is ok, however long.
func exprText(e Expr) string {
	p := pen{}
	p.part(e, 0)
	return p.text.String()
}

// pen writes expressions that are ok.
type pen struct {
	text strings.Builder
}

// say writes words as they are.
func (p *pen) say(words ...string) {
	for _, word := range words {
		p.text.WriteString(word)
	}
}

// part writes a part that must be of a level.
func (p *pen) part(e Expr, level int) {
	f := formOf(e)
	if f.rule().level >= level {
		f.write(p)
		return
	}
	p.say("(")
	f.write(p)
	p.say(")")
}

func (f numForm) rule() rule { return rule{most: 999999, level: 6} }

func (f numForm) write(p *pen) { p.say(strconv.Itoa(f.Num)) }

func (f boolForm) rule() rule { return rule{most: 1, level: 6} }

func (f boolForm) write(p *pen) { p.say(truthText(f.Num == 1)) }

// truthText is the word of a truth.
func truthText(truth bool) string {
	if truth {
		return "true"
	}
	return "false"
}

func (f varForm) rule() rule { return rule{names: 1, level: 6} }

func (f varForm) write(p *pen) { p.say(f.Name) }

func (f funForm) rule() rule { return rule{names: 1, kids: 1} }

func (f funForm) write(p *pen) {
	p.say("fun ", f.Name, " -> ")
	p.part(f.Kids[0], 0)
}

func (f appForm) rule() rule { return rule{kids: 2, level: 5} }

func (f appForm) write(p *pen) {
	p.part(f.Kids[0], 5)
	p.say(" ")
	p.part(f.Kids[1], 6)
}

func (f letForm) rule() rule { return rule{names: 1, kids: 2} }

func (f letForm) write(p *pen) {
	p.say("let ", f.Name, " = ")
	p.part(f.Kids[0], 0)
	p.say(" in ")
	p.part(f.Kids[1], 0)
}

func (f recForm) rule() rule { return rule{names: 2, kids: 2} }

func (f recForm) write(p *pen) {
	p.say("rec ", f.Name, " ", f.Tail, " = ")
	p.part(f.Kids[0], 0)
	p.say(" in ")
	p.part(f.Kids[1], 0)
}

func (f ifForm) rule() rule { return rule{kids: 3} }

func (f ifForm) write(p *pen) {
	p.say("if ")
	p.part(f.Kids[0], 0)
	p.say(" then ")
	p.part(f.Kids[1], 0)
	p.say(" else ")
	p.part(f.Kids[2], 0)
}

func (f pairForm) rule() rule { return rule{kids: 2, level: 6} }

func (f pairForm) write(p *pen) {
	p.say("(")
	p.part(f.Kids[0], 0)
	p.say(", ")
	p.part(f.Kids[1], 0)
	p.say(")")
}

func (f consForm) rule() rule { return rule{kids: 2, level: 2} }

func (f consForm) write(p *pen) {
	p.part(f.Kids[0], 3)
	p.say(" :: ")
	p.part(f.Kids[1], 2)
}

func (f caseForm) rule() rule { return rule{names: 2, kids: 3} }

func (f caseForm) write(p *pen) {
	p.say("case ")
	p.part(f.Kids[0], 0)
	p.say(" of nil -> ")
	p.part(f.Kids[1], 1)
	p.say(" | ", f.Name, " :: ", f.Tail, " -> ")
	p.part(f.Kids[2], 0)
}

func (f opForm) rule() rule {
	return rule{kids: 2, least: OpAdd, most: OpSame, level: levelOfOp(f.Num)}
}

func (f opForm) write(p *pen) {
	level := levelOfOp(f.Num)
	p.part(f.Kids[0], level)
	p.say(" ", opSigns[f.Num-OpAdd], " ")
	p.part(f.Kids[1], level+1)
}

func (f wordForm) rule() rule { return rule{level: 6} }

func (f wordForm) write(p *pen) { p.say(wordOfKind(f.Kind)) }

func (f headForm) rule() rule {
	if f.Kind == ExprSend {
		return rule{kids: 2, level: 5}
	}
	return rule{kids: 1, level: 5}
}

func (f headForm) write(p *pen) {
	p.say(wordOfKind(f.Kind))
	for _, kid := range f.Kids {
		p.say(" ")
		p.part(kid, 6)
	}
}
