package impl

import (
	"iter"
	"strconv"
)

// ExprGet reads an expression.
func ExprGet(s string) (Expr, bool) {
	if len(s) > TextMax {
		return Expr{}, false
	}
	e, ok := readAll(s, (*reader).whole)
	if !ok || ExprPut(e) == "" {
		return Expr{}, false
	}
	return e, true
}

// misread is what reading panics with: the place among the words at which the text is none.
type misread struct {
	at int
}

// readAll reads a text by a rule that must take all of its words; here alone what is wrong is caught.
func readAll[T any](s string, rule func(r *reader) T) (out T, ok bool) {
	defer func() {
		caught := recover()
		if caught == nil {
			return
		}
		if _, wrong := caught.(misread); !wrong {
			panic(caught)
		}
		var nothing T
		out, ok = nothing, false
	}()
	r := reader{}
	for word := range wordsOf(s) {
		r.words = append(r.words, word)
	}
	out = rule(&r)
	if r.at < len(r.words) {
		r.refuse()
	}
	return out, true
}

// wordsOf gives the words and signs of a text, from the left. A byte that is part of none is given alone: no rule takes it.
func wordsOf(s string) iter.Seq[string] {
	return func(yield func(string) bool) {
		at := 0
		for at < len(s) {
			if s[at] == ' ' {
				at++
				continue
			}
			end := at + wordSize(s[at:])
			if !yield(s[at:end]) {
				return
			}
			at = end
		}
	}
}

// wordSize is how many bytes the word or sign has with which a text begins.
func wordSize(s string) int {
	if len(s) > 1 && (s[:2] == "->" || s[:2] == "::") {
		return 2
	}
	size := 0
	for size < len(s) && isWordByte(s[size]) {
		size++
	}
	return max(size, 1)
}

// reader reads expressions from words.
type reader struct {
	words []string
	at    int
}

// refuse ends reading: what stands here is wrong.
func (r *reader) refuse() {
	panic(misread{r.at})
}

// look is the next word, empty if there is none.
func (r *reader) look() string {
	if r.at < len(r.words) {
		return r.words[r.at]
	}
	return ""
}

// take goes past the next word.
func (r *reader) take() string {
	word := r.look()
	if word == "" {
		r.refuse()
	}
	r.at++
	return word
}

// need goes past words that must stand here.
func (r *reader) need(words ...string) {
	for _, word := range words {
		if r.look() != word {
			r.refuse()
		}
		r.at++
	}
}

// name goes past a name.
func (r *reader) name() string {
	if !NameOk(r.look()) {
		r.refuse()
	}
	return r.take()
}

// whole reads an expression that goes on as far as it can.
func (r *reader) whole() Expr {
	switch r.look() {
	case "fun":
		return r.function()
	case "let":
		return r.let()
	case "rec":
		return r.recursive()
	case "if":
		return r.choice()
	case "case":
		return r.cases()
	}
	return r.level(1)
}

func (r *reader) function() Expr {
	r.need("fun")
	name := r.name()
	r.need("->")
	body := r.whole()
	return Expr{Kind: ExprFun, Name: name, Kids: []Expr{body}}
}

func (r *reader) let() Expr {
	r.need("let")
	name := r.name()
	r.need("=")
	value := r.whole()
	r.need("in")
	rest := r.whole()
	return Expr{Kind: ExprLet, Name: name, Kids: []Expr{value, rest}}
}

func (r *reader) recursive() Expr {
	r.need("rec")
	name := r.name()
	tail := r.name()
	r.need("=")
	body := r.whole()
	r.need("in")
	rest := r.whole()
	return Expr{Kind: ExprRec, Name: name, Tail: tail, Kids: []Expr{body, rest}}
}

func (r *reader) choice() Expr {
	r.need("if")
	truth := r.whole()
	r.need("then")
	yes := r.whole()
	r.need("else")
	no := r.whole()
	return Expr{Kind: ExprIf, Kids: []Expr{truth, yes, no}}
}

func (r *reader) cases() Expr {
	r.need("case")
	list := r.whole()
	r.need("of", "nil", "->")
	none := r.level(1)
	r.need("|")
	name := r.name()
	r.need("::")
	tail := r.name()
	r.need("->")
	some := r.whole()
	return Expr{Kind: ExprCase, Name: name, Tail: tail, Kids: []Expr{list, none, some}}
}

// level reads what is of a level, 1 to 6.
func (r *reader) level(n int) Expr {
	switch n {
	case 2:
		return r.list()
	case 5:
		return r.calls()
	case 6:
		return r.single()
	}
	e := r.level(n + 1)
	for {
		op := opOfSign(r.look())
		if op == 0 || levelOfOp(op) != n {
			return e
		}
		r.take()
		right := r.level(n + 1)
		e = Expr{Kind: ExprOp, Num: op, Kids: []Expr{e, right}}
	}
}

func (r *reader) list() Expr {
	head := r.level(3)
	if r.look() != "::" {
		return head
	}
	r.take()
	rest := r.list()
	return Expr{Kind: ExprCons, Kids: []Expr{head, rest}}
}

func (r *reader) calls() Expr {
	e := r.headed()
	for r.singleFollows() {
		value := r.single()
		e = Expr{Kind: ExprApp, Kids: []Expr{e, value}}
	}
	return e
}

// headed reads a word with the parts that it asks for, or what is of level 6.
func (r *reader) headed() Expr {
	kind := kindOfWord(r.look())
	parts := partsBehind(kind)
	if parts == 0 {
		return r.single()
	}
	r.take()
	e := Expr{Kind: kind, Kids: make([]Expr, parts)}
	for i := range e.Kids {
		e.Kids[i] = r.single()
	}
	return e
}

// partsBehind is how many parts stand behind the word of a kind, 0 if it has no word.
func partsBehind(kind int) int {
	f := formOf(Expr{Kind: kind})
	if f == nil {
		return 0
	}
	return f.rule().kids
}

// singleFollows says whether what comes next begins something of level 6.
func (r *reader) singleFollows() bool {
	word := r.look()
	if word == "(" || word == "true" || word == "false" || isNumber(word) || NameOk(word) {
		return true
	}
	kind := kindOfWord(word)
	return kind != 0 && partsBehind(kind) == 0
}

// single reads what is of level 6.
func (r *reader) single() Expr {
	if !r.singleFollows() {
		r.refuse()
	}
	word := r.take()
	switch word {
	case "(":
		return r.enclosed()
	case "false":
		return Expr{Kind: ExprBool}
	case "true":
		return Expr{Kind: ExprBool, Num: 1}
	}
	if kind := kindOfWord(word); kind != 0 {
		return Expr{Kind: kind}
	}
	if isFigure(word[0]) {
		return Expr{Kind: ExprNum, Num: r.number(word)}
	}
	return Expr{Kind: ExprVar, Name: word}
}

// enclosed reads what stands behind an open parenthesis, to the one that closes it.
func (r *reader) enclosed() Expr {
	e := r.whole()
	if r.look() == "," {
		r.take()
		second := r.whole()
		e = Expr{Kind: ExprPair, Kids: []Expr{e, second}}
	}
	r.need(")")
	return e
}

// isNumber says whether a word is a number as numbers are written: 1 to 6 figures, no nought ahead but of 0 itself.
func isNumber(word string) bool {
	if len(word) < 1 || len(word) > 6 || word[0] == '0' && len(word) > 1 {
		return false
	}
	for i := 0; i < len(word); i++ {
		if !isFigure(word[i]) {
			return false
		}
	}
	return true
}

// number is the number of a word that is one.
func (r *reader) number(word string) int {
	n, err := strconv.Atoi(word)
	if err != nil {
		r.refuse()
	}
	return n
}
