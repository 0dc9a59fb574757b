package tests

import (
	"strconv"
	"strings"

	"loop.example/ensemble/impl"
)

// kindOf is a type as a tree: a word, or a sign with one or two parts; a letter has a number alone.
type kindOf struct {
	sign   string
	letter int
	parts  []*kindOf
}

func plain(word string) *kindOf { return &kindOf{sign: word} }

func signed(sign string, parts ...*kindOf) *kindOf { return &kindOf{sign: sign, parts: parts} }

// noType is what guessing panics with.
type noType struct{}

// guess finds types by the rules of chapter 4: letters are put in, one by one, for what they must be.
type guess struct {
	letters int
	put     map[int]*kindOf
	told    *kindOf
}

func (g *guess) letter() *kindOf {
	g.letters++
	return &kindOf{letter: g.letters}
}

// now is a type as it is known now, all letters put in.
func (g *guess) now(k *kindOf) *kindOf {
	if k.sign == "" {
		if other, ok := g.put[k.letter]; ok {
			return g.now(other)
		}
		return k
	}
	out := &kindOf{sign: k.sign}
	for _, part := range k.parts {
		out.parts = append(out.parts, g.now(part))
	}
	return out
}

// lettersIn adds the letters of a type that is known as it is now.
func lettersIn(k *kindOf, found map[int]bool) {
	if k.sign == "" {
		found[k.letter] = true
	}
	for _, part := range k.parts {
		lettersIn(part, found)
	}
}

func partsIn(k *kindOf) int {
	n := 1
	for _, part := range k.parts {
		n += partsIn(part)
	}
	return n
}

// equal asks that two types are one.
func (g *guess) equal(x *kindOf, y *kindOf) {
	x, y = g.now(x), g.now(y)
	if x.sign != "" && y.sign == "" {
		x, y = y, x
	}
	if x.sign == "" {
		if y.sign == "" && x.letter == y.letter {
			return
		}
		inside := map[int]bool{}
		lettersIn(y, inside)
		if inside[x.letter] {
			panic(noType{})
		}
		g.put[x.letter] = y
		return
	}
	if x.sign != y.sign {
		panic(noType{})
	}
	for i := range x.parts {
		g.equal(x.parts[i], y.parts[i])
	}
}

// guessed is a name with its type, and the letters that are others each time.
type guessed struct {
	name string
	kind *kindOf
	each map[int]bool
}

// other is a type with other letters for some.
func other(k *kindOf, letters map[int]*kindOf) *kindOf {
	if k.sign == "" {
		if l, ok := letters[k.letter]; ok {
			return l
		}
		return k
	}
	out := &kindOf{sign: k.sign}
	for _, part := range k.parts {
		out.parts = append(out.parts, other(part, letters))
	}
	return out
}

func bound(around []guessed, names ...guessed) []guessed {
	return append(append([]guessed{}, around...), names...)
}

// general is a name of ExprLet or ExprRec as it is in B.
func (g *guess) general(name string, k *kindOf, around []guessed) guessed {
	k = g.now(k)
	if partsIn(k) > impl.TypeMax {
		panic(noType{})
	}
	held := map[int]bool{}
	lettersIn(g.now(g.told), held)
	for _, a := range around {
		outside := map[int]bool{}
		lettersIn(g.now(a.kind), outside)
		for l := range outside {
			if !a.each[l] {
				held[l] = true
			}
		}
	}
	each := map[int]bool{}
	lettersIn(k, each)
	for l := range held {
		delete(each, l)
	}
	return guessed{name, k, each}
}

func (g *guess) variable(e impl.Expr, around []guessed) *kindOf {
	for i := len(around) - 1; i >= 0; i-- {
		if around[i].name == e.Name {
			others := map[int]*kindOf{}
			for l := range around[i].each {
				others[l] = g.letter()
			}
			return other(around[i].kind, others)
		}
	}
	panic(noType{})
}

// of is the type of an expression, where so much is bound around it.
func (g *guess) of(e impl.Expr, around []guessed) *kindOf {
	truth, num, pid := plain("bool"), plain("int"), plain("pid")
	switch e.Kind {
	case impl.ExprNum:
		return num
	case impl.ExprBool:
		return truth
	case impl.ExprVar:
		return g.variable(e, around)
	case impl.ExprSelf:
		return pid
	case impl.ExprRecv:
		return g.told
	case impl.ExprNil:
		return signed("list", g.letter())
	case impl.ExprFun:
		t := g.letter()
		return signed("->", t, g.of(e.Kids[0], bound(around, guessed{name: e.Name, kind: t})))
	case impl.ExprRec:
		t, u := g.letter(), g.letter()
		f := signed("->", t, u)
		g.equal(u, g.of(e.Kids[0], bound(around, guessed{name: e.Name, kind: f}, guessed{name: e.Tail, kind: t})))
		return g.of(e.Kids[1], bound(around, g.general(e.Name, f, around)))
	}
	a := g.of(e.Kids[0], around)
	switch e.Kind {
	case impl.ExprLet:
		return g.of(e.Kids[1], bound(around, g.general(e.Name, a, around)))
	case impl.ExprSpawn:
		g.equal(a, signed("->", num, num))
		return pid
	case impl.ExprOut:
		g.equal(a, num)
		return num
	case impl.ExprLink:
		g.equal(a, pid)
		return num
	case impl.ExprPair:
		return signed("*", a, g.of(e.Kids[1], around))
	}
	return g.further(e, a, around)
}

// further is of in which A is known.
func (g *guess) further(e impl.Expr, a *kindOf, around []guessed) *kindOf {
	t, u := g.letter(), g.letter()
	switch e.Kind {
	case impl.ExprFst, impl.ExprSnd:
		g.equal(a, signed("*", t, u))
		if e.Kind == impl.ExprSnd {
			return u
		}
		return t
	case impl.ExprApp:
		g.equal(a, signed("->", t, u))
		g.equal(g.of(e.Kids[1], around), t)
		return u
	case impl.ExprIf:
		g.equal(a, plain("bool"))
		b := g.of(e.Kids[1], around)
		g.equal(g.of(e.Kids[2], around), b)
		return b
	case impl.ExprCons:
		list := signed("list", a)
		g.equal(g.of(e.Kids[1], around), list)
		return list
	case impl.ExprCase:
		g.equal(a, signed("list", t))
		b := g.of(e.Kids[1], around)
		g.equal(g.of(e.Kids[2], bound(around, guessed{name: e.Name, kind: t}, guessed{name: e.Tail, kind: a})), b)
		return b
	case impl.ExprSend:
		g.equal(a, plain("pid"))
		g.equal(g.of(e.Kids[1], around), g.told)
		return plain("int")
	}
	g.equal(a, plain("int"))
	g.equal(g.of(e.Kids[1], around), plain("int"))
	if e.Num == impl.OpLess || e.Num == impl.OpSame {
		return plain("bool")
	}
	return plain("int")
}

// written is the text of a type, letters being named as they come.
func written(k *kindOf, names map[int]string) string {
	if k.sign == "" {
		if names[k.letter] == "" {
			names[k.letter] = string(rune('a' + len(names)))
		}
		return names[k.letter]
	}
	in := func(part *kindOf, signs ...string) string {
		text := written(part, names)
		for _, s := range signs {
			if part.sign == s {
				return "(" + text + ")"
			}
		}
		return text
	}
	switch k.sign {
	case "->":
		return in(k.parts[0], "->") + " -> " + in(k.parts[1])
	case "*":
		return in(k.parts[0], "->", "*") + " * " + in(k.parts[1], "->", "*")
	case "list":
		return in(k.parts[0], "->", "*") + " list"
	}
	return k.sign
}

// typeGuessed is TypeOf of an expression that is ok, as the tests see it.
func typeGuessed(e impl.Expr) (text string, told string, ok bool) {
	defer func() {
		if caught := recover(); caught != nil {
			if _, none := caught.(noType); !none {
				panic(caught)
			}
			text, told, ok = "", "", false
		}
	}()
	g := &guess{put: map[int]*kindOf{}}
	g.told = g.letter()
	k := g.of(e, nil)
	k, m := g.now(k), g.now(g.told)
	names := map[int]string{}
	text, told = written(k, names), written(m, names)
	if partsIn(k) > impl.TypeMax || partsIn(m) > impl.TypeMax || len(names) > 26 {
		return "", "", false
	}
	return text, told, true
}

// typeTree reads the text of a type that is one, letters being numbered from a on.
func typeTree(s string) *kindOf {
	for _, sign := range []string{"(", ")", "->", "*"} {
		s = strings.ReplaceAll(s, sign, " "+sign+" ")
	}
	words := strings.Fields(s)
	k, rest := treeFrom(words, 0)
	if len(rest) > 0 {
		panic("no type: " + strconv.Quote(s))
	}
	return k
}

// treeFrom reads what stands at a level: 0 with `->`, 1 with `*`, 2 with list, 3 a word or parentheses.
func treeFrom(words []string, level int) (*kindOf, []string) {
	if level == 3 {
		if words[0] == "(" {
			k, rest := treeFrom(words[1:], 0)
			return k, rest[1:]
		}
		if len(words[0]) == 1 {
			return &kindOf{letter: int(words[0][0]-'a') + 1}, words[1:]
		}
		return plain(words[0]), words[1:]
	}
	k, rest := treeFrom(words, level+1)
	for level == 2 && len(rest) > 0 && rest[0] == "list" {
		k, rest = signed("list", k), rest[1:]
	}
	if level == 1 && len(rest) > 0 && rest[0] == "*" {
		right, behind := treeFrom(rest[1:], 2)
		return signed("*", k, right), behind
	}
	if level == 0 && len(rest) > 0 && rest[0] == "->" {
		right, behind := treeFrom(rest[1:], 0)
		return signed("->", k, right), behind
	}
	return k, rest
}
