package tests

import (
	"math/rand"
	"slices"

	"loop.example/ensemble/impl"
)

func refTo(place int) impl.Word { return impl.Word{Tag: impl.WordRef, Num: place} }

func intWord(n int) impl.Word { return impl.Word{Tag: impl.WordInt, Num: n} }

func boolWord(n int) impl.Word { return impl.Word{Tag: impl.WordBool, Num: n} }

func pidWord(n int) impl.Word { return impl.Word{Tag: impl.WordPid, Num: n} }

func pairCell(a impl.Word, b impl.Word) impl.Cell { return impl.Cell{Kind: impl.CellPair, A: a, B: b} }

func consCell(a impl.Word, b impl.Word) impl.Cell { return impl.Cell{Kind: impl.CellCons, A: a, B: b} }

func envCell(a impl.Word, b impl.Word) impl.Cell { return impl.Cell{Kind: impl.CellEnv, A: a, B: b} }

func funCell(kind int, place int, b impl.Word) impl.Cell {
	return impl.Cell{Kind: kind, Num: place, B: b}
}

// none is nothing, and the empty list.
var none = impl.Word{}

// wordFits says whether a word is ok where there are so many cells, by the words of chapter 7.
func wordFits(w impl.Word, cells int) bool {
	bounds := map[int][2]int{
		impl.WordNone: {0, 0}, impl.WordInt: {-1 << 31, 1<<31 - 1}, impl.WordBool: {0, 1}, impl.WordPid: {0, 5}, impl.WordRef: {0, cells - 1},
	}
	b, ok := bounds[w.Tag]
	return ok && w.Num >= b[0] && w.Num <= b[1]
}

// heapFits is HeapOk, as the tests see it.
func heapFits(list []impl.Cell) bool {
	behind := map[int]int{impl.CellCons: impl.CellCons, impl.CellEnv: impl.CellEnv, impl.CellFun: impl.CellEnv, impl.CellRec: impl.CellEnv}
	for _, c := range list {
		function := c.Kind == impl.CellFun || c.Kind == impl.CellRec
		if c.Kind < 1 || c.Kind > 5 || !wordFits(c.A, len(list)) || !wordFits(c.B, len(list)) {
			return false
		}
		if function && (c.Num < 0 || c.Num > 199 || c.A != none) || !function && c.Num != 0 {
			return false
		}
		if kind := behind[c.Kind]; kind != 0 && c.B != none && (c.B.Tag != impl.WordRef || list[c.B.Num].Kind != kind) {
			return false
		}
	}
	return len(list) <= 120
}

// led are the places to which words lead, found by going through all cells again and again.
func led(list []impl.Cell, words ...impl.Word) []int {
	found := make([]bool, len(list))
	mark := func(w impl.Word) bool {
		if w.Tag != impl.WordRef || found[w.Num] {
			return false
		}
		found[w.Num] = true
		return true
	}
	for _, w := range words {
		mark(w)
	}
	for more := true; more; {
		more = false
		for i := len(list) - 1; i >= 0; i-- {
			if found[i] {
				more = mark(list[i].A) || more
				more = mark(list[i].B) || more
			}
		}
	}
	var places []int
	for i := range found {
		if found[i] {
			places = append(places, i)
		}
	}
	return places
}

// copied is what is copied behind other cells, and the words then, as the tests see it: first the order of places, then all words by it.
func copied(list []impl.Cell, words []impl.Word, to []impl.Cell) ([]impl.Cell, []impl.Word) {
	var order []int
	visit := func(w impl.Word) {
		if w.Tag == impl.WordRef && !slices.Contains(order, w.Num) {
			order = append(order, w.Num)
		}
	}
	for _, w := range words {
		visit(w)
	}
	for i := 0; i < len(order); i++ {
		visit(list[order[i]].A)
		visit(list[order[i]].B)
	}
	turned := func(w impl.Word) impl.Word {
		if w.Tag == impl.WordRef {
			return refTo(len(to) + slices.Index(order, w.Num))
		}
		return w
	}
	cells := slices.Clone(to)
	for _, place := range order {
		c := list[place]
		cells = append(cells, impl.Cell{Kind: c.Kind, Num: c.Num, A: turned(c.A), B: turned(c.B)})
	}
	var out []impl.Word
	for _, w := range words {
		out = append(out, turned(w))
	}
	return cells, out
}

// wordWorth is a word as a value, as far as its text goes.
func wordWorth(list []impl.Cell, w impl.Word, deep int) *worth {
	switch w.Tag {
	case impl.WordNone:
		return &worth{sign: "list"}
	case impl.WordInt:
		return &worth{sign: "int", num: int32(w.Num)}
	case impl.WordBool:
		return &worth{sign: "bool", num: int32(w.Num)}
	case impl.WordPid:
		return &worth{sign: "pid", num: int32(w.Num)}
	}
	c := list[w.Num]
	sign := map[int]string{impl.CellPair: "pair", impl.CellCons: "list", impl.CellEnv: "env", impl.CellFun: "fun", impl.CellRec: "fun"}[c.Kind]
	if sign != "pair" && sign != "list" {
		return &worth{sign: sign}
	}
	out := &worth{sign: sign, parts: []*worth{nil, nil}}
	if deep > 0 {
		out.parts = []*worth{wordWorth(list, c.A, deep-1), wordWorth(list, c.B, deep-1)}
	}
	return out
}

// someWord is a word that is ok where cells are of such kinds.
func someWord(r *rand.Rand, kinds []int) impl.Word {
	switch n := r.Intn(10); {
	case n < 6 && len(kinds) > 0:
		return refTo(r.Intn(len(kinds)))
	case n < 7:
		return none
	case n < 8:
		return intWord([]int{0, 1, -1, 7, 1<<31 - 1, -1 << 31}[r.Intn(6)])
	case n < 9:
		return boolWord(r.Intn(2))
	}
	return pidWord(r.Intn(impl.ProcMax))
}

// someOf is nothing, or a word that leads to a cell of a kind.
func someOf(r *rand.Rand, kinds []int, kind int) impl.Word {
	var fit []int
	for i, k := range kinds {
		if k == kind {
			fit = append(fit, i)
		}
	}
	if len(fit) == 0 || r.Intn(4) == 0 {
		return none
	}
	return refTo(fit[r.Intn(len(fit))])
}

// someCells are so many cells that are ok; they lead anywhere, to themselves, too.
func someCells(r *rand.Rand, count int) []impl.Cell {
	kinds := make([]int, count)
	for i := range kinds {
		kinds[i] = 1 + r.Intn(5)
	}
	var list []impl.Cell
	for _, kind := range kinds {
		switch kind {
		case impl.CellPair:
			list = append(list, pairCell(someWord(r, kinds), someWord(r, kinds)))
		case impl.CellCons, impl.CellEnv:
			list = append(list, impl.Cell{Kind: kind, A: someWord(r, kinds), B: someOf(r, kinds, kind)})
		default:
			list = append(list, funCell(kind, r.Intn(impl.CodeMax), someOf(r, kinds, impl.CellEnv)))
		}
	}
	return list
}

// someHeap are cells and words that are ok; mostly few, seldom as many as may be.
func someHeap(r *rand.Rand) ([]impl.Cell, []impl.Word) {
	count := r.Intn(9)
	if r.Intn(6) == 0 {
		count = r.Intn(impl.HeapMax + 1)
	}
	list := someCells(r, count)
	var words []impl.Word
	for n := r.Intn(5); n > 0; n-- {
		words = append(words, someWord(r, make([]int, count)))
	}
	return list, words
}
