package tests

import (
	"math/rand"
	"slices"

	"loop.example/ensemble/impl"
)

// sameSeen is SameHeap, as the tests see it: all cells of both lie together, and are told apart, as far as they can be, until nothing more is.
func sameSeen(x []impl.Cell, v impl.Word, y []impl.Cell, w impl.Word) bool {
	if !heapFits(x) || !heapFits(y) || !wordFits(v, len(x)) || !wordFits(w, len(y)) {
		return false
	}
	behind := func(w impl.Word) impl.Word {
		if w.Tag == impl.WordRef {
			w.Num += len(x)
		}
		return w
	}
	all := slices.Clone(x)
	for _, c := range y {
		all = append(all, impl.Cell{Kind: c.Kind, Num: c.Num, A: behind(c.A), B: behind(c.B)})
	}
	class := make([]int, len(all))
	seen := func(w impl.Word) impl.Word {
		if w.Tag == impl.WordRef {
			w.Num = class[w.Num]
		}
		return w
	}
	for count := 0; ; {
		numbers := map[impl.Cell]int{}
		next := make([]int, len(all))
		for i, c := range all {
			c.A, c.B = seen(c.A), seen(c.B)
			if _, ok := numbers[c]; !ok {
				numbers[c] = len(numbers)
			}
			next[i] = numbers[c]
		}
		class = next
		if len(numbers) == count {
			return seen(v) == seen(behind(w))
		}
		count = len(numbers)
	}
}

// deepSeen is SameDeep of cells and a word that are ok, as the tests see it: how deep all cells are, as far as it is known, again and again.
func deepSeen(list []impl.Cell, w impl.Word) int {
	deep := make([]int, len(list))
	of := func(w impl.Word) int {
		if w.Tag == impl.WordRef {
			return deep[w.Num]
		}
		return 0
	}
	for range 14 {
		next := make([]int, len(list))
		for i, c := range list {
			next[i] = 1 + max(of(c.A), of(c.B))
		}
		deep = next
	}
	return of(w)
}

// ringsSeen is SameRings of cells that are ok, as the tests see it.
func ringsSeen(list []impl.Cell) []int {
	var places []int
	for i, c := range list {
		if slices.Contains(led(list, c.A, c.B), i) {
			places = append(places, i)
		}
	}
	return places
}

// saidAgain are other cells that say the same, and a word: each cell stands there once or more often, in any order, others between them.
func saidAgain(r *rand.Rand, list []impl.Cell, w impl.Word) ([]impl.Cell, impl.Word) {
	needed := led(list, w)
	var from []int // of each place what stands there
	for _, place := range needed {
		for n := 1 + r.Intn(3); n > 0; n-- {
			from = append(from, place)
		}
	}
	if len(from) > impl.HeapMax {
		from = slices.Clone(needed)
	}
	for n := r.Intn(3); n > 0 && len(from) < impl.HeapMax; n-- {
		from = append(from, -1)
	}
	r.Shuffle(len(from), func(i int, j int) { from[i], from[j] = from[j], from[i] })
	moved := func(w impl.Word) impl.Word {
		if w.Tag != impl.WordRef {
			return w
		}
		at := r.Intn(len(from))
		for from[at] != w.Num {
			at = r.Intn(len(from))
		}
		return refTo(at)
	}
	var out []impl.Cell
	for _, place := range from {
		c := lone()
		if place >= 0 {
			c = impl.Cell{Kind: list[place].Kind, Num: list[place].Num, A: moved(list[place].A), B: moved(list[place].B)}
		}
		out = append(out, c)
	}
	return out, moved(w)
}

// changedCells are cells of which a word, a Num or a Kind is another; they may say the same still, and mostly are ok.
func changedCells(r *rand.Rand, list []impl.Cell) []impl.Cell {
	out := slices.Clone(list)
	if len(out) == 0 {
		return out
	}
	c := &out[r.Intn(len(out))]
	word := someWord(r, make([]int, len(out)))
	switch r.Intn(5) {
	case 0:
		c.Kind = 1 + r.Intn(5)
	case 1:
		if c.Kind >= impl.CellFun {
			c.Num = r.Intn(impl.CodeMax)
		}
	case 2:
		c.B = word
	default:
		if c.Kind < impl.CellFun {
			c.A = word
		}
	}
	return out
}
