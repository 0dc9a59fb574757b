package tests

import (
	"math/rand"
	"slices"
	"testing"

	"loop.example/ensemble/impl"
)

// asksSame asks SameHeap against all cells told apart, and the other way round; where it is true texts and depths are the same.
func asksSame(t *testing.T, x []impl.Cell, v impl.Word, y []impl.Cell, w impl.Word) bool {
	t.Helper()
	same := impl.SameHeap(x, v, y, w)
	if same != sameSeen(x, v, y, w) || same != impl.SameHeap(y, w, x, v) {
		t.Fatalf("%v %v, %v %v: the same is %v", x, v, y, w, same)
	}
	if same && (impl.HeapText(x, v) != impl.HeapText(y, w) || impl.SameDeep(x, v) != impl.SameDeep(y, w)) {
		t.Fatalf("%v %v, %v %v: the same, but another text or depth", x, v, y, w)
	}
	return same
}

// ringOf is a ring of so many pairs, each with a word.
func ringOf(size int, w impl.Word) []impl.Cell {
	var list []impl.Cell
	for i := range size {
		list = append(list, pairCell(refTo((i+1)%size), w))
	}
	return list
}

// shared is so many pairs, A and B of each being the next one.
func shared(size int) []impl.Cell {
	list := make([]impl.Cell, size)
	for i := range list {
		list[i] = lone()
		if i+1 < size {
			list[i] = pairCell(refTo(i+1), refTo(i+1))
		}
	}
	return list
}

// Words that are no places, with all others.
func TestSameHeapWords(t *testing.T) {
	words := []impl.Word{none, intWord(0), intWord(1), intWord(-1), intWord(1<<31 - 1), intWord(-1 << 31), boolWord(0), boolWord(1), pidWord(0), pidWord(1), pidWord(5), refTo(0), refTo(1)}
	x, y := []impl.Cell{lone(), consCell(none, none)}, []impl.Cell{consCell(none, none), lone()}
	for i, v := range words {
		for j, w := range words {
			want := i == j && i < 11 || i == 11 && j == 12 || i == 12 && j == 11
			if asksSame(t, x, v, y, w) != want {
				t.Errorf("%v and %v are not %v", v, w, want)
			}
			if i < 11 && j < 11 && asksSame(t, nil, v, nil, w) != want || asksSame(t, x, v, x, w) != (i == j) {
				t.Errorf("%v and %v are not %v", v, w, want)
			}
		}
	}
}

// Cells of other Kinds and Nums, and cells that stand elsewhere, or more often.
func TestSameHeapCells(t *testing.T) {
	one := intWord(1)
	cells := []impl.Cell{pairCell(one, none), pairCell(none, one), pairCell(none, none), consCell(one, none), consCell(none, none), envCell(one, none), envCell(none, none), funCell(impl.CellFun, 0, none), funCell(impl.CellFun, 1, none), funCell(impl.CellFun, 199, none), funCell(impl.CellRec, 0, none), funCell(impl.CellRec, 1, none)}
	for i, x := range cells {
		for j, y := range cells {
			if asksSame(t, []impl.Cell{x}, refTo(0), []impl.Cell{lone(), y}, refTo(1)) != (i == j) {
				t.Errorf("%v and %v are not %v", x, y, i == j)
			}
			if asksSame(t, []impl.Cell{pairCell(refTo(1), refTo(1)), x}, refTo(0), []impl.Cell{y, x, pairCell(refTo(1), refTo(0))}, refTo(2)) != (i == j) {
				t.Errorf("%v and %v within are not %v", x, y, i == j)
			}
		}
	}
	for i, r := range []struct {
		x    []impl.Cell
		v    impl.Word
		y    []impl.Cell
		w    impl.Word
		want bool
	}{
		{[]impl.Cell{lone(), pairCell(refTo(0), refTo(0))}, refTo(1), []impl.Cell{pairCell(refTo(2), refTo(1)), lone(), lone()}, refTo(0), true},
		{[]impl.Cell{lone(), pairCell(refTo(0), refTo(0))}, refTo(1), []impl.Cell{pairCell(refTo(2), refTo(1)), lone(), pairCell(one, one)}, refTo(0), false},
		{[]impl.Cell{pairCell(refTo(1), refTo(2)), lone(), pairCell(none, none)}, refTo(0), []impl.Cell{pairCell(refTo(2), refTo(1)), lone(), pairCell(none, none)}, refTo(0), false},
		{row(3), refTo(0), row(3), refTo(0), true}, {row(3), refTo(0), row(3), refTo(1), false}, {row(3), refTo(0), row(2), refTo(0), false}, {row(3), refTo(0), append(row(3), lone()), refTo(0), true},
		{row(impl.HeapMax), refTo(0), row(impl.HeapMax), refTo(0), true}, {row(impl.HeapMax), refTo(1), row(impl.HeapMax), refTo(0), false}, {shared(impl.HeapMax), refTo(0), shared(impl.HeapMax), refTo(0), true}, {shared(impl.HeapMax), refTo(0), shared(impl.HeapMax), refTo(1), false},
		{shared(20), refTo(0), shared(30), refTo(10), true}, {shared(20), refTo(0), shared(30), refTo(9), false}, {[]impl.Cell{lone()}, refTo(0), []impl.Cell{lone()}, none, false}, {nil, none, []impl.Cell{lone()}, none, true}, {nil, none, []impl.Cell{lone()}, refTo(0), false},
		{[]impl.Cell{funCell(impl.CellFun, 3, refTo(1)), envCell(one, none)}, refTo(0), []impl.Cell{envCell(one, none), funCell(impl.CellFun, 3, refTo(0))}, refTo(1), true}, {[]impl.Cell{funCell(impl.CellFun, 3, refTo(1)), envCell(one, none)}, refTo(0), []impl.Cell{envCell(none, none), funCell(impl.CellFun, 3, refTo(0))}, refTo(1), false},
	} {
		if got := asksSame(t, r.x, r.v, r.y, r.w); got != r.want {
			t.Errorf("%d: %v", i, got)
		}
	}
}

// Cells that lead back to themselves, round in rings of all lengths, and beside them one that is another one deep within.
func TestSameHeapRings(t *testing.T) {
	one := intWord(1)
	sizes := []int{1, 2, 3, 4, 7, 59, 61, 119, 120}
	for _, m := range sizes {
		for _, n := range sizes {
			x, y := ringOf(m, one), ringOf(n, one)
			for _, v := range []int{0, m - 1} {
				if !asksSame(t, x, refTo(v), y, refTo(n/2)) {
					t.Errorf("rings of %d and %d are others", m, n)
				}
			}
			y[n-1].B = none
			if asksSame(t, x, refTo(0), y, refTo(0)) {
				t.Errorf("rings of %d and %d are the same", m, n)
			}
			// one turn in so many is another one: the same just where both come to it at once
			x[m-1].B = none
			if asksSame(t, x, refTo(0), y, refTo(0)) != (m == n) {
				t.Errorf("rings of %d and %d are not %v", m, n, m == n)
			}
		}
	}
	own := []impl.Cell{pairCell(refTo(0), refTo(0)), consCell(one, refTo(1)), envCell(one, refTo(2)), pairCell(refTo(3), one), pairCell(one, refTo(4)), pairCell(refTo(3), refTo(4)), consCell(refTo(6), refTo(6))}
	for i := range own {
		for j := range own {
			if asksSame(t, own, refTo(i), own, refTo(j)) != (i == j) {
				t.Errorf("%d and %d are not %v", i, j, i == j)
			}
		}
	}
	// two that lead to each other and one that leads to itself; a ring, and a row that leads into it
	if !asksSame(t, []impl.Cell{pairCell(refTo(1), refTo(0)), pairCell(refTo(0), refTo(1))}, refTo(0), own, refTo(0)) || !asksSame(t, []impl.Cell{pairCell(refTo(1), one), pairCell(refTo(2), one), pairCell(refTo(1), one)}, refTo(0), own, refTo(3)) {
		t.Error("rings are others")
	}
}

// Cells and words that are not ok, on either side, say nothing, not even the same.
func TestSameWrong(t *testing.T) {
	for i, r := range []struct {
		list []impl.Cell
		w    impl.Word
	}{
		{nil, refTo(0)}, {row(2), refTo(2)}, {row(2), refTo(-1)}, {row(2), impl.Word{Num: 1}}, {row(2), impl.Word{Tag: 5}}, {row(2), impl.Word{Tag: -1}}, {nil, intWord(1 << 31)}, {nil, intWord(-1<<31 - 1)}, {nil, boolWord(2)}, {nil, pidWord(6)}, {nil, pidWord(-1)},
		{row(121), none}, {row(121), refTo(0)}, {row(5000), none}, {[]impl.Cell{{}}, none}, {[]impl.Cell{{Kind: 6}}, refTo(0)}, {[]impl.Cell{lone(), {Kind: 6}}, refTo(0)}, {[]impl.Cell{lone(), pairCell(none, refTo(2))}, refTo(0)}, {[]impl.Cell{{Kind: impl.CellPair, Num: 1}}, refTo(0)},
		{[]impl.Cell{consCell(none, intWord(1))}, refTo(0)}, {[]impl.Cell{consCell(none, refTo(1)), lone()}, none}, {[]impl.Cell{envCell(none, refTo(1)), consCell(none, none)}, refTo(0)}, {[]impl.Cell{funCell(impl.CellFun, 200, none)}, refTo(0)}, {[]impl.Cell{{Kind: impl.CellRec, A: intWord(0)}}, none},
	} {
		if asksSame(t, r.list, r.w, r.list, r.w) || asksSame(t, r.list, r.w, row(2), refTo(0)) || asksSame(t, row(2), none, r.list, r.w) || asksSame(t, nil, none, r.list, r.w) {
			t.Errorf("%d: the same", i)
		}
		if got := impl.SameDeep(r.list, r.w); got != -1 {
			t.Errorf("%d: so deep as %d", i, got)
		}
		if rings := impl.SameRings(r.list); !heapFits(r.list) && len(rings) > 0 {
			t.Errorf("%d: %v", i, rings)
		}
	}
	if rings := impl.SameRings([]impl.Cell{pairCell(refTo(0), none), {Kind: 6}}); len(rings) > 0 {
		t.Error(rings)
	}
}

// Rows of cells, by A, by B, and by both, of so many cells; DeepMax at most.
func TestSameDeepTable(t *testing.T) {
	one := intWord(1)
	for _, deep := range []int{0, 1, 2, impl.DeepMax - 1, impl.DeepMax, impl.DeepMax + 1, 40, impl.HeapMax} {
		for i, around := range []func(inner impl.Word) impl.Cell{
			func(w impl.Word) impl.Cell { return pairCell(w, one) }, func(w impl.Word) impl.Cell { return pairCell(one, w) }, func(w impl.Word) impl.Cell { return pairCell(w, w) }, func(w impl.Word) impl.Cell { return consCell(one, w) }, func(w impl.Word) impl.Cell { return envCell(w, none) },
		} {
			list, w := nested(none, deep, around)
			if got := impl.SameDeep(list, w); got != min(deep, impl.DeepMax) || got != deepSeen(list, w) {
				t.Errorf("%d, %d cells: %d", i, deep, got)
			}
		}
	}
	for _, w := range []impl.Word{none, one, boolWord(1), pidWord(3)} {
		if impl.SameDeep(nil, w) != 0 || impl.SameDeep(shared(30), w) != 0 {
			t.Errorf("%v is deep", w)
		}
	}
	list := []impl.Cell{pairCell(refTo(1), refTo(2)), lone(), pairCell(refTo(3), one), pairCell(one, refTo(1)), funCell(impl.CellRec, 5, refTo(5)), envCell(refTo(2), refTo(6)), envCell(one, none), pairCell(refTo(7), one), pairCell(one, refTo(7)), pairCell(refTo(10), one), pairCell(one, refTo(9))}
	for place, want := range []int{4, 1, 3, 2, 5, 4, 1, 14, 14, 14, 14} {
		if got := impl.SameDeep(list, refTo(place)); got != want || got != deepSeen(list, refTo(place)) {
			t.Errorf("%d: %d, want %d", place, got, want)
		}
	}
	for _, size := range []int{13, 14, 15, impl.HeapMax} {
		if got := impl.SameDeep(shared(size), refTo(0)); got != min(size, impl.DeepMax) {
			t.Errorf("%d: %d", size, got)
		}
	}
}

func TestSameRingsTable(t *testing.T) {
	one := intWord(1)
	var all []int
	for i := range impl.HeapMax {
		all = append(all, i)
	}
	for i, r := range []struct {
		list []impl.Cell
		want []int
	}{
		{nil, nil}, {[]impl.Cell{lone()}, nil}, {row(impl.HeapMax), nil}, {shared(impl.HeapMax), nil}, {ringOf(impl.HeapMax, one), all}, {ringOf(impl.HeapMax, refTo(5)), all},
		{[]impl.Cell{pairCell(refTo(0), one)}, []int{0}}, {[]impl.Cell{pairCell(one, refTo(0))}, []int{0}}, {[]impl.Cell{pairCell(refTo(0), refTo(0))}, []int{0}}, {[]impl.Cell{consCell(one, refTo(0))}, []int{0}}, {[]impl.Cell{consCell(refTo(0), none)}, []int{0}}, {[]impl.Cell{envCell(one, refTo(0))}, []int{0}},
		{[]impl.Cell{pairCell(refTo(1), one), pairCell(refTo(0), one), pairCell(refTo(0), none)}, []int{0, 1}}, {[]impl.Cell{pairCell(one, refTo(1)), pairCell(refTo(2), one), pairCell(one, refTo(1)), pairCell(refTo(0), refTo(1))}, []int{1, 2}}, {[]impl.Cell{pairCell(refTo(1), refTo(2)), lone(), pairCell(one, refTo(0))}, []int{0, 2}}, {[]impl.Cell{pairCell(refTo(2), refTo(1)), lone(), pairCell(refTo(0), one)}, []int{0, 2}},
		{[]impl.Cell{funCell(impl.CellRec, 0, refTo(1)), envCell(refTo(0), none)}, []int{0, 1}}, {[]impl.Cell{funCell(impl.CellFun, 0, refTo(1)), envCell(refTo(0), refTo(1)), lone()}, []int{0, 1}}, {[]impl.Cell{funCell(impl.CellFun, 0, refTo(1)), envCell(one, none)}, nil}, {append(ringOf(3, one), pairCell(refTo(4), refTo(0)), pairCell(refTo(3), one), pairCell(refTo(3), refTo(1))), []int{0, 1, 2, 3, 4}},
	} {
		if got := impl.SameRings(r.list); !slices.Equal(got, r.want) || !slices.Equal(got, ringsSeen(r.list)) {
			t.Errorf("%d: %v, want %v", i, got, r.want)
		}
	}
}

// P66: to say the same is to say the same the other way round; what is cleaned says the same, and so does what is said again, in other places and more often.
func TestSameHeapPromise(t *testing.T) {
	r := rand.New(rand.NewSource(1801))
	same, others, round := 0, 0, 0
	for range 4000 {
		list, _ := someHeap(r)
		w := someWord(r, make([]int, len(list)))
		clean, then := impl.HeapClean(list, []impl.Word{w})
		again, word := saidAgain(r, list, w)
		if !asksSame(t, list, w, list, w) || !asksSame(t, list, w, clean, then[0]) || !asksSame(t, again, word, list, w) {
			t.Fatalf("%v %v: %v %v, %v %v are not the same", list, w, clean, then, again, word)
		}
		if len(led(list, w)) > 1 && len(impl.SameRings(clean)) > 0 {
			round++
		}
		for range 3 {
			if asksSame(t, changedCells(r, again), word, list, w) {
				same++
			} else {
				others++
			}
		}
		asksSame(t, list, w, again, someWord(r, make([]int, len(again))))
	}
	if same < 500 || others < 500 || round < 500 {
		t.Errorf("%d are the same, %d are others, %d go round", same, others, round)
	}
}

// P67: what is copied says the same, and so does all that was there.
func TestSameHeapCopied(t *testing.T) {
	r := rand.New(rand.NewSource(1802))
	copies := 0
	for range 3000 {
		list, _ := someHeap(r)
		to, _ := someHeap(r)
		w := someWord(r, make([]int, len(list)))
		got, then, ok := impl.HeapInto(list, w, to)
		if ok && !asksSame(t, list, w, got, then) {
			t.Fatalf("%v %v: %v %v is not the same", list, w, got, then)
		}
		if ok && w.Tag == impl.WordRef {
			copies++
		}
		for place := range to {
			if place%7 == 0 && !asksSame(t, to, refTo(place), got, refTo(place)) {
				t.Fatalf("%v: %d is another one in %v", to, place, got)
			}
		}
	}
	if copies < 1000 {
		t.Errorf("%d were copied", copies)
	}
}

// P68: what is written down and read says the same, and is as deep.
func TestSameHeapRead(t *testing.T) {
	r := rand.New(rand.NewSource(1803))
	read := 0
	for range 3000 {
		list, _ := someHeap(r)
		w := someWord(r, make([]int, len(list)))
		cells, word, ok := impl.WireGet(impl.WirePut(list, w))
		if !ok || !asksSame(t, list, w, cells, word) || impl.SameDeep(list, w) != impl.SameDeep(cells, word) {
			t.Fatalf("%v %v: %v %v is not the same", list, w, cells, word)
		}
		if len(cells) > 1 {
			read++
		}
	}
	if read < 800 {
		t.Errorf("%d were read", read)
	}
}

// P69 and P70: a cell leads one deeper than what it leads to, and back to itself just if what it leads to leads to it.
func TestSameDeepPromise(t *testing.T) {
	r := rand.New(rand.NewSource(1804))
	deeps := map[int]int{}
	for i := range 4000 {
		list, _ := someHeap(r)
		if i%2 == 0 {
			list = earlier(r, 1+r.Intn(40))
		}
		rings := impl.SameRings(list)
		if !slices.Equal(rings, ringsSeen(list)) || i%2 == 0 && len(rings) > 0 {
			t.Fatalf("%v: %v, want %v", list, rings, ringsSeen(list))
		}
		for place, c := range list {
			deep := impl.SameDeep(list, refTo(place))
			deeps[deep]++
			if deep != deepSeen(list, refTo(place)) || deep != min(impl.DeepMax, 1+max(impl.SameDeep(list, c.A), impl.SameDeep(list, c.B))) {
				t.Fatalf("%v: %d leads so deep as %d", list, place, deep)
			}
			back := slices.Contains(impl.HeapReach(list, []impl.Word{c.A, c.B}), place)
			if back != slices.Contains(rings, place) || back && deep != impl.DeepMax {
				t.Fatalf("%v: %d is not among %v", list, place, rings)
			}
		}
	}
	for deep := 1; deep <= impl.DeepMax; deep++ {
		if deeps[deep] < 50 {
			t.Errorf("%d cells lead so deep as %d", deeps[deep], deep)
		}
	}
}

// earlier are so many cells, A and B of each of which lead to earlier ones alone.
func earlier(r *rand.Rand, count int) []impl.Cell {
	var kinds []int
	var list []impl.Cell
	for range count {
		ahead := kinds[max(0, len(kinds)-5):]
		near := func(w impl.Word) impl.Word {
			if w.Tag == impl.WordRef {
				w.Num += len(kinds) - len(ahead)
			}
			return w
		}
		kind := 1 + r.Intn(5)
		c := impl.Cell{Kind: kind, A: near(someWord(r, ahead)), B: near(someWord(r, ahead))}
		switch kind {
		case impl.CellCons, impl.CellEnv:
			c.B = near(someOf(r, ahead, kind))
		case impl.CellFun, impl.CellRec:
			c = funCell(kind, r.Intn(impl.CodeMax), near(someOf(r, ahead, impl.CellEnv)))
		}
		list, kinds = append(list, c), append(kinds, kind)
	}
	return list
}

// Every function of chapter 18 answers, whatever it is given.
func TestSameAtAnything(t *testing.T) {
	r := rand.New(rand.NewSource(1805))
	numbers := []int{0, 0, 1, 2, 3, 5, 6, -1, 119, 120, 200, 1 << 31, -1<<31 - 1, 1<<63 - 1, -1 << 63}
	some := func() impl.Word { return impl.Word{Tag: r.Intn(7) - 1, Num: numbers[r.Intn(len(numbers))]} }
	heap := func() ([]impl.Cell, impl.Word) {
		list, _ := someHeap(r)
		if len(list) > 0 && r.Intn(3) == 0 {
			list[r.Intn(len(list))] = impl.Cell{Kind: r.Intn(8) - 1, Num: numbers[r.Intn(len(numbers))], A: some(), B: some()}
		}
		if r.Intn(2) == 0 {
			return list, some()
		}
		return list, someWord(r, make([]int, len(list)))
	}
	fit := 0
	for range 10000 {
		x, v := heap()
		y, w := heap()
		asksSame(t, x, v, y, w)
		asksSame(t, x, v, x, v)
		ok := heapFits(x) && wordFits(v, len(x))
		if deep := impl.SameDeep(x, v); ok && deep != deepSeen(x, v) || !ok && deep != -1 {
			t.Fatalf("%v %v: so deep as %d", x, v, deep)
		}
		rings := impl.SameRings(x)
		if heapFits(x) {
			fit++
			if !slices.Equal(rings, ringsSeen(x)) {
				t.Fatalf("%v: %v", x, rings)
			}
		} else if len(rings) > 0 {
			t.Fatalf("%v: %v", x, rings)
		}
	}
	if fit < 3000 || fit > 9500 {
		t.Errorf("%d are ok", fit)
	}
}

// Nothing is written into cells, nor behind them, and answers are new each time.
func TestSameKeepsArguments(t *testing.T) {
	r := rand.New(rand.NewSource(1806))
	spare := []impl.Cell{lone(), lone(), lone()}
	for range 500 {
		x, _ := someHeap(r)
		w := someWord(r, make([]int, len(x)))
		y, v := saidAgain(r, x, w)
		xRoom, yRoom := append(slices.Clone(x), spare...), append(slices.Clone(y), spare...)
		l, m := xRoom[:len(x)], yRoom[:len(y)]
		same, deep, rings := impl.SameHeap(l, w, m, v), impl.SameDeep(l, w), impl.SameRings(l)
		want := slices.Clone(rings)
		clear(rings[:cap(rings)])
		if !slices.Equal(xRoom, append(slices.Clone(x), spare...)) || !slices.Equal(yRoom, append(slices.Clone(y), spare...)) {
			t.Fatal("an argument was written into")
		}
		if impl.SameHeap(l, w, m, v) != same || impl.SameDeep(l, w) != deep || !slices.Equal(impl.SameRings(l), want) {
			t.Fatal("another answer")
		}
	}
}
