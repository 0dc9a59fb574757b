package tests

import (
	"math/rand"
	"slices"
	"strings"
	"testing"

	"loop.example/ensemble/impl"
)

// wordTried asks all functions of chapter 7 whether a word is ok where these are the cells.
func wordTried(t *testing.T, list []impl.Cell, w impl.Word, want bool) {
	t.Helper()
	cells, words := impl.HeapClean(list, []impl.Word{w})
	into, _, put := impl.HeapInto(list, w, list)
	reach := impl.HeapReach(list, []impl.Word{w})
	if (len(words) == 1) != want || put != want || (impl.HeapText(list, w) != "") != want {
		t.Errorf("%v of %d cells is not %v", w, len(list), want)
	}
	if !want && len(cells)+len(into)+len(reach) > 0 {
		t.Errorf("%v: something is told of a word that is not ok", w)
	}
	if beside, others := impl.HeapClean(list, []impl.Word{none, w, none}); (len(others) == 3) != want || !want && len(beside)+len(others) > 0 {
		t.Errorf("%v: beside others it is not %v", w, want)
	}
	if got := impl.HeapReach(list, []impl.Word{intWord(1), w}); !slices.Equal(got, reach) {
		t.Errorf("%v: beside others it leads to %v", w, got)
	}
	cell := pairCell(w, none)
	if impl.HeapOk(append(slices.Clone(list), cell)) != (want || w == refTo(len(list))) || impl.HeapOk(append(slices.Clone(list), pairCell(none, w))) != (want || w == refTo(len(list))) {
		t.Errorf("%v in a cell is not %v", w, want)
	}
}

// A word of each tag, with the least and the greatest Num that it has, one less and one more.
func TestHeapWords(t *testing.T) {
	for _, cells := range []int{0, 1, 3} {
		list := make([]impl.Cell, cells)
		for i := range list {
			list[i] = pairCell(none, none)
		}
		for tag := -2; tag <= 7; tag++ {
			for _, num := range []int{-1 << 63, -1<<31 - 1, -1 << 31, -2, -1, 0, 1, 2, 3, 4, 5, 6, 7, 1<<31 - 1, 1 << 31, 1<<63 - 1} {
				w := impl.Word{Tag: tag, Num: num}
				wordTried(t, list, w, wordFits(w, cells))
			}
		}
	}
	for _, row := range []struct {
		w  impl.Word
		ok bool
	}{{none, true}, {impl.Word{Num: 1}, false}, {intWord(-1 << 31), true}, {intWord(-1<<31 - 1), false}, {intWord(1<<31 - 1), true}, {intWord(1 << 31), false}, {boolWord(1), true}, {boolWord(2), false}, {boolWord(-1), false},
		{pidWord(5), true}, {pidWord(6), false}, {pidWord(-1), false}, {refTo(0), true}, {refTo(1), false}, {refTo(-1), false}, {impl.Word{Tag: 5}, false}, {impl.Word{Tag: -1}, false}} {
		wordTried(t, []impl.Cell{pairCell(none, none)}, row.w, row.ok)
	}
}

// heapTried asks all functions of chapter 7 whether cells are ok.
func heapTried(t *testing.T, list []impl.Cell, want bool) {
	t.Helper()
	_, words := impl.HeapClean(list, []impl.Word{none})
	into, _, out := impl.HeapInto(list, none, nil)
	other, w, in := impl.HeapInto(nil, none, list)
	text := impl.HeapText(list, intWord(1))
	if impl.HeapOk(list) != want || (len(words) == 1) != want || out != want || in != want || (text == "1") != want || w != none {
		t.Errorf("%.200v is not %v", list, want)
	}
	if len(into) > 0 || !want && (len(other) > 0 || text != "" || len(impl.HeapReach(list, []impl.Word{refTo(0)})) > 0) || want && !slices.Equal(other, list) {
		t.Errorf("%.200v: something else is told", list)
	}
}

// Each kind of cells, with each word as A, with B that leads to each kind, and with each Num.
func TestHeapOkCells(t *testing.T) {
	around := []impl.Cell{pairCell(none, none), consCell(none, none), envCell(none, none), funCell(impl.CellFun, 0, none), funCell(impl.CellRec, 0, none)}
	words := []impl.Word{none, intWord(0), intWord(1), boolWord(0), boolWord(1), pidWord(0), refTo(0), refTo(1), refTo(2), refTo(3), refTo(4), refTo(5), refTo(6), refTo(-1), {Num: 1}, {Tag: 6}}
	fit, tried := 0, 0
	for kind := -1; kind <= 7; kind++ {
		for _, num := range []int{-1, 0, 1, 7, impl.CodeMax - 1, impl.CodeMax, 1 << 40} {
			for _, a := range words {
				for _, b := range words {
					list := append(slices.Clone(around), impl.Cell{Kind: kind, Num: num, A: a, B: b})
					want := heapFits(list)
					heapTried(t, list, want)
					tried++
					if want {
						fit++
					}
				}
			}
		}
	}
	// 12 of the words are ok; behind a list, or what is known, there is nothing, one such, or itself; a function has 4 of the numbers, and 2 such words.
	if want := 12*12 + 12*3 + 12*3 + 2*4*2; fit != want {
		t.Errorf("of %d are ok %d, want %d", tried, fit, want)
	}
}

func TestHeapOkTable(t *testing.T) {
	one := intWord(1)
	for _, list := range [][]impl.Cell{
		nil, {}, {pairCell(refTo(0), refTo(0))}, {consCell(refTo(0), refTo(0))}, {envCell(refTo(0), refTo(0))},
		{pairCell(refTo(1), one), pairCell(refTo(0), one)}, {consCell(one, refTo(1)), consCell(boolWord(1), none)}, {consCell(refTo(1), none), envCell(one, none)},
		{funCell(impl.CellFun, 199, refTo(1)), envCell(refTo(0), none)}, {funCell(impl.CellRec, 0, none)},
	} {
		heapTried(t, list, true)
	}
	for _, list := range [][]impl.Cell{
		{{}}, {{Kind: 6}}, {{Kind: -1}}, {{Kind: impl.CellPair, Num: 1}}, {{Kind: impl.CellCons, Num: 1}}, {{Kind: impl.CellEnv, Num: -1}}, {pairCell(refTo(1), one)}, {consCell(one, one)}, {consCell(none, boolWord(0))},
		{consCell(one, refTo(1)), pairCell(one, one)}, {consCell(one, refTo(1)), envCell(one, none)}, {envCell(one, one)}, {envCell(one, refTo(1)), consCell(one, none)}, {envCell(one, refTo(1)), funCell(impl.CellFun, 0, none)},
		{funCell(impl.CellFun, 200, none)}, {funCell(impl.CellRec, -1, none)}, {{Kind: impl.CellFun, A: one}}, {{Kind: impl.CellRec, A: refTo(0)}}, {funCell(impl.CellFun, 0, refTo(0))}, {funCell(impl.CellFun, 0, one)},
		{funCell(impl.CellRec, 0, refTo(1)), consCell(one, none)}, {pairCell(one, one), {Kind: 6}}, {pairCell(one, impl.Word{Num: 1})},
	} {
		heapTried(t, list, false)
	}
}

// row is so many cells, each of which leads to the next.
func row(count int) []impl.Cell {
	var list []impl.Cell
	for i := 0; i < count; i++ {
		next := none
		if i+1 < count {
			next = refTo(i + 1)
		}
		list = append(list, consCell(intWord(i), next))
	}
	return list
}

func TestHeapOkSizes(t *testing.T) {
	for _, size := range []int{0, 1, impl.HeapMax - 1, impl.HeapMax, impl.HeapMax + 1, 1000} {
		heapTried(t, row(size), size <= impl.HeapMax)
	}
	full := row(impl.HeapMax)
	if cells, words := impl.HeapClean(full, []impl.Word{refTo(0)}); !slices.Equal(cells, full) || words[0] != refTo(0) {
		t.Error("as many cells as may be are not the same once they are cleaned")
	}
	if reach := impl.HeapReach(full, []impl.Word{refTo(1)}); len(reach) != impl.HeapMax-1 || reach[0] != 1 {
		t.Error(reach)
	}
}

// HeapClean: what words lead to, one by one, then A and B of each of these, in the order in which they are come to, each once.
func TestHeapCleanTable(t *testing.T) {
	one := intWord(1)
	for i, r := range []struct {
		list  []impl.Cell
		words []impl.Word
		cells []impl.Cell
		then  []impl.Word
	}{
		{nil, nil, nil, nil},
		{row(5), nil, nil, nil},
		{row(2), []impl.Word{one, none, boolWord(1), pidWord(5)}, nil, []impl.Word{one, none, boolWord(1), pidWord(5)}},
		{row(3), []impl.Word{refTo(2), refTo(1)}, []impl.Cell{consCell(intWord(2), none), consCell(intWord(1), refTo(0))}, []impl.Word{refTo(0), refTo(1)}},
		{row(2), []impl.Word{refTo(1), one, refTo(1)}, []impl.Cell{consCell(intWord(1), none)}, []impl.Word{refTo(0), one, refTo(0)}},
		// A comes ahead of B, and what words lead to ahead of both.
		{[]impl.Cell{pairCell(one, one), pairCell(one, none), pairCell(refTo(1), refTo(0))}, []impl.Word{refTo(2)}, []impl.Cell{pairCell(refTo(1), refTo(2)), pairCell(one, none), pairCell(one, one)}, []impl.Word{refTo(0)}},
		{[]impl.Cell{pairCell(one, one), pairCell(one, none), pairCell(refTo(1), refTo(0))}, []impl.Word{refTo(2), refTo(0)}, []impl.Cell{pairCell(refTo(2), refTo(1)), pairCell(one, one), pairCell(one, none)}, []impl.Word{refTo(0), refTo(1)}},
		// Those of the second cell come ahead of what A of the first leads on to.
		{[]impl.Cell{pairCell(refTo(1), refTo(2)), pairCell(refTo(3), none), pairCell(refTo(4), one), pairCell(one, one), pairCell(none, none)}, []impl.Word{refTo(0)},
			[]impl.Cell{pairCell(refTo(1), refTo(2)), pairCell(refTo(3), none), pairCell(refTo(4), one), pairCell(one, one), pairCell(none, none)}, []impl.Word{refTo(0)}},
		{[]impl.Cell{pairCell(refTo(3), refTo(2)), pairCell(one, none), pairCell(refTo(4), one), pairCell(refTo(1), none), pairCell(none, none)}, []impl.Word{refTo(0)},
			[]impl.Cell{pairCell(refTo(1), refTo(2)), pairCell(refTo(3), none), pairCell(refTo(4), one), pairCell(one, none), pairCell(none, none)}, []impl.Word{refTo(0)}},
		// Cells that lead back to themselves, and one to which two lead.
		{[]impl.Cell{lone(), pairCell(refTo(1), refTo(1))}, []impl.Word{refTo(1)}, []impl.Cell{pairCell(refTo(0), refTo(0))}, []impl.Word{refTo(0)}},
		{[]impl.Cell{consCell(one, refTo(2)), lone(), consCell(refTo(3), refTo(0)), envCell(refTo(0), refTo(3))}, []impl.Word{refTo(3)}, []impl.Cell{envCell(refTo(1), refTo(0)), consCell(one, refTo(2)), consCell(refTo(0), refTo(1))}, []impl.Word{refTo(0)}},
		{[]impl.Cell{lone(), funCell(impl.CellRec, 9, refTo(3)), lone(), envCell(refTo(1), none)}, []impl.Word{refTo(1)}, []impl.Cell{funCell(impl.CellRec, 9, refTo(1)), envCell(refTo(0), none)}, []impl.Word{refTo(0)}},
	} {
		cells, words := impl.HeapClean(r.list, r.words)
		if !slices.Equal(cells, r.cells) || !slices.Equal(words, r.then) {
			t.Errorf("%d: %v %v, want %v %v", i, cells, words, r.cells, r.then)
		}
	}
}

// lone is a cell that leads nowhere.
func lone() impl.Cell { return pairCell(intWord(1), intWord(2)) }

// P20: what is cleaned is just what is needed, and says the same. Against an order that is found in another way.
func TestHeapCleanPromise(t *testing.T) {
	r := rand.New(rand.NewSource(311))
	for i := 0; i < 6000; i++ {
		list, words := someHeap(r)
		cells, then := impl.HeapClean(list, words)
		wantCells, wantWords := copied(list, words, nil)
		if !slices.Equal(cells, wantCells) || !slices.Equal(then, wantWords) {
			t.Fatalf("%v %v: %v %v, want %v %v", list, words, cells, then, wantCells, wantWords)
		}
		if !impl.HeapOk(list) || !impl.HeapOk(cells) || len(cells) != len(impl.HeapReach(list, words)) {
			t.Fatalf("%v %v: %d cells", list, words, len(cells))
		}
		for n, w := range words {
			if impl.HeapText(list, w) != impl.HeapText(cells, then[n]) {
				t.Fatalf("%v %v: another text", list, w)
			}
		}
		if again, once := impl.HeapClean(cells, then); !slices.Equal(again, cells) || !slices.Equal(once, then) {
			t.Fatalf("%v %v: it is not the same again", list, words)
		}
		if all := impl.HeapReach(cells, then); len(all) != len(cells) {
			t.Fatalf("%v %v: not all is needed", list, words)
		}
	}
}

func TestHeapReachTable(t *testing.T) {
	one := intWord(1)
	list := []impl.Cell{pairCell(refTo(2), one), consCell(one, none), consCell(refTo(1), refTo(1)), envCell(refTo(0), none), funCell(impl.CellFun, 7, refTo(3)), pairCell(refTo(5), refTo(6)), pairCell(refTo(5), none)}
	for i, r := range []struct {
		words []impl.Word
		want  []int
	}{
		{nil, nil}, {[]impl.Word{one, none, boolWord(1), pidWord(1)}, nil}, {[]impl.Word{refTo(1)}, []int{1}}, {[]impl.Word{refTo(2)}, []int{1, 2}}, {[]impl.Word{refTo(4)}, []int{0, 1, 2, 3, 4}},
		{[]impl.Word{refTo(5)}, []int{5, 6}}, {[]impl.Word{refTo(6)}, []int{5, 6}}, {[]impl.Word{refTo(6), one, refTo(1), refTo(6)}, []int{1, 5, 6}}, {[]impl.Word{refTo(4), refTo(5)}, []int{0, 1, 2, 3, 4, 5, 6}},
	} {
		if got := impl.HeapReach(list, r.words); !slices.Equal(got, r.want) {
			t.Errorf("%d: %v, want %v", i, got, r.want)
		}
	}
}

// P21: what words lead to is what they tell, and what those lead to.
func TestHeapReachPromise(t *testing.T) {
	r := rand.New(rand.NewSource(312))
	for i := 0; i < 6000; i++ {
		list, words := someHeap(r)
		reach := impl.HeapReach(list, words)
		if want := led(list, words...); !slices.Equal(reach, want) {
			t.Fatalf("%v %v: %v, want %v", list, words, reach, want)
		}
		var together []int
		for _, w := range words {
			together = append(together, impl.HeapReach(list, []impl.Word{w})...)
		}
		slices.Sort(together)
		if !slices.Equal(slices.Compact(together), reach) {
			t.Fatalf("%v %v: %v is not that of each", list, words, reach)
		}
		for _, place := range reach {
			for _, inner := range impl.HeapReach(list, []impl.Word{list[place].A, list[place].B}) {
				if !slices.Contains(reach, inner) {
					t.Fatalf("%v %v: %d is not within", list, words, inner)
				}
			}
		}
	}
}

func TestHeapIntoTable(t *testing.T) {
	one := intWord(1)
	tree := []impl.Cell{lone(), pairCell(refTo(3), refTo(2)), pairCell(refTo(1), one), consCell(refTo(2), none)}
	for i, r := range []struct {
		list []impl.Cell
		w    impl.Word
		to   []impl.Cell
		want []impl.Cell
		then impl.Word
	}{
		{nil, one, nil, nil, one},
		{row(3), none, row(2), row(2), none},
		{row(3), pidWord(2), nil, nil, pidWord(2)},
		{row(2), refTo(1), row(2), append(row(2), consCell(one, none)), refTo(2)},
		{row(2), refTo(0), nil, row(2), refTo(0)},
		{tree, refTo(1), []impl.Cell{lone()}, []impl.Cell{lone(), pairCell(refTo(2), refTo(3)), consCell(refTo(3), none), pairCell(refTo(1), one)}, refTo(1)},
		{tree, refTo(2), tree, append(slices.Clone(tree), pairCell(refTo(5), one), pairCell(refTo(6), refTo(4)), consCell(refTo(4), none)), refTo(4)},
		{[]impl.Cell{pairCell(refTo(0), refTo(0))}, refTo(0), []impl.Cell{lone()}, []impl.Cell{lone(), pairCell(refTo(1), refTo(1))}, refTo(1)},
	} {
		got, w, ok := impl.HeapInto(r.list, r.w, r.to)
		if !ok || !slices.Equal(got, r.want) || w != r.then {
			t.Errorf("%d: %v %v %v, want %v %v", i, got, w, ok, r.want, r.then)
		}
	}
}

// Where there is just room, and where there is room for one less, those that were there are all.
func TestHeapIntoRoom(t *testing.T) {
	for _, size := range []int{1, 2, 60, impl.HeapMax} {
		list := row(size)
		for there := max(0, impl.HeapMax-size-1); there <= min(impl.HeapMax, impl.HeapMax-size+2); there++ {
			to := row(there)
			got, w, ok := impl.HeapInto(list, refTo(0), to)
			if there+size > impl.HeapMax {
				if ok || w != none || !slices.Equal(got, to) {
					t.Errorf("%d behind %d: %d cells, %v %v", size, there, len(got), w, ok)
				}
				continue
			}
			if !ok || w != refTo(there) || len(got) != there+size || !slices.Equal(got[:there], to) {
				t.Errorf("%d behind %d: %d cells, %v %v", size, there, len(got), w, ok)
			}
		}
	}
	full := row(impl.HeapMax)
	if got, w, ok := impl.HeapInto(full, intWord(3), full); !ok || w != intWord(3) || !slices.Equal(got, full) {
		t.Error("a word that leads to none needs room")
	}
	if got, w, ok := impl.HeapInto(full, refTo(impl.HeapMax-1), full); ok || w != none || !slices.Equal(got, full) {
		t.Error("one cell more than may be")
	}
}

func TestHeapIntoWrong(t *testing.T) {
	bad := []impl.Cell{{Kind: 6}}
	for i, r := range []struct {
		list []impl.Cell
		w    impl.Word
		to   []impl.Cell
	}{{bad, none, row(2)}, {row(2), none, bad}, {row(2), refTo(2), row(3)}, {row(2), refTo(-1), row(3)}, {row(2), impl.Word{Num: 1}, row(3)}, {nil, refTo(0), row(3)}, {row(121), none, row(1)}, {row(1), none, row(121)}} {
		if got, w, ok := impl.HeapInto(r.list, r.w, r.to); ok || w != none || len(got) > 0 {
			t.Errorf("%d: %v %v %v", i, got, w, ok)
		}
	}
}

// P22: what is copied to other cells is the same there, and they are what they were.
func TestHeapIntoPromise(t *testing.T) {
	r := rand.New(rand.NewSource(313))
	full := 0
	for i := 0; i < 6000; i++ {
		list, _ := someHeap(r)
		to, _ := someHeap(r)
		if r.Intn(3) == 0 {
			to = someCells(r, impl.HeapMax-r.Intn(len(list)+1))
		}
		w := someWord(r, make([]int, len(list)))
		got, then, ok := impl.HeapInto(list, w, to)
		want, words := copied(list, []impl.Word{w}, to)
		if len(want) > impl.HeapMax {
			full++
			if ok || then != none || !slices.Equal(got, to) {
				t.Fatalf("%v %v: copied, and there is no room", list, w)
			}
			continue
		}
		if !ok || !slices.Equal(got, want) || then != words[0] {
			t.Fatalf("%v %v %v: %v %v %v", list, w, to, got, then, ok)
		}
		if !impl.HeapOk(got) || !slices.Equal(got[:len(to)], to) || len(got) != len(to)+len(impl.HeapReach(list, []impl.Word{w})) || impl.HeapText(got, then) != impl.HeapText(list, w) {
			t.Fatalf("%v %v %v: %v %v", list, w, to, got, then)
		}
		if len(to) > 0 {
			if place := refTo(r.Intn(len(to))); impl.HeapText(got, place) != impl.HeapText(to, place) {
				t.Fatalf("%v: %v is another one", to, place)
			}
		}
	}
	if full < 300 {
		t.Errorf("%d had no room", full)
	}
}

func TestHeapTextTable(t *testing.T) {
	one := intWord(1)
	list := []impl.Cell{
		pairCell(refTo(2), one), consCell(one, none), consCell(refTo(1), refTo(1)), envCell(refTo(0), none), funCell(impl.CellFun, 7, refTo(3)), funCell(impl.CellRec, 7, none),
		consCell(none, none), pairCell(refTo(4), refTo(5)), consCell(refTo(0), none), pairCell(refTo(3), none), consCell(boolWord(0), refTo(1)), pairCell(pidWord(5), boolWord(1)), consCell(refTo(6), refTo(6)),
	}
	for i, want := range []string{
		"((1 :: nil) :: 1 :: nil, 1)", "1 :: nil", "(1 :: nil) :: 1 :: nil", "env", "fun", "fun", "nil :: nil", "(fun, fun)", "((1 :: nil) :: 1 :: nil, 1) :: nil", "(env, nil)", "false :: 1 :: nil", "(pid 5, true)", "(nil :: nil) :: nil :: nil",
	} {
		if got := impl.HeapText(list, refTo(i)); got != want {
			t.Errorf("%d: %q, want %q", i, got, want)
		}
	}
	for w, want := range map[impl.Word]string{none: "nil", intWord(-1 << 31): "-2147483648", intWord(0): "0", boolWord(0): "false", boolWord(1): "true", pidWord(0): "pid 0", pidWord(5): "pid 5"} {
		if got := impl.HeapText(list, w); got != want || impl.HeapText(nil, w) != want {
			t.Errorf("%v: %q, want %q", w, got, want)
		}
	}
}

// nested is a word that stands in so many cells, made one around the other.
func nested(w impl.Word, deep int, around func(inner impl.Word) impl.Cell) ([]impl.Cell, impl.Word) {
	var list []impl.Cell
	for i := 0; i < deep; i++ {
		list = append(list, around(w))
		w = refTo(i)
	}
	return list, w
}

// What stands in DeepMax - 1 pairs and lists is told, what stands in one more is not.
func TestHeapTextDeep(t *testing.T) {
	left := func(w impl.Word) impl.Cell { return pairCell(w, intWord(2)) }
	right := func(w impl.Word) impl.Cell { return pairCell(intWord(2), w) }
	rest := func(w impl.Word) impl.Cell { return consCell(intWord(2), w) }
	head := func(w impl.Word) impl.Cell { return consCell(w, none) }
	many := strings.Repeat
	for i, r := range []struct {
		inner  impl.Word
		deep   int
		around func(inner impl.Word) impl.Cell
		want   string
	}{
		{intWord(1), 13, left, many("(", 13) + "1" + many(", 2)", 13)},
		{intWord(1), 14, left, many("(", 14) + "..., ...)" + many(", 2)", 13)},
		{intWord(1), 15, left, many("(", 14) + "..., ...)" + many(", 2)", 13)},
		{pidWord(1), 13, right, many("(2, ", 13) + "pid 1" + many(")", 13)},
		{pidWord(1), 14, right, many("(2, ", 13) + "(..., ...)" + many(")", 13)},
		{none, 13, rest, many("2 :: ", 13) + "nil"},
		{none, 14, rest, many("2 :: ", 13) + "... :: ..."},
		{none, 100, rest, many("2 :: ", 13) + "... :: ..."},
		{boolWord(1), 13, head, many("(", 12) + "true :: nil" + many(") :: nil", 12)},
		{boolWord(1), 14, head, many("(", 13) + "... :: ..." + many(") :: nil", 13)},
		{boolWord(1), 15, head, many("(", 13) + "(...) :: ..." + many(") :: nil", 13)},
	} {
		list, w := nested(r.inner, r.deep, r.around)
		if got := impl.HeapText(list, w); got != r.want {
			t.Errorf("%d: %q, want %q", i, got, r.want)
		}
	}
}

// Cells that lead back to themselves have a text, too; what is known to a function is not looked into.
func TestHeapTextRings(t *testing.T) {
	list := []impl.Cell{
		consCell(intWord(1), refTo(0)), pairCell(intWord(1), refTo(1)), envCell(refTo(2), refTo(2)), funCell(impl.CellRec, 0, refTo(4)), envCell(refTo(3), refTo(4)), pairCell(refTo(5), refTo(5)), consCell(refTo(6), refTo(6)),
	}
	for place, want := range map[int]string{0: strings.Repeat("1 :: ", 13) + "... :: ...", 1: strings.Repeat("(1, ", 13) + "(..., ...)" + strings.Repeat(")", 13), 2: "env", 3: "fun", 4: "env"} {
		if got := impl.HeapText(list, refTo(place)); got != want {
			t.Errorf("%d: %q, want %q", place, got, want)
		}
	}
	for place, inner := range map[int]string{5: "..., ...", 6: "(...) :: ..."} {
		got := impl.HeapText(list, refTo(place))
		if strings.Count(got, inner) != 1<<13 || len(got) > 1<<18 {
			t.Errorf("%d: %d bytes", place, len(got))
		}
	}
}

// HeapText against texts of values, as those of chapter 5 are told.
func TestHeapTextTold(t *testing.T) {
	r := rand.New(rand.NewSource(314))
	for i := 0; i < 3000; i++ {
		list, words := someHeap(r)
		for _, w := range words {
			if got, want := impl.HeapText(list, w), wordWorth(list, w, impl.DeepMax).told(0); got != want {
				t.Fatalf("%v %v: %q, want %q", list, w, got, want)
			}
		}
	}
}

// heldCells are all places of a list, spare ones too.
func heldCells(list []impl.Cell) map[*impl.Cell]bool {
	held := map[*impl.Cell]bool{}
	all := list[:cap(list)]
	for i := range all {
		held[&all[i]] = true
	}
	return held
}

// Nothing is written into cells and words, nor behind them, and answers share no memory with them.
func TestHeapKeepsArguments(t *testing.T) {
	r := rand.New(rand.NewSource(315))
	spare := pairCell(intWord(7), intWord(7))
	for i := 0; i < 1000; i++ {
		list, words := someHeap(r)
		to, _ := someHeap(r)
		if i%3 == 0 {
			to = row(impl.HeapMax)
		}
		listRoom := append(slices.Clone(list), spare, spare, spare)
		wordRoom := append(slices.Clone(words), intWord(7), intWord(7))
		toRoom := append(slices.Clone(to), spare, spare, spare)
		l, ws, o := listRoom[:len(list)], wordRoom[:len(words)], toRoom[:len(to)]
		w := someWord(r, make([]int, len(list)))
		cells, then := impl.HeapClean(l, ws)
		into, _, _ := impl.HeapInto(l, w, o)
		impl.HeapReach(l, ws)
		impl.HeapText(l, w)
		impl.HeapOk(l)
		for _, room := range []map[*impl.Cell]bool{heldCells(l), heldCells(o)} {
			for _, answer := range [][]impl.Cell{cells, into} {
				for place := range heldCells(answer) {
					if room[place] {
						t.Fatal("an answer shares memory with an argument")
					}
				}
			}
		}
		clear(then[:cap(then)])
		clear(cells[:cap(cells)])
		clear(into[:cap(into)])
		if !slices.Equal(listRoom, append(slices.Clone(list), spare, spare, spare)) || !slices.Equal(toRoom, append(slices.Clone(to), spare, spare, spare)) || !slices.Equal(wordRoom, append(slices.Clone(words), intWord(7), intWord(7))) {
			t.Fatal("an argument was written into")
		}
	}
}

// Every function of chapter 7 answers, whatever it is given, and tells nothing of what is not ok.
func TestHeapAtAnything(t *testing.T) {
	r := rand.New(rand.NewSource(316))
	numbers := []int{0, 0, 1, 2, 3, 5, 6, -1, 119, 120, 200, 1 << 31, -1<<31 - 1, 1<<63 - 1, -1 << 63}
	any := func() impl.Word { return impl.Word{Tag: r.Intn(7) - 1, Num: numbers[r.Intn(len(numbers))]} }
	fit := 0
	for i := 0; i < 20000; i++ {
		list, words := someHeap(r)
		for n := r.Intn(3); n > 0 && len(list) > 0; n-- {
			list[r.Intn(len(list))] = impl.Cell{Kind: r.Intn(8) - 1, Num: numbers[r.Intn(len(numbers))], A: any(), B: any()}
		}
		if r.Intn(2) == 0 {
			words = append(words, any())
		}
		ok := heapFits(list)
		if impl.HeapOk(list) != ok {
			t.Fatalf("%v: ok is not %v", list, ok)
		}
		for _, w := range words {
			ok = ok && wordFits(w, len(list))
		}
		cells, then := impl.HeapClean(list, words)
		reach := impl.HeapReach(list, words)
		if ok {
			fit++
			if len(then) != len(words) || len(cells) != len(reach) {
				t.Fatalf("%v %v: %v %v %v", list, words, cells, then, reach)
			}
		} else if len(cells)+len(then)+len(reach) > 0 {
			t.Fatalf("%v %v: something is told of what is not ok", list, words)
		}
		w := any()
		into, _, put := impl.HeapInto(list, w, row(3))
		if fits := heapFits(list) && wordFits(w, len(list)); !fits && (put || len(into) > 0 || impl.HeapText(list, w) != "") {
			t.Fatalf("%v %v: something is told of what is not ok", list, w)
		}
	}
	if fit < 2000 {
		t.Errorf("%d are ok", fit)
	}
}
