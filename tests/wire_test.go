package tests

import (
	"math/rand"
	"regexp"
	"slices"
	"strconv"
	"strings"
	"testing"

	"loop.example/ensemble/impl"
)

// wordTold is how a word that is ok is written.
func wordTold(w impl.Word) string {
	n := strconv.Itoa(w.Num)
	return map[int]string{impl.WordNone: "nil", impl.WordInt: n, impl.WordBool: strconv.FormatBool(w.Num == 1), impl.WordPid: "pid" + n, impl.WordRef: "at" + n}[w.Tag]
}

// wireTold is WirePut, as the tests see it.
func wireTold(list []impl.Cell, w impl.Word) string {
	if !heapFits(list) || !wordFits(w, len(list)) {
		return ""
	}
	cells, words := copied(list, []impl.Word{w}, nil)
	lines := wordTold(words[0]) + "\n"
	for _, c := range cells {
		first := wordTold(c.A)
		if c.Kind >= impl.CellFun {
			first = strconv.Itoa(c.Num)
		}
		lines += []string{"", "pair", "cons", "env", "fun", "rec"}[c.Kind] + " " + first + " " + wordTold(c.B) + "\n"
	}
	return lines
}

// wireForm is what a text of cells looks like; numbers and places may be too great.
var wireForm = func() *regexp.Regexp {
	number := `(?:0|-?[1-9][0-9]*)`
	word := `(?:nil|true|false|pid[0-5]|at(?:0|[1-9][0-9]*)|` + number + `)`
	return regexp.MustCompile(`\A` + word + `\n(?:(?:pair|cons|env) ` + word + ` ` + word + `\n|(?:fun|rec) ` + number + ` ` + word + `\n)*\z`)
}()

// wordSeen is the word that a text of that form is.
func wordSeen(s string) impl.Word {
	number := func(s string) int {
		n, err := strconv.ParseInt(s, 10, 33)
		if err != nil {
			return 1 << 40
		}
		return int(n)
	}
	switch s[0] {
	case 'n':
		return none
	case 't':
		return boolWord(1)
	case 'f':
		return boolWord(0)
	case 'p':
		return pidWord(number(s[3:]))
	case 'a':
		return refTo(number(s[2:]))
	}
	return intWord(number(s))
}

// wireSeen is WireGet, as the tests see it: the form of the text, then the cells, then their order.
func wireSeen(s string) ([]impl.Cell, impl.Word, bool) {
	if len(s) > 4000 || !wireForm.MatchString(s) {
		return nil, none, false
	}
	lines := strings.Split(strings.TrimSuffix(s, "\n"), "\n")
	w := wordSeen(lines[0])
	var list []impl.Cell
	for _, line := range lines[1:] {
		parts := strings.Fields(line)
		kind := slices.Index([]string{"", "pair", "cons", "env", "fun", "rec"}, parts[0])
		c := impl.Cell{Kind: kind, A: wordSeen(parts[1]), B: wordSeen(parts[2])}
		if kind >= impl.CellFun {
			c.Num, c.A = c.A.Num, none
		}
		list = append(list, c)
	}
	if !heapFits(list) || !wordFits(w, len(list)) {
		return nil, none, false
	}
	if cells, words := copied(list, []impl.Word{w}, nil); !slices.Equal(cells, list) || words[0] != w {
		return nil, none, false
	}
	return list, w, true
}

// asksWire asks WireGet of a text against wireSeen, and whether it is one is told.
func asksWire(t *testing.T, s string) bool {
	t.Helper()
	cells, w, ok := impl.WireGet(s)
	wantCells, wantWord, want := wireSeen(s)
	if ok != want || !slices.Equal(cells, wantCells) || w != wantWord {
		t.Fatalf("%.300q: %v %v %v, want %v %v %v", s, cells, w, ok, wantCells, wantWord, want)
	}
	if ok && (impl.WirePut(cells, w) != s || len(impl.HeapReach(cells, []impl.Word{w})) != len(cells)) {
		t.Fatalf("%.300q is written otherwise, or not all of it is needed", s)
	}
	return ok
}

// wireHeaps are cells of each kind, one of each, and two that lead to others.
func wireHeaps() []impl.Cell {
	return []impl.Cell{
		pairCell(intWord(1), none), consCell(boolWord(1), none), envCell(pidWord(5), none), funCell(impl.CellFun, 0, none), funCell(impl.CellRec, 199, none),
		consCell(refTo(0), refTo(1)), envCell(refTo(3), refTo(2)), funCell(impl.CellFun, 7, refTo(6)), funCell(impl.CellRec, 12, refTo(2)), pairCell(refTo(8), refTo(8)),
	}
}

func TestWirePutTable(t *testing.T) {
	list := wireHeaps()
	for i, want := range []string{
		"at0\npair 1 nil\n", "at0\ncons true nil\n", "at0\nenv pid5 nil\n", "at0\nfun 0 nil\n", "at0\nrec 199 nil\n",
		"at0\ncons at1 at2\npair 1 nil\ncons true nil\n", "at0\nenv at1 at2\nfun 0 nil\nenv pid5 nil\n", "at0\nfun 7 at1\nenv at2 at3\nfun 0 nil\nenv pid5 nil\n",
		"at0\nrec 12 at1\nenv pid5 nil\n", "at0\npair at1 at1\nrec 12 at2\nenv pid5 nil\n",
	} {
		if got := impl.WirePut(list, refTo(i)); got != want || wireTold(list, refTo(i)) != want {
			t.Errorf("%d: %q, want %q", i, got, want)
		}
		if !asksWire(t, want) {
			t.Errorf("%q is not read", want)
		}
	}
	for w, want := range map[impl.Word]string{
		none: "nil\n", intWord(0): "0\n", intWord(1): "1\n", intWord(-1): "-1\n", intWord(-10): "-10\n", intWord(1<<31 - 1): "2147483647\n", intWord(-1 << 31): "-2147483648\n",
		boolWord(0): "false\n", boolWord(1): "true\n", pidWord(0): "pid0\n", pidWord(5): "pid5\n",
	} {
		// A word that leads nowhere needs none of the cells.
		if got := impl.WirePut(list, w); got != want || impl.WirePut(nil, w) != want {
			t.Errorf("%v: %q, want %q", w, got, want)
		}
		if cells, got, ok := impl.WireGet(want); !ok || got != w || len(cells) > 0 {
			t.Errorf("%q: %v %v %v", want, cells, got, ok)
		}
	}
}

// Each kind of words stands as A and as B of a pair, and as A of a list and of what is known.
func TestWirePutWords(t *testing.T) {
	for text, w := range map[string]impl.Word{"nil": none, "0": intWord(0), "-7": intWord(-7), "2147483647": intWord(1<<31 - 1), "-2147483648": intWord(-1 << 31), "true": boolWord(1), "false": boolWord(0), "pid3": pidWord(3), "at0": refTo(0)} {
		for want, c := range map[string]impl.Cell{
			"at0\npair " + text + " pid1\n": pairCell(w, pidWord(1)), "at0\npair false " + text + "\n": pairCell(boolWord(0), w), "at0\ncons " + text + " nil\n": consCell(w, none), "at0\nenv " + text + " nil\n": envCell(w, none),
		} {
			if got := impl.WirePut([]impl.Cell{c}, refTo(0)); got != want {
				t.Errorf("%v: %q, want %q", c, got, want)
			}
			if cells, word, ok := impl.WireGet(want); !ok || word != refTo(0) || !slices.Equal(cells, []impl.Cell{c}) {
				t.Errorf("%q: %v %v %v", want, cells, word, ok)
			}
		}
	}
}

// Rings, cells that nobody needs, and cells in another order than they are come to.
func TestWirePutRings(t *testing.T) {
	one := intWord(1)
	for i, r := range []struct {
		list []impl.Cell
		w    impl.Word
		want string
	}{
		{[]impl.Cell{pairCell(refTo(0), refTo(0))}, refTo(0), "at0\npair at0 at0\n"},
		{[]impl.Cell{lone(), consCell(one, refTo(1))}, refTo(1), "at0\ncons 1 at0\n"},
		{[]impl.Cell{lone(), envCell(refTo(2), none), lone(), funCell(impl.CellRec, 3, refTo(4)), envCell(refTo(3), refTo(1)), lone()}, refTo(3), "at0\nrec 3 at1\nenv at0 at2\nenv at3 nil\npair 1 2\n"},
		{[]impl.Cell{consCell(refTo(1), refTo(2)), lone(), consCell(none, refTo(0))}, refTo(2), "at0\ncons nil at1\ncons at2 at0\npair 1 2\n"},
		{[]impl.Cell{lone(), pairCell(refTo(2), refTo(0)), pairCell(none, none)}, refTo(1), "at0\npair at1 at2\npair nil nil\npair 1 2\n"},
		{[]impl.Cell{lone(), lone()}, refTo(1), "at0\npair 1 2\n"},
		{[]impl.Cell{pairCell(refTo(1), refTo(1)), lone()}, refTo(0), "at0\npair at1 at1\npair 1 2\n"},
		{[]impl.Cell{pairCell(refTo(1), refTo(2)), lone(), lone()}, refTo(0), "at0\npair at1 at2\npair 1 2\npair 1 2\n"},
		{row(120), intWord(5), "5\n"}, {row(120), refTo(118), "at0\ncons 118 at1\ncons 119 nil\n"},
	} {
		got := impl.WirePut(r.list, r.w)
		if got != r.want || wireTold(r.list, r.w) != r.want {
			t.Errorf("%d: %q, want %q", i, got, r.want)
		}
		if !asksWire(t, got) {
			t.Errorf("%d: %q is not read", i, got)
		}
	}
}

// Cells, or a word, that are not ok are not written, be they needed or not.
func TestWirePutWrong(t *testing.T) {
	for i, r := range []struct {
		list []impl.Cell
		w    impl.Word
	}{
		{nil, refTo(0)}, {row(2), refTo(2)}, {row(2), refTo(-1)}, {row(2), impl.Word{Num: 1}}, {row(2), impl.Word{Tag: 5}}, {row(2), impl.Word{Tag: -1}}, {nil, intWord(1 << 31)}, {nil, intWord(-1<<31 - 1)}, {nil, boolWord(2)}, {nil, boolWord(-1)}, {nil, pidWord(6)}, {nil, pidWord(-1)},
		{row(121), none}, {row(121), refTo(120)}, {[]impl.Cell{{}}, none}, {[]impl.Cell{{Kind: 6}}, refTo(0)}, {[]impl.Cell{{Kind: -1}}, refTo(0)}, {[]impl.Cell{lone(), {Kind: 6}}, refTo(0)}, {[]impl.Cell{lone(), pairCell(none, refTo(2))}, refTo(0)},
		{[]impl.Cell{{Kind: impl.CellPair, Num: 1}}, refTo(0)}, {[]impl.Cell{consCell(none, intWord(1))}, refTo(0)}, {[]impl.Cell{consCell(none, refTo(1)), lone()}, refTo(0)}, {[]impl.Cell{envCell(none, refTo(1)), consCell(none, none)}, refTo(0)},
		{[]impl.Cell{funCell(impl.CellFun, 200, none)}, refTo(0)}, {[]impl.Cell{funCell(impl.CellRec, -1, none)}, refTo(0)}, {[]impl.Cell{{Kind: impl.CellFun, A: intWord(0)}}, refTo(0)}, {[]impl.Cell{funCell(impl.CellFun, 0, refTo(0))}, refTo(0)},
	} {
		if got := impl.WirePut(r.list, r.w); got != "" {
			t.Errorf("%d: %q", i, got)
		}
	}
}

// Texts that are no cells: nothing and false.
func TestWireGetWrong(t *testing.T) {
	texts := []string{
		"", "\n", "\n\n", " ", "nil", "1", "nil\n\n", "nil\n ", "nil\nnil\n", "nil\n1\n", "\nnil\n", " nil\n", "nil \n", "nil\r\n", "nil\t\n", "nil\x00", "Nil\n", "none\n", "ni\n", "nill\n", "fun\n", "env\n", "True\n", "tru\n", "0 \n", "0 0\n",
		"00\n", "01\n", "-0\n", "-01\n", "+1\n", "+0\n", "--1\n", "- 1\n", "-\n", "1.0\n", "1e3\n", "0x1\n", "1_0\n", "2147483648\n", "-2147483649\n", "9223372036854775807\n", "9223372036854775808\n", "-9223372036854775809\n", "99999999999999999999999\n", "４\n",
		"pid\n", "pid6\n", "pid-1\n", "pid-0\n", "pid+1\n", "pid00\n", "pid01\n", "pid 0\n", "pid10\n", "pid4294967296\n", "pida\n", "Pid0\n", "pidpid0\n", "at\n", "at0\n", "at-1\n", "atat0\n", "at0", "at 0\n",
		"at1\npair 1 2\n", "at-1\npair 1 2\n", "at00\npair 1 2\n", "at+0\npair 1 2\n", "at-0\npair 1 2\n", "at120\n" + strings.Repeat("pair 1 2\n", 120), "at0\npair at1 nil\n", "at0\npair nil at1\n", "at0\npair nil at-1\n", "at0\npair at00 nil\n",
		"at0\npair 1 2", "at0\npair 1 2\n\n", "at0\npair 1 2\n ", "at0\npair 1 2\nx", "at0\n\npair 1 2\n", "at0\npair  1 2\n", "at0\npair 1  2\n", "at0\n pair 1 2\n", "at0\npair 1 2 \n", "at0\npair\t1 2\n", "at0\npair 1 2\r\n", "at0 pair 1 2\n", "at0\npair 1\n", "at0\npair 1 \n", "at0\npair\n", "at0\npair 1 2 3\n", "at0\n1 2\n",
		"at0\npear 1 2\n", "at0\nPair 1 2\n", "at0\npairs 1 2\n", "at0\n1 1 2\n", "at0\nnum 1 2\n", "at0\n 1 2\n", "at0\npair 01 2\n", "at0\npair 1 -0\n", "at0\npair 2147483648 nil\n", "at0\npair nil -2147483649\n", "at0\npair pid6 1\n", "at0\npair x 1\n", "at0\npair 1 fun\n", "at0\npair 1 ...\n",
		"at0\ncons 1 1\n", "at0\ncons 1 true\n", "at0\ncons 1 pid0\n", "at0\ncons 1 at1\npair 1 2\n", "at0\ncons 1 at1\nenv 1 nil\n", "at0\nenv 1 1\n", "at0\nenv 1 false\n", "at0\nenv 1 at1\ncons 1 nil\n", "at0\nenv 1 at1\nfun 1 nil\n",
		"at0\nfun 200 nil\n", "at0\nfun -1 nil\n", "at0\nrec 200 nil\n", "at0\nrec -1 nil\n", "at0\nfun 00 nil\n", "at0\nfun -0 nil\n", "at0\nrec 01 nil\n", "at0\nrec +1 nil\n", "at0\nfun nil nil\n", "at0\nfun true nil\n", "at0\nrec pid1 nil\n", "at0\nrec at0 nil\n", "at0\nfun x nil\n", "at0\nfun  nil\n", "at0\nfun nil\n", "at0\nfun 1 nil nil\n",
		"at0\nfun 1 1\n", "at0\nfun 1 true\n", "at0\nrec 1 at0\n", "at0\nrec 1 at1\npair 1 2\n", "at0\nrec 1 at1\nfun 1 nil\n", "at0\nfun 99999999999999999999 nil\n",
		"nil\npair 1 2\n", "1\ncons 1 nil\n", "at0\npair 1 2\npair 1 2\n", "at0\npair at0 at0\ncons 1 nil\n", "at1\npair 1 2\npair 3 at0\n", "at1\npair 1 2\npair 3 4\n", "at0\npair at2 at1\npair 1 2\npair 3 4\n", "at0\npair at1 at3\npair at2 1\npair 3 4\npair 5 6\n", "at0\npair 1 at2\npair 1 2\npair 3 4\n",
	}
	for _, s := range texts {
		if asksWire(t, s) {
			t.Errorf("%q is read", s)
		}
	}
	if !asksWire(t, "at0\npair at1 at2\npair at3 1\npair 3 4\npair 5 6\n") || !asksWire(t, "at0\npair at1 at1\npair 1 2\n") || !asksWire(t, "at0\nrec 199 at1\nenv at0 at1\n") {
		t.Error("what is in order is not read")
	}
}

// bushy is as many pairs as may be, each of which leads to two others, as long as there are some; all other words are written with as many bytes as can be.
func bushy() []impl.Cell {
	list := make([]impl.Cell, impl.HeapMax)
	for i := range list {
		list[i] = pairCell(intWord(-1<<31), intWord(-1<<31))
		if 2*i+1 < len(list) {
			list[i].A = refTo(2*i + 1)
		}
		if 2*i+2 < len(list) {
			list[i].B = refTo(2*i + 2)
		}
	}
	return list
}

// As many cells as may be, and one more; as many bytes, and one more. No cells need so many.
func TestWireSizes(t *testing.T) {
	for _, list := range [][]impl.Cell{row(impl.HeapMax), bushy()} {
		s := impl.WirePut(list, refTo(0))
		if cells, w, ok := impl.WireGet(s); !ok || w != refTo(0) || !slices.Equal(cells, list) || !asksWire(t, s) {
			t.Errorf("%d bytes are not read", len(s))
		}
		for _, size := range []int{impl.WireMax, impl.WireMax + 1} {
			for _, pad := range []string{"\n", " ", "0", "\x00", "pair 1 2\n"} {
				long := s + strings.Repeat(pad, impl.WireMax+1)
				if asksWire(t, long[:size]) || asksWire(t, long[len(s):][:size]) {
					t.Errorf("%d bytes are read", size)
				}
			}
		}
	}
	over := "at0\n"
	for i := range impl.HeapMax {
		over += "cons 1 at" + strconv.Itoa(i+1) + "\n"
	}
	if asksWire(t, over+"cons 1 nil\n") || !asksWire(t, strings.Replace(over, "at120", "nil", 1)) {
		t.Error("one cell more than may be is read, or as many as may be are not")
	}
	for _, size := range []int{impl.WireMax, impl.WireMax + 1, 1 << 20} {
		for _, s := range []string{strings.Repeat("1", size), strings.Repeat("0", size-2) + "1\n", strings.Repeat("1", size-1) + "\n", "-" + strings.Repeat("9", size-2) + "\n", strings.Repeat("\n", size), "pid" + strings.Repeat("0", size-4) + "\n", "at" + strings.Repeat("1", size-3) + "\n"} {
			if asksWire(t, s) {
				t.Errorf("%d bytes are read", size)
			}
		}
	}
}

// P41: what a word leads to is read back from how it is written.
func TestWirePutPromise(t *testing.T) {
	r := rand.New(rand.NewSource(701))
	kinds, longest := map[int]int{}, 0
	for range 6000 {
		list, _ := someHeap(r)
		w := someWord(r, make([]int, len(list)))
		s := impl.WirePut(list, w)
		if want := wireTold(list, w); s != want || s == "" {
			t.Fatalf("%v %v: %q, want %q", list, w, s, want)
		}
		cells, words := impl.HeapClean(list, []impl.Word{w})
		got, then, ok := impl.WireGet(s)
		if !ok || !slices.Equal(got, cells) || then != words[0] || impl.HeapText(got, then) != impl.HeapText(list, w) {
			t.Fatalf("%v %v: %q, read %v %v %v", list, w, s, got, then, ok)
		}
		for _, c := range got {
			kinds[c.Kind]++
		}
		longest = max(longest, len(s))
	}
	for kind := impl.CellPair; kind <= impl.CellRec; kind++ {
		if kinds[kind] < 1000 {
			t.Errorf("%d cells of kind %d", kinds[kind], kind)
		}
	}
	if longest > impl.WireMax || longest < 500 {
		t.Errorf("the longest text has %d bytes", longest)
	}
}

// changed is a text in which something is left out, put in, doubled, or something else.
func changed(r *rand.Rand, s string) string {
	pieces := []string{"0", "1", "-", " ", "\n", "nil", "at0", "at1", "pid5", "true", "pair ", "cons 1 nil\n", "fun 1 nil\n", "6", "9", "x", "\xff"}
	at := r.Intn(len(s) + 1)
	end := min(len(s), at+r.Intn(3))
	switch r.Intn(4) {
	case 0:
		return s[:at] + s[end:]
	case 1:
		return s[:at] + pieces[r.Intn(len(pieces))] + s[at:]
	case 2:
		return s[:at] + pieces[r.Intn(len(pieces))] + s[end:]
	}
	lines := strings.SplitAfter(s, "\n")
	i, k := r.Intn(len(lines)), r.Intn(len(lines))
	lines[i], lines[k] = lines[k], lines[i]
	return strings.Join(lines, "")
}

// P42: what is read as cells is written just so, and all of it is needed; texts that are nearly so against how the tests see them.
func TestWireGetPromise(t *testing.T) {
	r := rand.New(rand.NewSource(702))
	read, refused := 0, 0
	for range 40000 {
		list := someCells(r, r.Intn(5))
		s := impl.WirePut(list, someWord(r, make([]int, len(list))))
		for n := 1 + r.Intn(2); n > 0; n-- {
			s = changed(r, s)
		}
		if asksWire(t, s) {
			read++
		} else {
			refused++
		}
	}
	if read < 3000 || refused < 10000 {
		t.Errorf("%d were read, %d not", read, refused)
	}
	words := []string{"nil", "0", "-1", "true", "pid5", "pid6", "at0", "at1", "at2", "-0", "", "2147483648"}
	for _, first := range words {
		for _, kind := range []string{"pair", "cons", "env", "fun", "rec", "none"} {
			for _, a := range words {
				for _, b := range words {
					asksWire(t, first+"\n"+kind+" "+a+" "+b+"\n")
					asksWire(t, first+"\n"+kind+" "+a+" "+b+"\nenv 1 nil\n")
				}
			}
		}
	}
}

// Nothing is written into cells, nor behind them; what is read is new memory, each time.
func TestWireKeepsArguments(t *testing.T) {
	r := rand.New(rand.NewSource(703))
	spare := pairCell(intWord(7), intWord(7))
	for range 500 {
		list, _ := someHeap(r)
		w := someWord(r, make([]int, len(list)))
		room := append(slices.Clone(list), spare, spare)
		s := impl.WirePut(room[:len(list)], w)
		if !slices.Equal(room, append(slices.Clone(list), spare, spare)) {
			t.Fatal("an argument was written into")
		}
		cells, word, _ := impl.WireGet(s)
		clear(cells[:cap(cells)])
		if again, then, ok := impl.WireGet(s); !ok || then != word || impl.WirePut(again, then) != s {
			t.Fatalf("%q: another answer", s)
		}
	}
}

// Both functions of chapter 12 answer, whatever they are given, and tell nothing of what is not ok.
func TestWireAtAnything(t *testing.T) {
	r := rand.New(rand.NewSource(704))
	numbers := []int{0, 0, 1, 2, 3, 5, 6, -1, 119, 120, 200, 1 << 31, -1<<31 - 1, 1<<63 - 1, -1 << 63}
	any := func() impl.Word { return impl.Word{Tag: r.Intn(7) - 1, Num: numbers[r.Intn(len(numbers))]} }
	fit := 0
	for range 20000 {
		list, _ := someHeap(r)
		for n := r.Intn(3); n > 0 && len(list) > 0; n-- {
			list[r.Intn(len(list))] = impl.Cell{Kind: r.Intn(8) - 1, Num: numbers[r.Intn(len(numbers))], A: any(), B: any()}
		}
		w := any()
		s := impl.WirePut(list, w)
		if want := wireTold(list, w); s != want {
			t.Fatalf("%v %v: %q, want %q", list, w, s, want)
		}
		if asksWire(t, s) {
			fit++
		}
		asksWire(t, anyText(r))
	}
	if fit < 1000 {
		t.Errorf("%d are ok", fit)
	}
}
