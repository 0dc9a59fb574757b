package tests

import (
	"strconv"
	"strings"
	"testing"

	"loop.example/ensemble/impl"
)

// asksMach asks MachOf of an expression, with and without always, against labour that has no code; the answer without always is told.
func asksMach(t *testing.T, e impl.Expr) (string, int, int) {
	t.Helper()
	for _, always := range []bool{true, false} {
		s, want, most := impl.MachOf(e, always)
		if text, code, cells := machLaboured(e, always); s != text || want != code || most != cells {
			t.Fatalf("%s, always %v: %q %d %d, want %q %d %d", impl.ExprPut(e), always, s, want, most, text, code, cells)
		}
	}
	return impl.MachOf(e, false)
}

// machRow is a text, what MachOf is of it, and the most cells without always, and with it.
type machRow struct {
	text  string
	value string
	want  int
	most  int
	few   int
}

func asksMachs(t *testing.T, rows []machRow) {
	t.Helper()
	for _, row := range rows {
		e := mustType(t, row.text)
		s, want, most := asksMach(t, e)
		if s != row.value || want != row.want || most != row.most {
			t.Errorf("%s: %q %d %d, want %q %d %d", row.text, s, want, most, row.value, row.want, row.most)
		}
		if s, want, few := impl.MachOf(e, true); s != row.value || want != row.want || few != row.few {
			t.Errorf("%s, always: %q %d %d, want %q %d %d", row.text, s, want, few, row.value, row.want, row.few)
		}
	}
}

func TestMachOfTable(t *testing.T) {
	done := impl.WantDone
	asksMachs(t, []machRow{
		{"7", "7", done, 0, 0}, {"true", "true", done, 0, 0}, {"nil", "nil", done, 0, 0}, {"self", "pid 0", done, 0, 0}, {"1 + 2 * 3", "7", done, 0, 0}, {"if 1 < 2 then 3 else 4", "3", done, 0, 0},
		{"(1, 2)", "(1, 2)", done, 1, 1}, {"(1, 2 :: nil)", "(1, 2 :: nil)", done, 2, 2}, {"fun x -> x", "fun", done, 1, 1}, {"(fun x -> x) :: nil", "fun :: nil", done, 2, 2},
		{"fst (1, 2) + snd (3, 4)", "5", done, 2, 1}, {"let x = (1, 2) in fst x :: nil", "1 :: nil", done, 3, 3}, {"rec f x = f x in f", "fun", done, 2, 2}, {"rec f x = f x in 1", "1", done, 2, 2},
		{"(fun x -> x) 1", "1", done, 2, 1}, {"(fun x -> fun y -> x) 1 2", "1", done, 4, 2}, {"rec f x = x in f 1", "1", done, 4, 4}, {"rec f x = x in f (1, 2)", "(1, 2)", done, 5, 5},
		{"case nil of nil -> 1 | h :: t -> 2", "1", done, 0, 0}, {"case 1 :: 2 :: nil of nil -> nil | h :: t -> t", "2 :: nil", done, 4, 3}, {"(case 1 :: nil of nil -> 0 | h :: t -> h) + fst (1, 2)", "2", done, 4, 2},
		{"(let a = 1 in a) + (let b = 2 in b)", "3", done, 2, 1}, {"let a = 1 in let b = 2 in a + b", "3", done, 2, 2}, {"out (fst (5, 6)) + out 7", "0", done, 1, 1}, {"if fst (true, 1) then (2, 3) else (4, 5)", "(2, 3)", done, 2, 1},
		{"1 / 0", "", impl.WantDiv, 0, 0}, {"fst (1, 2) / 0", "", impl.WantDiv, 1, 1}, {"(1, recv)", "", impl.ExprRecv, 0, 0}, {"((1, 2), recv)", "", impl.ExprRecv, 1, 1}, {"spawn (fun x -> x)", "", impl.ExprSpawn, 1, 1},
		{"send self (1, 2)", "", impl.ExprSend, 1, 1}, {"link self", "", impl.ExprLink, 0, 0}, {"let a = out 1 in let b = out 2 in link self", "", impl.ExprLink, 2, 2},
	})
}

// Cells that one thing alone needs, while others are made: with always all else is gone then, and the numbers tell that nothing more is kept.
func TestMachOfNeeds(t *testing.T) {
	done := impl.WantDone
	asksMachs(t, []machRow{
		// a value that is not yet taken
		{"((1, 2), fst (3, 4))", "((1, 2), 3)", done, 3, 2},
		{"fst ((1, 2) :: nil, (3, 4))", "(1, 2) :: nil", done, 4, 4},
		{"((1, 2), let x = 5 in x)", "((1, 2), 5)", done, 3, 2},
		{"((1, 2), (fun x -> x) 5)", "((1, 2), 5)", done, 4, 2},
		{"(1, 2) :: (let x = (3, 4) in x) :: nil", "(1, 2) :: (3, 4) :: nil", done, 5, 4},
		// the rest of a list that is not bound yet
		{"case 1 :: 2 :: 3 :: nil of nil -> nil | h :: t -> t", "2 :: 3 :: nil", done, 5, 4},
		{"case (1, 1) :: (2, 2) :: nil of nil -> nil | h :: t -> t", "(2, 2) :: nil", done, 6, 5},
		// the value of a call that is not bound yet
		{"rec f x = x in f (1 :: 2 :: nil)", "1 :: 2 :: nil", done, 6, 6},
		{"(rec f x = x in f) (1, 2)", "(1, 2)", done, 5, 4},
		{"(fun x -> x) (1, 2)", "(1, 2)", done, 3, 2},
		// what is known to a function that waits
		{"let f = fun z -> fst (z, z) in let x = (1, 2) in let y = f 3 in (x, y)", "((1, 2), 3)", done, 8, 6},
		{"let f = fun z -> fst (z, z) in let x = (1, 2) in let y = f (f 3) in x", "(1, 2)", done, 9, 6},
		{"let f = fun z -> fst (z, z) in let x = (1, 2) in let g = fun y -> (f 3, y) in (fun k -> (x, k)) (g 4)", "((1, 2), (3, 4))", done, 13, 10},
		// A or B of the cell that is made
		{"((1, 2), 3)", "((1, 2), 3)", done, 2, 2}, {"(1, (2, 3))", "(1, (2, 3))", done, 2, 2}, {"((1, 2), (3, 4))", "((1, 2), (3, 4))", done, 3, 3}, {"(1, 2) :: nil", "(1, 2) :: nil", done, 2, 2},
		{"let x = (1, 2) in x", "(1, 2)", done, 2, 2}, {"let x = 1 in fun y -> x", "fun", done, 2, 2}, {"(let x = (1, 2) in fun y -> x) 3", "(1, 2)", done, 4, 3},
	})
}

// The same without always: so many cells are made beside that they are cleaned when there are HeapMax.
func TestMachOfCleans(t *testing.T) {
	made := "rec g n = if n < 1 then 0 else fst (g (n - 1), (n, n)) in " // g 20 leaves some 80 cells that nobody needs
	for _, row := range [][2]string{
		{"((1, 2), g 20 + g 20 + g 20)", "((1, 2), 0)"},
		{"(case (1 :: 2 :: nil) of nil -> nil | h :: t -> fst (t, g 20 + g 20 + g 20)) ", "2 :: nil"},
		{"let x = (1, 2) in let y = (g 20, g 20) in (x, y)", "((1, 2), (0, 0))"},
		{"let f = fun z -> (g 20, g 20) in let x = (1, 2) in let y = f 3 in (x, y)", "((1, 2), (0, 0))"},
		{"(fun a -> fun b -> (a, b)) (1, 2) (g 20 + g 20, (3, 4))", "((1, 2), (0, (3, 4)))"},
		{"rec h n = if n < 1 then nil else (n, g 5) :: h (n - 1) in h 9", "(9, 0) :: (8, 0) :: (7, 0) :: (6, 0) :: (5, 0) :: (4, 0) :: (3, 0) :: (2, 0) :: (1, 0) :: nil"},
	} {
		e := mustRead(t, made+row[0])
		s, want, most := asksMach(t, e)
		if s != row[1] || want != impl.WantDone || most != impl.HeapMax {
			t.Errorf("%s: %q %d %d", row[0], s, want, most)
		}
		if _, _, few := impl.MachOf(e, true); few >= impl.HeapMax {
			t.Errorf("%s: %d cells with always", row[0], few)
		}
	}
	// Whatever was made ahead: cells are cleaned at each op that makes one.
	for n := range 60 {
		for _, last := range []string{"((1, 2), (3, 4))", "case (1, 1) :: (2, 2) :: nil of nil -> nil | h :: t -> t", "rec f x = x in f (1, 2)", "(fun x -> fun y -> (x, y)) (1, 2) (3, 4)", "fst ((fun x -> (x, x)) (1, 2), g 3)"} {
			asksMach(t, mustType(t, made+"let a = g "+strconv.Itoa(n%24)+" in let b = g "+strconv.Itoa(n/3)+" in "+last))
		}
	}
}

// FrameMax functions wait, and one more; these have few cells.
func TestMachOfFrames(t *testing.T) {
	deep := "rec f n = if n < 1 then 7 else (fun x -> f (n - 1)) 0 in " // f n waits in 2 n + 1 functions at once
	for _, row := range []struct {
		text  string
		value string
		want  int
	}{
		{"f 29", "7", impl.WantDone}, {"(fun y -> f 29) 0", "7", impl.WantDone}, {"f 30", "", impl.WantFull}, {"(fun y -> (fun z -> f 29) 0) 0", "", impl.WantFull},
		{"(f 29, (fun y -> f 29) 0)", "(7, 7)", impl.WantDone}, {"(f 29, f 30)", "", impl.WantFull}, {"f 999", "", impl.WantFull}, {"(rec g n = (fun x -> g n) 0 in g 0)", "", impl.WantFull}, {"(fun y -> f 29 / 0) 0", "", impl.WantDiv},
	} {
		e := mustRead(t, deep+row.text)
		if s, want, _ := asksMach(t, e); s != row.value || want != row.want {
			t.Errorf("%s: %q %d", row.text, s, want)
		}
		if _, _, few := impl.MachOf(e, true); few >= impl.HeapMax {
			t.Errorf("%s: %d cells", row.text, few)
		}
	}
}

// HeapMax cells are needed, and one more.
func TestMachOfRoom(t *testing.T) {
	list := "rec l n = if n < 1 then nil else n :: l (n - 1) in " // l n has 2 + 2 (n + 1) cells at once
	told := "58 :: 57 :: 56 :: 55 :: 54 :: 53 :: 52 :: 51 :: 50 :: 49 :: 48 :: 47 :: 46 :: ... :: ..."
	full := impl.HeapMax
	asksMachs(t, []machRow{
		{list + "l 57", strings.Replace(strings.Replace(told, "58 :: ", "", 1), "46", "46 :: 45", 1), impl.WantDone, full, 118},
		{list + "l 58", told, impl.WantDone, full, full},
		{list + "l 59", "", impl.WantFull, full, full},
		{"let x = 1 in " + list + "l 58", "", impl.WantFull, full, full},
		{"let x = 1 in " + list + "case l 57 of nil -> 1 | h :: t -> h", "57", impl.WantDone, full, 119},
		{"fst (1, 2) + (" + list + "case l 58 of nil -> 0 | h :: t -> h)", "59", impl.WantDone, full, full},
		{"((1, 2), " + list + "l 58)", "", impl.WantFull, full, full},
		{list + "(l 58, 1 / 0)", "", impl.WantDiv, full, full},
		{list + "(l 59, 1 / 0)", "", impl.WantFull, full, full},
		{"rec f l = f (1 :: l) in f nil", "", impl.WantFull, full, full},
	})
}

// Cells that are built up, so many of each kind, up to where there is no room.
func TestMachOfManyCells(t *testing.T) {
	list := "rec l n = if n < 1 then nil else n :: l (n - 1) in "
	ends := map[int]int{}
	for _, text := range []string{
		list + "l N", list + "rec s x = case x of nil -> 0 | h :: t -> h + s t in s (l N)", list + "rec m x = case x of nil -> nil | h :: t -> h * h :: m t in m (l N)",
		list + "let a = l 20 in let b = l 10 in let c = l N in (a, (b, c))", "rec p n = if n < 1 then (1, 1) else (fst (p (n - 1)), n) in p N", "rec p n = if n < 1 then (1, 1) else let q = p (n - 1) in (snd q, fst q) in p N",
		"rec c n = if n < 1 then fun x -> x else let g = c (n - 1) in fun x -> g x + n in c N 5", "rec k n = fun f -> if n < 1 then f 0 else k (n - 1) (fun x -> f (x + n)) in k N (fun x -> x)",
		"rec a l = fun n -> if n < 1 then l else a (n :: l) (n - 1) in a nil N", list + "rec r x = fun y -> case x of nil -> y | h :: t -> r t (h :: y) in r (l N) nil", "rec f n = if n < 2 then n else f (n - 1) + f (n - 2) in (f 5, f (N - 40))",
		list + "case l N of nil -> nil | h :: t -> (case t of nil -> nil | h :: t -> h :: t)", "rec z n = if n < 1 then (nil, nil) else let y = z (n - 1) in (n :: fst y, (n, n) :: snd y) in z N",
	} {
		for n := range 62 {
			_, want, _ := asksMach(t, mustType(t, strings.ReplaceAll(text, "N", strconv.Itoa(n))))
			ends[want]++
		}
	}
	if ends[impl.WantDone] < 300 || ends[impl.WantFull] < 100 {
		t.Error(ends)
	}
}

// CallMax calls, and one less, and one more.
func TestMachOfCalls(t *testing.T) {
	calls := "rec f n = if n < 1 then 0 else f (n - 1) in f 49 + f 49 + f 49 + f 49 + f 49 + " // 250 calls
	more := impl.WantMore
	for _, row := range []evalRow{
		{"f 48", "0", impl.WantDone}, {"f 49", "", more}, {"f 50", "", more}, {"f 48 + (fun x -> x) 1", "", more}, {"f 47 + (fun x -> x) 1", "1", impl.WantDone}, {"f 48 / 0", "", impl.WantDiv}, {"f 49 / 0", "", more},
		{"f 48 + recv", "", impl.ExprRecv}, {"f 49 + recv", "", more}, {"f 48 + out (f 0)", "", more}, {"f 40 + out (f 7)", "0", impl.WantDone}, {"(rec g n = g n in g 0)", "", more}, {"out 1 + out 2 + f 49", "", more},
	} {
		if s, want, _ := asksMach(t, mustRead(t, calls+row.text)); s != row.value || want != row.want {
			t.Errorf("%s: %q %d", row.text, s, want)
		}
	}
}

// What has no type, or is not ok.
func TestMachOfWrong(t *testing.T) {
	list := wrongExprs()
	for _, s := range []string{"x", "1 2", "1 + true", "fun x -> x x", "if 1 then 2 else 3", "let x = 1 in y", "fst 1", "(1, x)", "case 1 of nil -> 1 | h :: t -> 2", "spawn 1", "send 1 2"} {
		list = append(list, mustRead(t, s))
	}
	for i, e := range list {
		for _, always := range []bool{false, true} {
			if s, want, most := impl.MachOf(e, always); s != "" || want != impl.WantStuck || most != 0 {
				t.Errorf("wrong expression %d: %q %d %d", i, s, want, most)
			}
		}
	}
}

// P23: on the machine an expression does what its words mean. P24: when cells are cleaned changes nothing but how many there are.
func TestMachOfPromise(t *testing.T) {
	codes, fewer := map[int]int{}, 0
	for _, e := range withTypes(401, 4000) {
		s, want, most := asksMach(t, e)
		codes[want]++
		if text, code := impl.EvalOf(e); want != impl.WantFull && (text != s || code != want) || most > impl.HeapMax || most < 0 {
			t.Fatalf("%s: %q %d %d, it means %q %d", impl.ExprPut(e), s, want, most, text, code)
		}
		text, code, few := impl.MachOf(e, true)
		if text != s || code != want || few > most {
			t.Fatalf("%s: %q %d %d, with always %q %d %d", impl.ExprPut(e), s, want, most, text, code, few)
		}
		if few < most {
			fewer++
		}
	}
	for _, want := range []int{impl.WantMore, impl.WantDone, impl.WantDiv, impl.WantFull, impl.ExprSpawn, impl.ExprSend, impl.ExprRecv, impl.ExprLink} {
		if codes[want] < 1 {
			t.Errorf("none came to %d", want)
		}
	}
	if fewer < 500 {
		t.Errorf("of %d there were fewer cells with always", fewer)
	}
}
