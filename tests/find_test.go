package tests

import (
	"math/rand"
	"slices"
	"strconv"
	"strings"
	"testing"

	"loop.example/ensemble/impl"
)

// picksTold are picks with blanks between, `-` if none were found.
func picksTold(list []impl.Event, ok bool) string {
	if !ok {
		return strings.Repeat("-", 1+len(list))
	}
	var words []string
	for _, event := range list {
		word := strconv.Itoa(event.Proc)
		if event.Kind != impl.EventRun {
			word = "?" + word
		}
		words = append(words, word)
	}
	return strings.Join(words, " ")
}

// asksDead asks FindDead against all ways of players; what it finds is told.
func asksDead(t *testing.T, e impl.Expr, picks int) ([]impl.Event, bool) {
	t.Helper()
	list, ok := impl.FindDead(e, picks)
	if seen, found := firstSeen(e, picks, isDeadSeen); picksTold(list, ok) != picksTold(seen, found) {
		t.Fatalf("%s, %d picks: %s, want %s", impl.ExprPut(e), picks, picksTold(list, ok), picksTold(seen, found))
	}
	return list, ok
}

// asksTold asks FindTold against all ways of players; what it finds is told.
func asksTold(t *testing.T, e impl.Expr, num int, picks int) ([]impl.Event, bool) {
	t.Helper()
	list, ok := impl.FindTold(e, num, picks)
	seen, found := firstSeen(e, picks, func(a impl.Answer, _ []int) bool { return isToldSeen(a, num) })
	if picksTold(list, ok) != picksTold(seen, found) {
		t.Fatalf("%s, %d in %d picks: %s, want %s", impl.ExprPut(e), num, picks, picksTold(list, ok), picksTold(seen, found))
	}
	return list, ok
}

// asksIs asks FindIs against players; what it says is told.
func asksIs(t *testing.T, e impl.Expr, list []impl.Event) bool {
	t.Helper()
	is := impl.FindIs(e, list)
	answer, _, can := staged(e, list)
	if is != isDeadSeen(answer, can) {
		t.Fatalf("%s, behind %v: %v, but %s, and %v can", impl.ExprPut(e), list, is, answerTold(answer), can)
	}
	return is
}

// isRow is a text, events behind which a process waits without an end, and events behind which none does.
type isRow struct {
	text string
	is   []string
	not  []string
}

func asksIsRows(t *testing.T, rows []isRow) {
	t.Helper()
	for _, row := range rows {
		e := mustType(t, row.text)
		for i, texts := range [][]string{row.not, row.is} {
			for _, text := range texts {
				if asksIs(t, e, eventsOf(text)) != (i == 1) {
					t.Errorf("%s, behind %q: %v", row.text, text, i == 0)
				}
			}
		}
	}
}

// No events, events of processes that are not there, one that waits for itself, all of which have ended, and one that goes on without an end.
func TestFindIsAlone(t *testing.T) {
	asksIsRows(t, []isRow{
		{"recv", []string{"0", "0 0", "0 1", "5 0 -1 6", "0 k1 k-1 k6", "k3 1 0 0"}, []string{"", "1", "-1", "6", "k0", "0 k0", "k0 0", "6x1"}}, {"7", nil, []string{"", "0", "0 0", "k0", "1"}}, {"1 / 0", nil, []string{"", "0", "0 0"}}, {"rec f n = f n in f 0", nil, []string{"", "0", "9x0", "k0"}},
		{"let a = send self 5 in recv + recv", []string{"0 0 0", "0 0 0 0"}, []string{"", "0", "0 0", "0 0 0 k0"}}, {"let a = send self 5 in recv", nil, []string{"", "0", "0 0", "0 0 0"}}, {"let a = out 1 in recv", []string{"0 0", "0 0 0 5"}, []string{"0", "0 1", "0 k0", "0 0 k0"}}, {"link self + recv", []string{"0 0"}, []string{"0", "0 0 k0"}},
		{"rec f n = if n < 1 then recv else f (n - 1) in f 38", []string{"0"}, []string{""}}, {"rec f n = if n < 1 then recv else f (n - 1) in f 39", []string{"0 0"}, []string{"", "0"}},
	})
}

// One that waits while another one can, when all others have ended, each in its way, when all wait, and when it was told something.
func TestFindIsOfOthers(t *testing.T) {
	asksIsRows(t, []isRow{
		{"let p = spawn (fun x -> recv) in 1", []string{"0 0 1", "0 1 0", "0 k0 1", "0 1 k0", "0 1 0 1 0"}, []string{"", "0", "0 0", "0 1", "1 0", "0 k0", "0 0 k1", "0 1 0 k1", "0 k1 0"}}, {"let p = spawn (fun x -> recv) in 1 / 0", []string{"0 0 1", "0 1 0"}, []string{"0 0", "0 1", "0 1 0 k1"}},
		{"let p = spawn (fun x -> recv) in recv", []string{"0 0 1", "0 1 0", "0 k0 1", "0 k1 0", "0 0 1 k0", "0 0 1 k1"}, []string{"", "0", "0 0", "0 1", "0 k0 k1", "0 0 1 k0 k1"}}, {"let p = spawn (fun x -> 1) in recv", []string{"0 0 1", "0 1 0", "0 k1 0"}, []string{"0 0", "0 1", "0 1 k0"}},
		{"let p = spawn (fun x -> out recv) in send p 5", []string{"0 1 k0", "0 k0 1"}, []string{"0 1", "0 1 0", "0 1 0 1", "0 1 0 1 1", "0 1 0 1 1 1 0", "0 0 0 1 1 1"}}, {"let p = spawn (fun x -> let q = recv in recv) in send p 5", []string{"0 0 0 1 1", "0 1 0 1 1 0"}, []string{"0 0 0 1", "0 0 1 1", "0 0 0"}},
	})
}

// Links with one that waits: it ends with who is linked with it, unless that is done.
func TestFindIsOfLinked(t *testing.T) {
	asksIsRows(t, []isRow{
		{"let p = spawn (fun x -> recv) in let a = link p in 1 / 0", []string{"0 k0 1"}, []string{"0 1 0 0", "0 0 1 0", "0 0 0 1", "0 1 0", "0 1 0 k0", "0 1 0 k1"}}, {"let p = spawn (fun x -> recv) in link p", []string{"0 1 0 0", "0 0 0 1", "0 0 1 0"}, []string{"0 1 0", "0 1 0 k0", "0 1 0 0 k1", "0 0 k1"}},
		{"let p = spawn (fun x -> 1 / 0) in let a = link p in recv", nil, []string{"0 0 0 1", "0 1 0", "0 0 1", "0 k1 0"}}, {"let p = spawn (fun x -> 1) in let a = link p in recv", []string{"0 0 0 1", "0 1 0 0", "0 0 1 0"}, []string{"0 0 0", "0 k1 0", "0 0 k1"}},
		{"let p = spawn (fun x -> recv) in let q = spawn (fun x -> 1 / 0) in let a = link p in link q", nil, []string{"0 0 1 0 0 2", "0 0 1 0 2 0", "0 0 1 2 0 0"}}, {"let p = spawn (fun x -> recv) in let q = spawn (fun x -> 1 / 0) in link q", []string{"0 0 1 0 2", "0 0 1 2 0", "0 0 1 0 0 2"}, []string{"0 0 1 0 0", "0 0 1 2"}},
	})
}

// EventMax events, and one more.
func TestFindIsEventMax(t *testing.T) {
	e := mustType(t, "recv")
	for _, ahead := range []int{0, 1, impl.EventMax - 1, impl.EventMax, impl.EventMax + 5} {
		if asksIs(t, e, eventsOf(strconv.Itoa(ahead)+"x5 0 0")) != (ahead < impl.EventMax) {
			t.Errorf("%d events ahead", ahead)
		}
	}
	if asksIs(t, e, eventsOf("119x0 k0")) || !asksIs(t, e, eventsOf("120x0 k0")) {
		t.Error("the last event that counts")
	}
	for _, kind := range []int{0, 3, -1, 1 << 40, -1 << 63} {
		if asksIs(t, e, []impl.Event{{Kind: kind}}) || !asksIs(t, e, []impl.Event{{Kind: kind}, {Kind: impl.EventRun}, {Kind: kind}}) {
			t.Errorf("kind %d", kind)
		}
	}
}

// deadRow is a text, how many picks there are, and those that are found.
type deadRow struct {
	text  string
	picks int
	want  string
}

// No pick, one, WaysMax; ones that find nothing, and that find a longer way though a shorter one is behind one of a higher number.
func TestFindDeadTable(t *testing.T) {
	late := "let p = spawn (fun x -> 1 / 0) in let q = spawn (fun x -> recv) in link p"
	pair := "let p = spawn (fun x -> recv) in recv"
	for _, row := range []deadRow{
		{"recv", 0, "-"}, {"recv", 1, "0"}, {"recv", impl.WaysMax, "0"}, {"7", 0, "-"}, {"7", 1, "-"}, {"7", impl.WaysMax, "-"}, {"1 / 0", impl.WaysMax, "-"}, {"rec f n = f n in f 0", impl.WaysMax, "-"}, {"out 1 + recv", 1, "-"}, {"out 1 + recv", 2, "0 0"}, {"let a = send self 5 in recv", impl.WaysMax, "-"}, {"let a = send self 5 in recv + recv", impl.WaysMax, "0 0 0"},
		{"let p = spawn (fun x -> recv) in 1", 2, "-"}, {"let p = spawn (fun x -> recv) in 1", 3, "0 0 1"}, {"let p = spawn (fun x -> recv) in 1", impl.WaysMax, "0 0 1"}, {pair, 2, "-"}, {pair, 3, "0 0 1"}, {"let p = spawn (fun x -> 1) in recv", impl.WaysMax, "0 0 1"},
		{"let p = spawn (fun x -> recv) in let a = link p in 1 / 0", impl.WaysMax, "-"}, {"let p = spawn (fun x -> recv) in link p", impl.WaysMax, "0 0 0 1"}, {"let p = spawn (fun x -> 1 / 0) in let a = link p in recv", impl.WaysMax, "-"}, {"let p = spawn (fun x -> 1) in let a = link p in recv", impl.WaysMax, "0 0 0 1"},
		{late, 4, "-"}, {late, 5, "0 0 0 1 2"}, {late, impl.WaysMax, "0 0 0 0 1 2"}, {"let s = self in let p = spawn (fun x -> send s 1) in let q = recv in recv", impl.WaysMax, "0 0 1 0 0 1"}, {"let s = self in let p = spawn (fun x -> send s 1) in let q = recv in recv", 5, "0 1 0 0 1"},
	} {
		e := mustType(t, row.text)
		if list, ok := asksDead(t, e, row.picks); picksTold(list, ok) != row.want {
			t.Errorf("%s, %d picks: %s, want %s", row.text, row.picks, picksTold(list, ok), row.want)
		}
	}
}

// Of two ways that differ that which first picks the process of the lower number, though the other one is shorter.
func TestFindTakesTheFirst(t *testing.T) {
	late := "let p = spawn (fun x -> 1 / 0) in let q = spawn (fun x -> recv) in link p"
	dead, _ := asksDead(t, mustType(t, late), impl.WaysMax)
	if fewer, ok := asksDead(t, mustType(t, late), len(dead)-1); !ok || len(fewer) >= len(dead) {
		t.Errorf("%v, then %v", dead, fewer)
	}
	told := "let p = spawn (fun x -> out 5) in let a = out 1 in out 5"
	for picks, want := range []string{"-", "-", "0 1", "0 0 0", "0 0 0", "0 0 0", "0 0 0"} {
		if list, ok := asksTold(t, mustType(t, told), 5, picks); picksTold(list, ok) != want {
			t.Errorf("%d picks: %s, want %s", picks, picksTold(list, ok), want)
		}
	}
	three := "let p = spawn (fun x -> out 7) in let q = spawn (fun x -> out 7) in 1"
	for picks, want := range []string{"-", "-", "0 1", "0 0 1", "0 0 0 1", "0 0 0 1", "0 0 0 1"} {
		if list, ok := asksTold(t, mustType(t, three), 7, picks); picksTold(list, ok) != want {
			t.Errorf("%d picks: %s, want %s", picks, picksTold(list, ok), want)
		}
	}
}

// toldRow is a text, a number, how many picks there are, and those that are found.
type toldRow struct {
	text  string
	num   int
	picks int
	want  string
}

// A number that is told, by whom, that is not told last, that is told twice, that is none, and numbers of all sizes.
func TestFindToldTable(t *testing.T) {
	more := "let a = out 1 in let b = out 2 in out 1"
	race := "let p = spawn (fun x -> out 5) in out 4"
	counts := "rec f n = let a = out n in f (n + 1) in f 0"
	large := "let m = 32768 * 65535 + 32767 in let a = out m in out (m + 1)"
	for _, row := range []toldRow{
		{"7", 7, impl.WaysMax, "-"}, {"7", 0, impl.WaysMax, "-"}, {"recv", 0, impl.WaysMax, "-"}, {"out 7", 7, 0, "-"}, {"out 7", 7, 1, "0"}, {"out 7", 7, impl.WaysMax, "0"}, {"out 7", 8, impl.WaysMax, "-"}, {"out 0", 0, 1, "0"}, {"out 0", 0, 0, "-"}, {"out (0 - 7)", -7, 1, "0"}, {"out (0 - 7)", 7, 1, "-"},
		{more, 1, 1, "0"}, {more, 1, impl.WaysMax, "0"}, {more, 2, 1, "-"}, {more, 2, 2, "0 0"}, {more, 2, impl.WaysMax, "0 0"}, {more, 3, impl.WaysMax, "-"}, {race, 4, impl.WaysMax, "0 0"}, {race, 5, impl.WaysMax, "0 0 0 1"}, {race, 5, 3, "0 0 1"}, {race, 5, 2, "0 1"}, {race, 5, 1, "-"}, {race, 1, impl.WaysMax, "-"},
		{counts, 0, impl.WaysMax, "0"}, {counts, 5, impl.WaysMax, "6x0"}, {counts, 5, 5, "-"}, {counts, 6, impl.WaysMax, "-"}, {"let p = spawn (fun x -> out (recv + 1)) in send p 41", 42, impl.WaysMax, "0 0 0 1 1"}, {"let p = spawn (fun x -> out (recv + 1)) in send p 41", 42, 4, "0 0 1 1"}, {"let p = spawn (fun x -> out (recv + 1)) in send p 41", 42, 3, "-"}, {"let p = spawn (fun x -> out x) in recv", 0, impl.WaysMax, "0 0 1"},
		{large, 1<<31 - 1, 1, "0"}, {large, -1 << 31, 2, "0 0"}, {large, 1 << 31, impl.WaysMax, "-"}, {large, -1<<31 - 1, impl.WaysMax, "-"}, {large, 1<<32 - 1, impl.WaysMax, "-"}, {"out 0", 1 << 32, impl.WaysMax, "-"}, {"out 0", -1 << 63, impl.WaysMax, "-"}, {"out 0", 1<<63 - 1, impl.WaysMax, "-"}, {"let a = 1 / 0 in out 7", 7, impl.WaysMax, "-"},
	} {
		list, ok := asksTold(t, mustType(t, row.text), row.num, row.picks)
		want := row.want
		if want != "-" {
			want = picksTold(eventsOf(want), true)
		}
		if picksTold(list, ok) != want {
			t.Errorf("%s, %d in %d picks: %s, want %s", row.text, row.num, row.picks, picksTold(list, ok), want)
		}
	}
}

// As many processes as can be, each of which makes others, and as many picks.
func TestFindOfMany(t *testing.T) {
	all := mustType(t, "rec f n = let p = spawn f in let q = spawn f in f (n + 1) in f 0")
	many := mustType(t, "rec f n = let p = spawn f in recv in f 0")
	for picks := range impl.WaysMax + 1 {
		if list, ok := asksDead(t, all, picks); ok || len(list) > 0 {
			t.Errorf("%d picks: %v", picks, list)
		}
		if list, ok := asksTold(t, all, 1, picks); ok || len(list) > 0 {
			t.Errorf("%d picks: %v", picks, list)
		}
		if list, ok := asksDead(t, many, picks); ok || len(list) > 0 {
			t.Errorf("%d picks: %v", picks, list)
		}
	}
}

// Picks out of bounds, and expressions that are not ok, have free names, or no type.
func TestFindWrong(t *testing.T) {
	waits, tells := mustType(t, "recv"), mustType(t, "out 5")
	for _, picks := range []int{-1, impl.WaysMax + 1, impl.EventMax, 1 << 40, 1<<63 - 1, -1 << 63} {
		dead, isDead := impl.FindDead(waits, picks)
		told, isTold := impl.FindTold(tells, 5, picks)
		if isDead || len(dead) > 0 || isTold || len(told) > 0 {
			t.Errorf("%d picks: %v %v", picks, dead, told)
		}
	}
	list := wrongExprs()
	for _, s := range append(withoutType(), "x", "let p = spawn (fun x -> y) in recv", "(recv, z)", "out x") {
		list = append(list, mustRead(t, s))
	}
	for i, e := range list {
		for _, picks := range []int{0, 1, impl.WaysMax, -1} {
			dead, isDead := impl.FindDead(e, picks)
			told, isTold := impl.FindTold(e, 0, picks)
			if isDead || len(dead) > 0 || isTold || len(told) > 0 {
				t.Errorf("wrong expression %d, %d picks: %v %v", i, picks, dead, told)
			}
		}
		if types := impl.FindTypes(e); len(types) > 0 || impl.FindIs(e, nil) || impl.FindIs(e, eventsOf("0 0 0")) || impl.FindIs(e, eventsOf("k0")) {
			t.Errorf("wrong expression %d: %q", i, types)
		}
	}
}

// asksTypesIn asks FindTypes against types that were guessed; what it tells is told.
func asksTypesIn(t *testing.T, e impl.Expr) []string {
	t.Helper()
	types := impl.FindTypes(e)
	if want := typesSeen(e); !slices.Equal(types, want) {
		t.Fatalf("%s: %q, want %q", impl.ExprPut(e), types, want)
	}
	return types
}

// Each kind: parts where a name is bound, and where none is; and parts of types that are more general than in the whole.
func TestFindTypesTable(t *testing.T) {
	for _, row := range [][]string{
		{"7", "int"}, {"true", "bool"}, {"nil", "a list"}, {"self", "pid"}, {"recv", "a"}, {"fun x -> x", "a -> a"}, {"fun x -> (1, true)", "a -> int * bool"}, {"(fun x -> x) 1", "int", "a -> a", "int"}, {"(1, true)", "int * bool", "int", "bool"},
		{"let x = (1, true) in (x, 2)", "(int * bool) * int", "int * bool", "int", "bool"}, {"let x = 1 in true", "bool", "int"}, {"let x = fun y -> y in x 1", "int", "a -> a"}, {"rec f x = (1, x) in (2, true)", "int * bool"}, {"rec f x = x in f", "a -> a"},
		{"case 1 :: nil of nil -> (2, true) | h :: t -> (h, true)", "int * bool", "int list", "int", "a list", "int * bool", "int", "bool"}, {"case nil of nil -> 1 | h :: t -> h", "int", "a list", "int"}, {"case nil of nil -> nil | h :: t -> h", "a list", "a list", "a list"},
		{"if 1 < 2 then nil else 3 :: nil", "int list", "bool", "int", "int", "a list", "int list", "int", "a list"}, {"fst (1, nil)", "int", "int * a list", "int", "a list"}, {"snd (1, nil)", "a list", "int * a list", "int", "a list"}, {"nil :: (1 :: nil) :: nil", "int list list", "a list", "int list list", "int list", "int", "a list", "a list"},
		{"recv + 1", "int", "a", "int"}, {"(recv, send self 1)", "int * int", "a", "int", "pid", "int"}, {"send recv self", "int", "a", "pid"}, {"send self (fun x -> x)", "int", "pid", "a -> a"}, {"link (spawn (fun x -> x))", "int", "pid", "a -> a"}, {"out (out 1)", "int", "int", "int"},
		{"(fun x -> x + 1) (recv)", "int", "int -> int", "a"}, {"(fun f -> f 1) (fun x -> x)", "int", "(int -> a) -> a", "a -> a"},
		{"(fun x -> fun y -> x) 1 nil", "int", "a -> int", "a -> b -> a", "int", "a list"}, {"1 - 2 * 3", "int", "int", "int", "int", "int"}, {"let a = let b = (1, nil) in b in a", "int * a list", "int * a list", "int * a list", "int", "a list"}, {"let a = fun x -> (1, x) in a", "a -> int * a", "a -> int * a"},
	} {
		if types := asksTypesIn(t, mustType(t, row[0])); !slices.Equal(types, row[1:]) {
			t.Errorf("%s: %q, want %q", row[0], types, row[1:])
		}
	}
}

// A part whose own type has more parts, or letters, than a type may have, has none; what stands in it is not looked at.
func TestFindTypesOfLarge(t *testing.T) {
	nils := func(count int) impl.Expr {
		e := expr(impl.ExprNil)
		for range count - 1 {
			e = expr(impl.ExprPair, expr(impl.ExprNil), e)
		}
		return e
	}
	half := func(more int) impl.Expr { return expr(impl.ExprPair, nils(11), nils(10+more)) }
	most, over := expr(impl.ExprFst, expr(impl.ExprPair, number(1), half(0))), expr(impl.ExprFst, expr(impl.ExprPair, number(1), half(1)))
	if types := asksTypesIn(t, most); len(types) != partsOf(most) || types[0] != "int" || partsIn(typeTree(types[1])) != impl.TypeMax {
		t.Errorf("%d: %q", len(types), types)
	}
	if types := asksTypesIn(t, over); !slices.Equal(types, []string{"int"}) {
		t.Errorf("%q", types)
	}
}

// P79: parts where no name is bound have types of their own, against types that were guessed; and what is made of parts has those of its parts.
func TestFindTypesPromise(t *testing.T) {
	several, general := 0, 0
	for _, e := range slices.Concat(withTypes(2001, 1200), plots(2002, 300)) {
		types := asksTypesIn(t, e)
		own, _, _ := impl.TypeOf(e)
		parts := []string{own}
		for i, kid := range e.Kids {
			if len(bindsIn(e, i)) == 0 {
				parts = append(parts, impl.FindTypes(kid)...)
			}
		}
		if !slices.Equal(types, parts) {
			t.Fatalf("%s: %q, of its parts %q", impl.ExprPut(e), types, parts)
		}
		if len(types) > 5 {
			several++
		}
		if e.Kind == impl.ExprApp && len(types) > 1 && !noLetters(types[1]) && noLetters(own) {
			general++
		}
	}
	if several < 200 || general < 20 {
		t.Errorf("%d have more than five, %d apply what is more general", several, general)
	}
}

// somePlots are expressions in which processes wait, tell numbers, and end, soon enough for so few picks.
func somePlots(seed int64, count int) []impl.Expr {
	r := rand.New(rand.NewSource(seed))
	one := func(list ...string) string { return list[r.Intn(len(list))] }
	deed := func() string {
		return one("recv", "recv", "out 1", "out 2", "out 1 + out 3", "send s 4", "link s", "1 / 0", "0", "out recv")
	}
	var list []impl.Expr
	for len(list) < count {
		text := one("let s = self in let p = spawn (fun x -> "+deed()+") in ", "let s = self in let p = s in ")
		if r.Intn(4) == 0 {
			text += "let q = spawn (fun x -> " + one(deed(), "send p 6", "link p") + ") in "
		}
		text += one("", "", "let b = "+deed()+" in ", "let b = send p 7 in ", "let b = link p in ") + one(deed(), deed(), "recv", "send p 8", "link p")
		if e, ok := impl.ExprGet(text); ok {
			list = append(list, e)
		}
	}
	return append(list, plots(seed+1, count/4)...)
}

// picked are some picks of processes that can, so many, or fewer, if none can then.
func picked(r *rand.Rand, e impl.Expr, picks int) []impl.Event {
	var list []impl.Event
	for len(list) < picks {
		can := abler(e, list)
		if len(can) == 0 {
			break
		}
		list = append(list, impl.Event{Kind: impl.EventRun, Proc: can[r.Intn(len(can))]})
	}
	return list
}

// P75, P76: a process waits without an end behind picks that are found, and with more of them, too; where none are found it does not, whatever is picked. Against all ways of players.
func TestFindDeadPromise(t *testing.T) {
	r := rand.New(rand.NewSource(2003))
	count := map[bool]int{}
	for i, e := range somePlots(2004, 400) {
		before := false
		for picks := range impl.WaysMax + 1 {
			list, ok := impl.FindDead(e, picks)
			if i%4 == 0 {
				asksDead(t, e, picks)
			}
			if ok != impl.FindIs(e, list) || len(list) > picks || before && !ok || !ok && len(list) > 0 {
				t.Fatalf("%s, %d picks: %s, ahead %v", impl.ExprPut(e), picks, picksTold(list, ok), before)
			}
			before = ok
			count[ok]++
			for range 2 {
				if way := picked(r, e, picks); !ok && impl.FindIs(e, way) {
					t.Fatalf("%s, %d picks: none, but behind %v", impl.ExprPut(e), picks, way)
				}
			}
			for at := range list {
				if !slices.Contains(abler(e, list[:at]), list[at].Proc) || impl.FindIs(e, list[:at]) {
					t.Fatalf("%s: %v", impl.ExprPut(e), list)
				}
			}
		}
	}
	if count[true] < 300 || count[false] < 300 {
		t.Errorf("%d were found, %d were not", count[true], count[false])
	}
}

// P77: where a process waits without an end nothing is done any more.
func TestFindIsPromise(t *testing.T) {
	count := map[bool]int{}
	asks := func(e impl.Expr, list []impl.Event) {
		list = list[:min(len(list), impl.EventMax-2*impl.ProcMax)]
		is := asksIs(t, e, list)
		count[is]++
		answer := impl.RunMean(e, list)
		if is != (impl.WaysStill(e, list) && slices.Contains(answer.Ends, impl.EndNot)) {
			t.Fatalf("%s, behind %v: %v", impl.ExprPut(e), list, is)
		}
		for rounds := 1; is && rounds <= 2; rounds++ {
			more := slices.Concat(list, impl.RunTurns(rounds))
			if !sameAnswer(answer, impl.RunMean(e, more)) || !impl.FindIs(e, more) || countOf(impl.WaysTrace(e, more)[len(list):], -1) != rounds*impl.ProcMax {
				t.Fatalf("%s, behind %v: something is done", impl.ExprPut(e), list)
			}
		}
	}
	runs(2005, 500, asks)
	r := rand.New(rand.NewSource(2006))
	for _, e := range somePlots(2007, 300) {
		asks(e, picked(r, e, r.Intn(9)))
		asks(e, somePicks(r))
	}
	if count[true] < 300 || count[false] < 300 {
		t.Errorf("one waits %d times, %d times not", count[true], count[false])
	}
}

// P78: a number is told last behind picks that are found, and not ahead of the last of them; where none are found it is not, whatever is picked. Against all ways of players.
func TestFindToldPromise(t *testing.T) {
	r := rand.New(rand.NewSource(2008))
	count := map[bool]int{}
	for i, e := range somePlots(2009, 400) {
		for range 4 {
			picks, num := max(r.Intn(impl.WaysMax+1), r.Intn(impl.WaysMax+1)), []int{0, 1, 1, 1, 2, 2, 3, 4, 7}[r.Intn(9)]
			list, ok := impl.FindTold(e, num, picks)
			if i%4 == 0 {
				asksTold(t, e, num, picks)
			}
			count[ok]++
			if len(list) > picks || ok == (len(list) == 0) {
				t.Fatalf("%s, %d in %d picks: %s", impl.ExprPut(e), num, picks, picksTold(list, ok))
			}
			for at := range len(list) + 1 {
				if isToldSeen(impl.RunMean(e, list[:at]), num) != (ok && at == len(list)) {
					t.Fatalf("%s, %d: %v, but behind %d of these", impl.ExprPut(e), num, list, at)
				}
			}
			for at := range list {
				if !slices.Contains(abler(e, list[:at]), list[at].Proc) {
					t.Fatalf("%s: %v", impl.ExprPut(e), list)
				}
			}
			if way := picked(r, e, picks); !ok && isToldSeen(impl.RunMean(e, way), num) {
				t.Fatalf("%s, %d in %d picks: none, but behind %v", impl.ExprPut(e), num, picks, way)
			}
		}
	}
	if count[true] < 100 || count[false] < 300 {
		t.Errorf("%d were found, %d were not", count[true], count[false])
	}
}

// bothWays are two picks behind others, in either order, if each of them wants nothing of others, or one tells something outside; and how many of them tell.
func bothWays(e impl.Expr, list []impl.Event, p int, q int) ([2][]impl.Event, int, bool) {
	way := func(first int, second int) []impl.Event {
		return append(slices.Clone(list), impl.Event{Kind: impl.EventRun, Proc: first}, impl.Event{Kind: impl.EventRun, Proc: second})
	}
	ways := [2][]impl.Event{way(p, q), way(q, p)}
	outs := 0
	for _, want := range impl.WaysTrace(e, ways[0])[len(list):] {
		switch want {
		case impl.ExprOut:
			outs++
		case -1, impl.WantMore:
		default:
			return ways, 0, false
		}
	}
	return ways, outs, true
}

// P80: such picks lead to the same in either order, and to what is the same later; two that both tell something outside do not.
func TestFindEitherOrder(t *testing.T) {
	r := rand.New(rand.NewSource(2010))
	wants, others := map[string]int{}, 0
	goes := "rec f n = if n < 1 then 0 else f (n - 1) in let p = spawn (fun x -> let a = f 90 in out 3) in let q = spawn (fun x -> let a = out 1 in let b = f 45 in out 2) in let a = f 50 in let b = out 4 in recv"
	list := slices.Concat(somePlots(2011, 300), plots(2012, 300))
	for range 100 {
		list = append(list, mustType(t, goes))
	}
	for _, e := range list {
		for range 6 {
			var ahead []impl.Event
			for range r.Intn(12) {
				ahead = append(ahead, impl.Event{Kind: impl.EventRun, Proc: r.Intn(3)})
			}
			p, q := r.Intn(4), r.Intn(4)
			if p == q {
				continue
			}
			ways, outs, may := bothWays(e, ahead, p, q)
			if !may {
				continue
			}
			a, b := impl.RunMean(e, ways[0]), impl.RunMean(e, ways[1])
			trace := impl.WaysTrace(e, ways[0])[len(ahead):]
			wants[strconv.Itoa(min(trace[0], trace[1]))+" "+strconv.Itoa(max(trace[0], trace[1]))]++
			if outs == 2 {
				if a.Outs[len(a.Outs)-1] == b.Outs[len(b.Outs)-1] || !slices.Equal(a.Ends, b.Ends) || !slices.Equal(a.Boxes, b.Boxes) {
					t.Fatalf("%s, behind %v: %s, %s", impl.ExprPut(e), ways, answerTold(a), answerTold(b))
				}
				others++
				continue
			}
			later := impl.RunTurns(2)
			if !sameAnswer(a, b) || !sameAnswer(impl.RunMean(e, slices.Concat(ways[0], later)), impl.RunMean(e, slices.Concat(ways[1], later))) {
				t.Fatalf("%s, behind %v: %s, %s", impl.ExprPut(e), ways, answerTold(a), answerTold(b))
			}
		}
	}
	for _, both := range []string{"-1 -1", "-1 0", "-1 20", "0 0", "0 20", "20 20"} {
		if wants[both] < 10 {
			t.Errorf("%s: %d times", both, wants[both])
		}
	}
	if others < 10 || len(wants) != 6 {
		t.Errorf("%d tell both, %v", others, wants)
	}
}

// Nothing is written into what is given, nor behind it, and nothing of an answer is shared or kept.
func TestFindKeepsArguments(t *testing.T) {
	r := rand.New(rand.NewSource(2013))
	found := 0
	for _, e := range somePlots(2014, 100) {
		spare := withSpare(e)
		list := somePicks(r)
		mark := impl.Event{Kind: 9, Proc: 9}
		events := append(append(make([]impl.Event, 0, len(list)+3), list...), mark)[:len(list)]
		dead, isDead := impl.FindDead(spare, impl.WaysMax)
		told, isTold := impl.FindTold(spare, 1, impl.WaysMax)
		types, is := impl.FindTypes(spare), impl.FindIs(spare, events)
		if !sameExpr(spare, e) || !spareKept(spare) || !slices.Equal(events, list) || events[:len(list)+1][len(list)] != mark {
			t.Fatalf("%s was written into", impl.ExprPut(e))
		}
		if isDead || isTold {
			found++
		}
		texts := []string{picksTold(dead, isDead), picksTold(told, isTold), strings.Join(types, ";")}
		clear(dead[:cap(dead)])
		clear(told[:cap(told)])
		clear(types[:cap(types)])
		again := []string{picksTold(impl.FindDead(e, impl.WaysMax)), picksTold(impl.FindTold(e, 1, impl.WaysMax)), strings.Join(impl.FindTypes(e), ";")}
		if !slices.Equal(texts, again) || impl.FindIs(e, list) != is {
			t.Fatalf("%s: %q, then %q", impl.ExprPut(e), texts, again)
		}
	}
	if found < 10 {
		t.Errorf("%d were found", found)
	}
}
