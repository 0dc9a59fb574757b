package tests

import (
	"math/rand"
	"slices"
	"strconv"
	"strings"
	"testing"

	"loop.example/ensemble/impl"
)

// mustCode is the code of ops with `;` between, that is ok.
func mustCode(t *testing.T, text string) []impl.Op {
	t.Helper()
	list := opsOf(text)
	if !impl.CodeOk(list) {
		t.Fatalf("%s: not ok", text)
	}
	return list
}

// asksLive asks SlimLive against ways gone one by one, and that it begins with the first op, and has all to which its ops lead.
func asksLive(t *testing.T, list []impl.Op) []int {
	t.Helper()
	live := impl.SlimLive(list)
	if !slices.Equal(live, liveSeen(list)) {
		t.Fatalf("%q: %v, want %v", codeLines(list), live, liveSeen(list))
	}
	if live[0] != 0 || !slices.IsSorted(live) || len(slices.Compact(slices.Clone(live))) != len(live) {
		t.Fatalf("%q: %v", codeLines(list), live)
	}
	for _, place := range live {
		op := list[place]
		if goesOn(op.Kind) && !slices.Contains(live, place+1) || hasGoal(op.Kind) && !slices.Contains(live, op.Num) {
			t.Fatalf("%q: %v has not all to which %d leads", codeLines(list), live, place)
		}
	}
	return live
}

// asksSlim asks SlimOf of code that is ok: it is code, no longer, all of it is needed, it is its own slim code, and that which the words of chapter 17 make.
// Where these make code that they make another one once more, which only CodeGo in rings can be, nothing goes round but in one place.
func asksSlim(t *testing.T, list []impl.Op) []impl.Op {
	t.Helper()
	slim, words := impl.SlimOf(list), slimWords(list)
	if !impl.CodeOk(slim) || len(slim) > len(list) || len(asksLive(t, slim)) != len(slim) || !slices.Equal(impl.SlimOf(slim), slim) {
		t.Fatalf("%q: %q", codeLines(list), codeLines(slim))
	}
	if slices.Equal(slimWords(words), words) {
		if !slices.Equal(slim, words) {
			t.Fatalf("%q: %q, want %q", codeLines(list), codeLines(slim), codeLines(words))
		}
		return slim
	}
	if !goesRound(list) || goesRound(slim) || len(slim) > len(words) {
		t.Fatalf("%q: %q", codeLines(list), codeLines(slim))
	}
	return slim
}

// asksRun asks SlimRun of code that is ok against ops that are done one by one.
func asksRun(t *testing.T, list []impl.Op, most int) (string, int, int) {
	t.Helper()
	text, want, ops := impl.SlimRun(list, most)
	if s, w, n := slimToiled(list, most); text != s || want != w || ops != n {
		t.Fatalf("%q, %d ops at most: %q %d %d, want %q %d %d", codeLines(list), most, text, want, ops, s, w, n)
	}
	return text, want, ops
}

func TestSlimLiveTable(t *testing.T) {
	for _, row := range []struct {
		text string
		want []int
	}{
		{"nil; give", []int{0, 1}}, {"go 0", []int{0}}, {"go 1; go 0", []int{0, 1}}, {"go 1; nil; give", []int{0, 1, 2}}, {"go 2; nil; nil; give", []int{0, 2, 3}}, {"go 3; fst; go 1; nil; give", []int{0, 3, 4}},
		{"nil; give; nil; give", []int{0, 1}}, {"nil; give; go 0", []int{0, 1}}, {"go 2; give; nil; go 1", []int{0, 1, 2, 3}}, {"go 0; nil; give", []int{0}},
		{"bool 0; if 4; nil; give; nil; give; nil", []int{0, 1, 2, 3, 4, 5}}, {"bool 0; if 2; nil; give", []int{0, 1, 2, 3}}, {"nil; case 5; var 0; give; nil; nil; give", []int{0, 1, 2, 3, 5, 6}},
		{"fun 3; give; nil; var 0; give", []int{0, 1, 3, 4}}, {"rec 3; give; nil; var 1; give", []int{0, 1, 3, 4}}, {"nil; give; fun 4; give; var 0; give", []int{0, 1}}, {"fun 4; give; fun 6; give; fun 7; give; nil; nil; give", []int{0, 1, 4, 5, 7, 8}},
		{"nil; bool 1; if 5; give; if 3; give", []int{0, 1, 2, 3, 5}}, {"nil; bind; drop 1; nil; give; give", []int{0, 1, 2, 3, 4}}, {"nil; if 0; go 0; go 3", []int{0, 1, 2}},
	} {
		if got := asksLive(t, mustCode(t, row.text)); !slices.Equal(got, row.want) {
			t.Errorf("%s: %v, want %v", row.text, got, row.want)
		}
	}
}

// asksSlims asks what slim code of texts is.
func asksSlims(t *testing.T, rows [][2]string) {
	t.Helper()
	for _, row := range rows {
		if got := asksSlim(t, mustCode(t, row[0])); !slices.Equal(got, opsOf(row[1])) {
			t.Errorf("%s: %q, want %s", row[0], codeLines(got), row[1])
		}
	}
}

// CodeGo that goes, and that stays, and ops to which nothing leads at the front of others, between them and behind them.
func TestSlimOfTable(t *testing.T) {
	asksSlims(t, [][2]string{
		{"nil; give", "nil; give"}, {"go 1; nil; give", "nil; give"}, {"nil; go 2; give", "nil; give"}, {"go 1; go 2; go 3; nil; give", "nil; give"}, {"go 4; nil; give; nil; go 1", "nil; give"}, {"nil; go 3; give; go 5; give; go 2", "nil; give"},
		{"go 2; nil; nil; give", "nil; give"}, {"go 3; fst; snd; nil; give; link", "nil; give"}, {"nil; go 3; fst; give", "nil; give"}, {"nil; give; fst; go 2; call", "nil; give"}, {"nil; give; fun 3; give", "nil; give"}, {"nil; give; if 5; fst; give; case 2", "nil; give"},
		{"go 3; give; go 1; nil; go 2", "go 2; give; nil; go 1"}, {"go 2; give; nil; go 1", "go 2; give; nil; go 1"}, {"go 5; give; fst; go 1; go 3; nil; go 4", "go 2; give; nil; go 1"},
		{"go 0", "go 0"}, {"nil; go 1", "nil; go 1"}, {"go 2; nil; go 2", "go 0"}, {"nil; bind; drop 1; go 0", "nil; bind; drop 1; go 0"}, {"nil; bind; drop 1; go 4; go 0", "nil; bind; drop 1; go 0"}, {"nil; go 2; bind; go 4; drop 1; go 6; go 0", "nil; bind; drop 1; go 0"},
	})
}

// Each place leads past CodeGo, and ops that two ways share are shared still.
func TestSlimOfPlaces(t *testing.T) {
	asksSlims(t, [][2]string{
		{"bool 1; if 4; nil; go 5; nil; give", "bool 1; if 4; nil; go 5; nil; give"}, {"bool 1; if 4; nil; go 6; go 5; nil; give", "bool 1; if 4; nil; go 5; nil; give"}, {"bool 1; if 4; nil; go 6; nil; go 6; give", "bool 1; if 4; nil; go 5; nil; give"},
		{"bool 1; if 2; go 3; nil; give", "bool 1; if 2; nil; give"}, {"bool 1; if 3; go 3; nil; give", "bool 1; if 2; nil; give"}, {"bool 1; if 3; go 4; go 4; nil; give", "bool 1; if 2; nil; give"}, {"nil; go 2; if 0; go 0", "nil; if 0; go 0"},
		{"bool 1; if 4; nil; give; go 6; fst; num 1; give", "bool 1; if 4; nil; give; num 1; give"}, {"nil; case 4; var 0; give; go 6; fst; num 1; give", "nil; case 4; var 0; give; num 1; give"},
		{"fun 2; give; go 4; fst; var 0; give", "fun 2; give; var 0; give"}, {"rec 2; give; go 4; fst; var 1; give", "rec 2; give; var 1; give"}, {"fun 4; fun 5; pair; give; go 5; var 0; give", "fun 4; fun 4; pair; give; var 0; give"},
		{"fun 4; rec 6; pair; give; nil; give; go 8; fst; var 1; give", "fun 4; rec 6; pair; give; nil; give; var 1; give"}, {"go 3; nil; give; fun 5; give; fun 8; give; fst; go 10; give; var 1; go 9", "fun 2; give; fun 5; give; give; var 1; go 4"},
	})
}

// CodeGo that goes round; that becomes shorter at the second and at the third time, too.
func TestSlimOfRings(t *testing.T) {
	asksSlims(t, [][2]string{
		{"go 1; go 0", "go 0"}, {"go 1; go 1", "go 0"}, {"go 2; nil; go 0", "go 0"}, {"nil; go 2; go 1", "nil; go 1"}, {"nil; go 3; give; go 1; fst", "nil; go 1"}, {"go 1; go 2; go 0", "go 0"}, {"nil; go 3; go 1; go 2", "nil; go 1"},
		{"bool 1; if 3; go 5; nil; give; go 2", "bool 1; if 3; go 5; nil; give; go 2"}, {"bool 1; if 3; go 5; nil; give; go 2; fst", "bool 1; if 3; go 2; nil; give"},
		{"nil; go 3; go 3; go 2", "nil; go 1"}, {"go 2; go 4; bool 0; go 1; go 1; give", "bool 0; go 1"}, {"bool 0; if 4; go 4; go 2; go 3; go 2", "bool 0; if 2; go 2"}, {"go 1; go 2; go 3; go 5; go 1; go 4", "go 0"},
		// the next of the others, not the next one
		{"go 2; go 4; go 5; go 5; go 2; go 4", "go 2; go 0; go 1"}, {"go 2; go 0; go 1", "go 2; go 0; go 1"},
		// what comes to another one each time
		{"nil; go 2; go 3; go 1", "nil; go 1"}, {"go 1; go 2; go 3; go 1", "go 0"}, {"bool 0; if 2; go 3; go 4; go 5; go 2", "bool 0; if 3; go 2; go 3"},
	})
}

// As many ops as may be.
func TestSlimOfSizes(t *testing.T) {
	size := impl.CodeMax
	var on, back, round, idle []impl.Op
	for i := range size {
		on = append(on, impl.Op{Kind: impl.CodeGo, Num: i + 1})
		back = append(back, impl.Op{Kind: impl.CodeGo, Num: max(i-1, 1)})
		round = append(round, impl.Op{Kind: impl.CodeGo, Num: (i + 1) % size})
		idle = append(idle, impl.Op{Kind: impl.CodeSnd})
	}
	end := opsOf("nil; give")
	copy(on[size-2:], end)
	back[0].Num, back[3].Num = size-1, 1
	copy(back[1:], end)
	copy(idle, end)
	for _, list := range [][]impl.Op{on, back, idle} {
		if got := asksSlim(t, list); !slices.Equal(got, end) {
			t.Errorf("%q", codeLines(got))
		}
		asksRun(t, list, impl.SlimMax)
	}
	if got := asksSlim(t, round); !slices.Equal(got, opsOf("go 0")) {
		t.Errorf("%q", codeLines(got))
	}
	for _, n := range []int{2, 3, 5, 60, size - 1, size} {
		if got := asksSlim(t, many(n)); !slices.Equal(got, many(n)) {
			t.Errorf("%q", codeLines(got))
		}
	}
}

// P61 and P65, of all code that is so short, has such ops, and is ok.
func TestSlimOfAll(t *testing.T) {
	fit, shorter, rings := 0, 0, 0
	for size := 1; size <= 4; size++ {
		kinds := opsOf("bool 0; give; bind; drop 1")
		for i := range size {
			kinds = append(kinds, impl.Op{Kind: impl.CodeGo, Num: i}, impl.Op{Kind: impl.CodeIf, Num: i}, impl.Op{Kind: impl.CodeFun, Num: i})
		}
		list := make([]impl.Op, size)
		var from func(at int)
		from = func(at int) {
			if at < size {
				for _, op := range kinds {
					list[at] = op
					from(at + 1)
				}
				return
			}
			if !codeFits(list) {
				return
			}
			fit++
			asksLive(t, list)
			if len(asksSlim(t, list)) < len(list) {
				shorter++
			}
			if goesRound(list) {
				rings++
			}
		}
		from(0)
	}
	if fit < 5000 || shorter < 2000 || rings < 100 {
		t.Errorf("%d are ok, %d become shorter, %d go round", fit, shorter, rings)
	}
}

// codes are code of expressions, be they of a type or not, some with other ops, some that go by CodeGo more often; all of it is ok.
func codes(seed int64, count int) [][]impl.Op {
	r := rand.New(rand.NewSource(seed))
	var list [][]impl.Op
	for _, e := range slices.Concat(withTypes(seed+1, count), someClosed(seed+2, 4*count)) {
		if len(impl.NameFree(e)) > 0 {
			continue
		}
		code := opsOf(strings.ReplaceAll(strings.TrimSpace(codeLabelled(e)), "\n", ";"))
		tries := [][]impl.Op{code, stretched(r, code, 1+r.Intn(8))}
		for range 4 {
			tries = append(tries, changedCode(r, code))
		}
		for _, one := range tries {
			if codeFits(one) {
				list = append(list, one)
			}
		}
	}
	return list
}

// P61 and P65, of code that some expressions have, and that near to it.
func TestSlimOfPromise(t *testing.T) {
	shorter := 0
	for _, list := range codes(1701, 800) {
		asksLive(t, list)
		if len(asksSlim(t, list)) < len(list) {
			shorter++
		}
	}
	if shorter < 2000 {
		t.Errorf("%d become shorter", shorter)
	}
}

// Code that goes by CodeGo more often, and has ops to which nothing leads, is no other when it is slim.
func TestSlimOfStretched(t *testing.T) {
	r := rand.New(rand.NewSource(1704))
	longer := 0
	for _, e := range withTypes(1705, 800) {
		list, _ := impl.CodeOf(e)
		long := stretched(r, list, 1+r.Intn(12))
		if !codeFits(long) {
			continue
		}
		if got := asksSlim(t, long); !slices.Equal(got, asksSlim(t, list)) {
			t.Fatalf("%q: %q", codeLines(long), codeLines(got))
		}
		if len(long) > len(list) {
			longer++
		}
	}
	if longer < 1000 {
		t.Errorf("%d are longer", longer)
	}
}

// slimRow is code, the text and what it comes to, and in how many ops.
type slimRow struct {
	text  string
	value string
	want  int
	ops   int
}

// asksSlimRuns asks SlimRun of each with SlimMax, with just as many ops as it takes, and one more, and with fewer: then it is not done.
func asksSlimRuns(t *testing.T, rows []slimRow) {
	t.Helper()
	for _, row := range rows {
		list := mustCode(t, row.text)
		for _, most := range []int{row.ops, row.ops + 1, impl.SlimMax} {
			if text, want, ops := asksRun(t, list, most); text != row.value || want != row.want || ops != row.ops {
				t.Errorf("%s, %d ops at most: %q %d %d, want %q %d %d", row.text, most, text, want, ops, row.value, row.want, row.ops)
			}
		}
		for most := range row.ops {
			if text, want, ops := asksRun(t, list, most); text != "" || want != impl.WantMore || ops != most {
				t.Errorf("%s, %d ops at most: %q %d %d", row.text, most, text, want, ops)
			}
		}
	}
}

func TestSlimRunTable(t *testing.T) {
	done := impl.WantDone
	asksSlimRuns(t, []slimRow{
		{"num 7; give", "7", done, 2}, {"bool 1; give", "true", done, 2}, {"bool 0; give", "false", done, 2}, {"nil; give", "nil", done, 2}, {"self; give", "pid 0", done, 2}, {"fun 2; give; var 0; give", "fun", done, 2}, {"rec 2; give; var 0; give", "fun", done, 2},
		{"num 1; num 2; op 1; give", "3", done, 4}, {"num 1; num 2; op 2; give", "-1", done, 4}, {"num 7; num 2; op 4; give", "3", done, 4}, {"num 1; num 2; op 5; give", "true", done, 4}, {"num 999999; num 999999; op 3; give", "-729379967", done, 4},
		{"num 1; num 2; pair; give", "(1, 2)", done, 4}, {"num 1; num 2; pair; fst; give", "1", done, 5}, {"num 1; num 2; pair; snd; give", "2", done, 5}, {"num 1; nil; cons; give", "1 :: nil", done, 4}, {"nil; nil; cons; nil; cons; give", "(nil :: nil) :: nil", done, 6},
		{"num 5; bind; var 0; drop 1; give", "5", done, 5}, {"num 5; bind; num 6; bind; var 1; drop 2; give", "5", done, 7}, {"bool 0; if 4; num 1; give; num 2; give", "2", done, 4}, {"bool 1; if 4; num 1; give; num 2; give", "1", done, 4},
		{"nil; case 4; var 0; give; num 2; give", "2", done, 4}, {"num 1; nil; cons; case 6; var 1; give; num 2; give", "1", done, 6}, {"num 1; nil; cons; case 6; var 0; give; num 2; give", "nil", done, 6},
		{"fun 4; num 1; call; give; var 0; give", "1", done, 6}, {"rec 4; num 1; call; give; var 0; give", "1", done, 6}, {"rec 4; num 1; call; give; var 1; give", "fun", done, 6}, {"num 5; bind; fun 6; num 1; call; give; var 1; give", "5", done, 8},
		{"num 3; out; give", "0", done, 3}, {"num 3; out; num 4; out; op 1; give", "0", done, 6}, {"go 1; go 2; nil; give", "nil", done, 4}, {"go 2; give; nil; go 1", "nil", done, 4},
		{"num 1; num 0; op 4; give", "", impl.WantDiv, 3}, {"num 0; num 0; op 4; give", "", impl.WantDiv, 3}, {"fun 4; num 0; call; give; num 1; var 0; op 4; give", "", impl.WantDiv, 6},
		{"num 1; spawn; give", "", impl.ExprSpawn, 2}, {"fun 3; spawn; give; var 0; give", "", impl.ExprSpawn, 2}, {"self; num 2; send; give", "", impl.ExprSend, 3}, {"nil; nil; send; give", "", impl.ExprSend, 3}, {"recv; give", "", impl.ExprRecv, 1}, {"self; link; give", "", impl.ExprLink, 2}, {"num 1; out; bind; recv; give", "", impl.ExprRecv, 4},
	})
}

// Each op that takes values of a kind, with a value of each: of another kind than it takes it is stuck, at just that op.
func TestSlimRunStuck(t *testing.T) {
	values := map[string]string{"int": "num 2", "bool": "bool 1", "pid": "self", "nil": "nil", "list": "num 1; nil; cons", "pair": "num 1; num 2; pair", "fun": "fun END", "rec": "rec END"}
	rows := [][4]string{
		{"", "; num 2; call", "; give", "fun rec"}, {"", "; fst", "; give", "pair"}, {"", "; snd", "; give", "pair"}, {"", "; case OTHER", "; nil; give", "nil list"}, {"", "; if OTHER", "; nil; give", "bool"},
	}
	for op := impl.OpAdd; op <= impl.OpSame; op++ {
		n := "; op " + strconv.Itoa(op)
		rows = append(rows, [4]string{"", "; num 3" + n, "; give", "int"}, [4]string{"num 3; ", n, "; give", "int"})
	}
	for _, row := range rows {
		for sign, value := range values {
			upTo := row[0] + value + row[1]
			ops := strings.Count(upTo, ";") + 1
			text := upTo + row[2]
			other := strings.Count(text, ";") + 1
			text = strings.ReplaceAll(text+"; nil; give; var 0; give", "OTHER", strconv.Itoa(other))
			list := mustCode(t, strings.ReplaceAll(text, "END", strconv.Itoa(other+2)))
			s, want, n := asksRun(t, list, impl.SlimMax)
			if slices.Contains(strings.Fields(row[3]), sign) {
				if want != impl.WantDone || s == "" || n <= ops {
					t.Errorf("%s: %q %d %d", text, s, want, n)
				}
				continue
			}
			if s != "" || want != impl.WantStuck || n != ops {
				t.Errorf("%s: %q %d %d, want it stuck at %d", text, s, want, n, ops)
			}
			if _, want, n := asksRun(t, list, ops-1); want != impl.WantMore || n != ops-1 {
				t.Errorf("%s: %d %d", text, want, n)
			}
		}
	}
}

// What goes wrong in other ways than one that the document lists does not: a list may be made of what is none, and told, taken apart and cleaned.
func TestSlimRunOdd(t *testing.T) {
	done := impl.WantDone
	asksSlimRuns(t, []slimRow{
		{"num 1; num 2; cons; give", "1 :: 2", done, 4}, {"nil; bool 1; cons; give", "nil :: true", done, 4}, {"num 1; num 2; num 3; cons; cons; give", "1 :: 2 :: 3", done, 6}, {"num 1; num 2; cons; case 6; var 0; give; nil; give", "2", done, 6}, {"nil; fun 4; cons; give; var 0; give", "nil :: fun", done, 4},
		{"nil; out; give", "0", done, 3}, {"fun 3; out; give; nil; give", "0", done, 3}, {"num 1; num 2; cons; case 7; var 0; fst; give; nil; give", "", impl.WantStuck, 6},
		{"bool 1; num 0; op 4; give", "", impl.WantStuck, 3}, {"num 1; bool 0; op 4; give", "", impl.WantStuck, 3}, {"num 1; nil; op 4; give", "", impl.WantStuck, 3},
	})
	// so many are made beside that cells are cleaned
	s, want, _ := asksRun(t, mustCode(t, "num 1; num 2; cons; bind; num 90; bind; num 3; num 4; pair; bind; drop 1; var 0; num 1; op 2; drop 1; bind; num 0; var 0; op 5; if 21; go 6; var 1; drop 2; give"), impl.SlimMax)
	if s != "1 :: 2" || want != done {
		t.Error(s, want)
	}
}

// Code that goes round without an end, of as many ops as are asked for.
func TestSlimRunEndless(t *testing.T) {
	for _, text := range []string{"go 0", "go 1; go 0", "nil; bind; drop 1; go 0", "nil; bind; var 0; drop 1; go 1", "bool 0; if 0; nil; give", "bool 1; if 3; go 0; nil; give", "nil; case 0; nil; give", "fun 6; bind; var 0; num 1; call; if 2; bool 0; give"} {
		list := mustCode(t, text)
		for _, most := range []int{0, 1, 2, 3, 7, 50, 1000, impl.SlimMax - 1, impl.SlimMax} {
			if s, want, ops := asksRun(t, list, most); s != "" || want != impl.WantMore || ops != most {
				t.Errorf("%s, %d ops at most: %q %d %d", text, most, s, want, ops)
			}
		}
		asksSlim(t, list)
	}
}

// Just SlimMax ops, and one more: 199 rounds of ten ops, five more, and so many CodeGo ahead.
func TestSlimRunMost(t *testing.T) {
	for ahead, want := range map[int]int{0: impl.WantDone, 5: impl.WantDone, 6: impl.WantDone, 7: impl.WantMore, 8: impl.WantMore} {
		text, at := "", strconv.Itoa(ahead+2)
		for i := range ahead {
			text += "go " + strconv.Itoa(i+1) + "; "
		}
		list := mustCode(t, text+"num 199; bind; var 0; num 1; op 2; drop 1; bind; num 0; var 0; op 5; if "+strconv.Itoa(ahead+12)+"; go "+at+"; nil; drop 1; give")
		s, code, ops := asksRun(t, list, impl.SlimMax)
		if code != want || ops != min(1994+ahead, impl.SlimMax) || (s == "nil") != (want == impl.WantDone) {
			t.Errorf("%d ahead: %q %d %d", ahead, s, code, ops)
		}
		if s, code, ops := asksRun(t, asksSlim(t, list), impl.SlimMax); s != "nil" || code != impl.WantDone || ops != 1994 {
			t.Errorf("%d ahead, slim: %q %d %d", ahead, s, code, ops)
		}
	}
}

// FrameMax functions wait, and one more; HeapMax cells are needed, and one more; more calls than CallMax.
func TestSlimRunRoom(t *testing.T) {
	asksSlimRuns(t, []slimRow{
		{"fun 4; fun 4; call; give; var 0; var 0; call; give", "", impl.WantFull, 183},
		// each round makes a list longer, what was known ahead is not needed
		{"nil; bind; num 1; var 0; cons; drop 1; bind; go 2", "", impl.WantFull, 2 + 6*119 + 3},
	})
	deep := "rec f n = if n < 1 then 7 else (fun x -> f (n - 1)) 0 in " // f n waits in 2 n + 1 functions at once
	for text, want := range map[string]int{"f 29": impl.WantDone, "(fun y -> f 29) 0": impl.WantDone, "f 30": impl.WantFull, "(fun y -> (fun z -> f 29) 0) 0": impl.WantFull} {
		list, _ := impl.CodeOf(mustRead(t, deep+text))
		if s, code, _ := asksRun(t, list, impl.SlimMax); code != want || (s == "7") != (want == impl.WantDone) {
			t.Errorf("%s: %q %d", text, s, code)
		}
	}
	long := "rec l n = if n < 1 then nil else n :: l (n - 1) in " // l n has 2 + 2 (n + 1) cells at once
	for text, want := range map[string]int{"l 57": impl.WantDone, "l 58": impl.WantDone, "l 59": impl.WantFull, "let x = 1 in l 1": impl.WantDone} {
		list, _ := impl.CodeOf(mustRead(t, long+text))
		if s, code, _ := asksRun(t, list, impl.SlimMax); code != want || (s != "") != (want == impl.WantDone) {
			t.Errorf("%s: %q %d", text, s, code)
		}
	}
	e := mustRead(t, "let a = fun x -> x in let b = fun x -> a (a (a (a x))) in let c = fun x -> b (b (b (b x))) in let d = fun x -> c (c (c (c x))) in d (d (d (d (d 1))))")
	list, _ := impl.CodeOf(e)
	if s, want, ops := asksRun(t, list, impl.SlimMax); s != "1" || want != impl.WantDone || ops < 5*85*4 {
		t.Error(s, want, ops)
	}
	if _, want, _ := impl.MachOf(e, false); want != impl.WantMore {
		t.Error(want)
	}
}

// P62 and P63: slim code does the same, in no more ops, and what has come to an end stays so with more of them.
func TestSlimRunPromise(t *testing.T) {
	r := rand.New(rand.NewSource(1706))
	ends, fewer := map[int]int{}, 0
	for _, list := range codes(1707, 500) {
		s, want, ops := asksRun(t, list, impl.SlimMax)
		ends[want]++
		if (s != "") != (want == impl.WantDone) || ops > impl.SlimMax {
			t.Fatalf("%q: %q %d %d", codeLines(list), s, want, ops)
		}
		for _, most := range []int{r.Intn(ops + 1), ops, min(ops+1, impl.SlimMax), r.Intn(impl.SlimMax + 1)} {
			text, code, done := impl.SlimRun(list, most)
			if code != impl.WantMore && (text != s || code != want || done != ops) || code == impl.WantMore && (text != "" || done != most) || (code == impl.WantMore) != (most < ops || want == impl.WantMore) {
				t.Fatalf("%q, %d ops at most: %q %d %d, with more %q %d %d", codeLines(list), most, text, code, done, s, want, ops)
			}
		}
		if want == impl.WantMore {
			continue
		}
		text, code, done := impl.SlimRun(impl.SlimOf(list), impl.SlimMax)
		if text != s || code != want || done > ops {
			t.Fatalf("%q: %q %d %d, slim %q %d %d", codeLines(list), s, want, ops, text, code, done)
		}
		if done < ops {
			fewer++
		}
	}
	for _, want := range []int{impl.WantMore, impl.WantDone, impl.WantDiv, impl.WantFull, impl.WantStuck, impl.ExprSpawn, impl.ExprSend, impl.ExprRecv, impl.ExprLink} {
		if ends[want] < 5 {
			t.Errorf("%d came to %d", ends[want], want)
		}
	}
	if fewer < 500 {
		t.Errorf("%d took fewer ops", fewer)
	}
}

// P64: the code of an expression does what the machine does.
func TestSlimRunMach(t *testing.T) {
	same := map[int]int{}
	list := withTypes(1710, 2000)
	for _, text := range []string{
		"rec f n = if n < 1 then 0 else f (n - 1) in f 40 + f 30", "rec f n = f (n :: n :: nil) in 1", "rec f l = f (1 :: l) in f nil", "rec l n = if n < 1 then nil else n :: l (n - 1) in case l 58 of nil -> 0 | h :: t -> h / 0", "(out 1, out (2 / 0))",
	} {
		if e := mustRead(t, text); impl.ExprOk(e) {
			list = append(list, e)
		}
	}
	for _, e := range list {
		code, ok := impl.CodeOf(e)
		if !ok {
			continue
		}
		s, want, _ := asksRun(t, code, impl.SlimMax)
		text, is, _ := impl.MachOf(e, false)
		if want == impl.WantMore || is == impl.WantMore {
			continue
		}
		same[want]++
		if text != s || is != want {
			t.Fatalf("%s: %q %d, on the machine %q %d", impl.ExprPut(e), s, want, text, is)
		}
	}
	for _, want := range []int{impl.WantDone, impl.WantDiv, impl.WantFull, impl.ExprSpawn, impl.ExprSend, impl.ExprRecv, impl.ExprLink} {
		if same[want] < 1 {
			t.Errorf("none came to %d", want)
		}
	}
}

// What is no code, or too many ops at most, or fewer than none.
func TestSlimWrong(t *testing.T) {
	wrong := [][]impl.Op{nil, {}, many(impl.CodeMax + 1), many(5000), {{}}, {{Kind: 25}}, {{Kind: -1}, {Kind: impl.CodeGive}}}
	for _, text := range []string{"give", "nil", "nil; nil; give", "go 1", "nil; give; go 3", "nil; give; num 1000000", "var 0; give", "nil; drop 1; give", "nil; if 3; nil; give", "fun 2; give; fst; give", "nil; bind", "go -1", "nil; go 0"} {
		wrong = append(wrong, opsOf(text))
	}
	for _, list := range wrong {
		for _, most := range []int{0, 1, impl.SlimMax, impl.SlimMax + 1, -1} {
			if s, want, ops := impl.SlimRun(list, most); s != "" || want != impl.WantStuck || ops != 0 {
				t.Errorf("%v: %q %d %d", list, s, want, ops)
			}
		}
		if slim, live := impl.SlimOf(list), impl.SlimLive(list); len(slim)+len(live) > 0 {
			t.Errorf("%v: %v %v", list, slim, live)
		}
	}
	for _, most := range []int{-1, -2, impl.SlimMax + 1, impl.SlimMax + 2, 1 << 40, 1<<63 - 1, -1 << 63} {
		for _, text := range []string{"nil; give", "go 0"} {
			if s, want, ops := impl.SlimRun(opsOf(text), most); s != "" || want != impl.WantStuck || ops != 0 {
				t.Errorf("%s, %d ops at most: %q %d %d", text, most, s, want, ops)
			}
		}
	}
	if s, want, ops := impl.SlimRun(opsOf("nil; give"), 0); s != "" || want != impl.WantMore || ops != 0 {
		t.Error(s, want, ops)
	}
}

// Every function of chapter 17 answers, whatever it is given, and tells nothing of what is not ok.
func TestSlimAtAnything(t *testing.T) {
	r := rand.New(rand.NewSource(1712))
	numbers := []int{0, 0, 1, 2, 3, 5, 6, -1, 60, 199, 200, impl.SlimMax, impl.SlimMax + 1, 999999, 1<<63 - 1, -1 << 63}
	fit := 0
	for range 60000 {
		var list []impl.Op
		for n := r.Intn(7); n > 0; n-- {
			list = append(list, someOp(r, n+2))
		}
		list = append(list, impl.Op{Kind: impl.CodeGive})
		if r.Intn(5) == 0 {
			list[r.Intn(len(list))] = impl.Op{Kind: r.Intn(28) - 1, Num: numbers[r.Intn(len(numbers))]}
		}
		most := numbers[r.Intn(len(numbers))]
		if codeFits(list) {
			fit++
			asksLive(t, list)
			asksSlim(t, list)
			if most >= 0 && most <= impl.SlimMax {
				asksRun(t, list, most)
				continue
			}
		} else if slim, live := impl.SlimOf(list), impl.SlimLive(list); len(slim)+len(live) > 0 {
			t.Fatalf("%v: %v %v", list, slim, live)
		}
		if s, want, ops := impl.SlimRun(list, most); s != "" || want != impl.WantStuck || ops != 0 {
			t.Fatalf("%v, %d ops at most: %q %d %d", list, most, s, want, ops)
		}
	}
	if fit < 3000 {
		t.Errorf("%d are ok", fit)
	}
}

// Nothing is written into code, nor behind it, and answers are new each time.
func TestSlimKeepsArguments(t *testing.T) {
	spare := many(20)
	for _, list := range codes(1713, 100) {
		room := append(slices.Clone(list), spare...)
		code := room[:len(list)]
		slim, live := impl.SlimOf(code), impl.SlimLive(code)
		wantSlim, wantLive := slices.Clone(slim), slices.Clone(live)
		s, want, ops := impl.SlimRun(code, impl.SlimMax)
		clear(slim[:cap(slim)])
		clear(live[:cap(live)])
		if !slices.Equal(room, append(slices.Clone(list), spare...)) {
			t.Fatalf("%q was written into", codeLines(list))
		}
		if text, code, done := impl.SlimRun(code, impl.SlimMax); text != s || code != want || done != ops {
			t.Fatalf("%q: another answer", codeLines(list))
		}
		if !slices.Equal(impl.SlimOf(code), wantSlim) || !slices.Equal(impl.SlimLive(code), wantLive) {
			t.Fatalf("%q: another answer", codeLines(list))
		}
	}
}
