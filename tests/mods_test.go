package tests

import (
	"fmt"
	"math/rand"
	"slices"
	"strconv"
	"strings"
	"testing"

	"loop.example/ensemble/impl"
)

// mustMod reads lines of definitions, and a last one that is Main.
func mustMod(t *testing.T, lines ...string) impl.Mod {
	t.Helper()
	m := impl.Mod{}
	for _, line := range lines[:len(lines)-1] {
		name, text, ok := strings.Cut(line, " = ")
		if !ok {
			t.Fatalf("no definition: %q", line)
		}
		m.Defs = append(m.Defs, impl.Def{Name: name, Expr: mustRead(t, text)})
	}
	m.Main = mustRead(t, lines[len(lines)-1])
	return m
}

func sameMod(x impl.Mod, y impl.Mod) bool {
	return sameExpr(x.Main, y.Main) && slices.EqualFunc(x.Defs, y.Defs, func(a impl.Def, b impl.Def) bool { return a.Name == b.Name && sameExpr(a.Expr, b.Expr) })
}

// isEmptyMod says whether definitions and an expression are the zero value.
func isEmptyMod(m impl.Mod) bool { return sameMod(m, impl.Mod{}) }

// repeated are so many definitions of names that differ.
func repeated(count int) []string {
	var lines []string
	for i := range count {
		lines = append(lines, "d"+strconv.Itoa(i)+" = "+strconv.Itoa(i))
	}
	return lines
}

// okMods are lines of definitions and an expression that are ok.
func okMods() [][]string {
	return [][]string{
		{"1"}, {"x"}, {"x = 1"}, {"let x = 1 in x"}, {"a = 1", "a"}, {"a = 1", "a = 2", "a"}, {"a = a", "a"}, {"a = b", "b = 1", "a"}, {"a = b + 1", "c = a = 1", "b = c"}, {"abcd = fun x -> x", "abcd abcd"}, {"a1 = 999999", "a1"},
		{"id = fun x -> x", "a = 1", "b = id a", "a = true", "(id a, b)"}, {"f = rec f x = f x in f", "g = fun x -> f (g x)", "let y = g 1 in y = 2"}, {"l = nil", "case l of nil -> (fun x -> x) | h :: t -> h"},
		append(repeated(impl.DefMax), "d0 + d5"), append(repeated(impl.DefMax-1), "d0"), {"x = 1", "x = 1 = 2", "x = 1"},
	}
}

// P56, P57: what is ok is written a line each, and read back.
func TestModPutTable(t *testing.T) {
	for _, lines := range okMods() {
		m := mustMod(t, lines...)
		text := strings.Join(lines, "\n") + "\n"
		if s := impl.ModPut(m); s != text {
			t.Errorf("%q, want %q", s, text)
		}
		if got, ok := impl.ModGet(text); !ok || !sameMod(got, m) {
			t.Errorf("%q: %v %v", text, got, ok)
		}
	}
	long := longText(t, impl.TextMax)
	m := impl.Mod{Defs: []impl.Def{{Name: "a", Expr: long}, {Name: "b", Expr: long}}, Main: long}
	text := "a = " + spelled(long) + "\nb = " + spelled(long) + "\n" + spelled(long) + "\n"
	if s := impl.ModPut(m); s != text || len(s) != 3*impl.TextMax+11 {
		t.Errorf("%q", s)
	}
	if got, ok := impl.ModGet(text); !ok || !sameMod(got, m) {
		t.Errorf("%q: %v", text, ok)
	}
}

// Texts that are not just such.
func TestModGetWrong(t *testing.T) {
	long, longer := spelled(longText(t, impl.TextMax)), spelled(longText(t, impl.TextMax+1))
	wrong := []string{
		"", "\n", "\n\n", "1", "a = 1\na", "1\n\n", "\n1\n", "a = 1\n\na\n", "a = 1\na\n\n", "a\n1\n", "1\n1\n", "a = 1\nb = 2\n3 = 4\n5\n", " 1\n", "1 \n", "a = 1 \na\n", " a = 1\na\n", "a  = 1\na\n", "a =  1\na\n", "a= 1\na\n", "a =1\na\n", "a=1\na\n", "a : 1\na\n", "a = = 1\na\n", " = 1\n1\n", "= 1\n1\n",
		"a = \n1\n", "a =\n1\n", "a = 1 = \n1\n", "a = b =  1\n1\n", "let = 1\n1\n", "1 = 1\n1\n", "a b = 1\n1\n", "abcde = 1\n1\n", "A = 1\n1\n", "in = 2\n1\n", "a = 1 +\n1\n", "a = 1+1\na\n", "a = (1)\na\n", "a = 1\n(a)\n", "a = 01\na\n", "a = 1\na  b\n", "a = 1\r\na\r\n", "a = 1\ra\n", "a = 1;a\n", "a = 1 in a\n",
		"a = fun x->x\na\n", "a = 1::nil\na\n", "a = if a then b else(c)\na\n", "let a = 1\na\n", "let a = 1 in\na\n", "a = let b = 1\nin b\na\n", "a = 1\na\nb = 2", "a = 1\na\x00\n", "a\t= 1\na\n", "a = \xff\na\n",
		"a = " + longer + "\n1\n", longer + "\n", long + " \n", "a = " + long + "\n" + longer + "\n", strings.Join(append(repeated(impl.DefMax+1), "d0", ""), "\n"), strings.Repeat("a = 1\n", 5000), strings.Repeat("a = 1\n", 5000) + "a\n", strings.Repeat("\n", 100000), strings.Repeat("a", 100000), strings.Repeat("a = ", 10000) + "a\n",
	}
	for _, s := range wrong {
		if m, ok := impl.ModGet(s); ok || !isEmptyMod(m) {
			t.Errorf("%q: %v %v", s[:min(len(s), 100)], m, ok)
		}
	}
	if _, ok := impl.ModGet(long + "\n"); !ok {
		t.Error("an expression of TextMax bytes is none")
	}
}

// wrongMods are definitions and expressions that are not ok.
func wrongMods(t *testing.T) []impl.Mod {
	list := []impl.Mod{{}, {Defs: []impl.Def{{}}}, {Defs: []impl.Def{{}}, Main: number(1)}, {Defs: []impl.Def{{Name: "a"}}, Main: number(1)}, {Defs: []impl.Def{{Name: "a", Expr: number(1)}}}}
	for _, name := range []string{"", "in", "abcde", "1", "A", "a b", "a ", "=", "a = 1\nb", "link"} {
		list = append(list, impl.Mod{Defs: []impl.Def{{Name: name, Expr: number(1)}}, Main: number(1)})
		list = append(list, impl.Mod{Defs: []impl.Def{{Name: "a", Expr: number(1)}, {Name: name, Expr: number(1)}, {Name: "b", Expr: number(1)}}, Main: number(1)})
	}
	for _, e := range append(wrongExprs(), longText(t, impl.TextMax+1)) {
		list = append(list, impl.Mod{Main: e}, impl.Mod{Defs: []impl.Def{{Name: "a", Expr: e}}, Main: number(1)}, impl.Mod{Defs: []impl.Def{{Name: "a", Expr: number(1)}, {Name: "b", Expr: e}}, Main: variable("a")})
	}
	return append(list, mustMod(t, append(repeated(impl.DefMax+1), "d0")...), mustMod(t, append(repeated(impl.DefMax+30), "1")...))
}

func TestModWrong(t *testing.T) {
	for i, m := range wrongMods(t) {
		e, ok := impl.ModExpr(m)
		if s := impl.ModPut(m); s != "" || ok || !isNothing(e) || len(impl.ModTypes(m)) > 0 || len(impl.ModNeeds(m)) > 0 {
			t.Errorf("wrong definitions %d: %q %v %v %v", i, s, ok, impl.ModTypes(m), impl.ModNeeds(m))
		}
	}
}

// The first definition is the outermost; what comes of it must be ok, but its text may have more than TextMax bytes.
func TestModExprTable(t *testing.T) {
	rows := [][]string{
		{"1", "1"}, {"x", "x"}, {"a = 1", "a", "let a = 1 in a"}, {"a = 1", "b = a + 1", "(a, b)", "let a = 1 in let b = a + 1 in (a, b)"}, {"a = 1", "a = a + 1", "a = a * 2", "a", "let a = 1 in let a = a + 1 in let a = a * 2 in a"},
		{"a = b", "b = a", "c", "let a = b in let b = a in c"}, {"a = let b = 1 in b", "fun a -> a", "let a = let b = 1 in b in fun a -> a"}, {"d = 1", "c = 2", "b = 3", "a = 4", "f = 5", "e = 6", "(a, f)", "let d = 1 in let c = 2 in let b = 3 in let a = 4 in let f = 5 in let e = 6 in (a, f)"},
	}
	for _, row := range rows {
		last := len(row) - 1
		e, ok := impl.ModExpr(mustMod(t, row[:last]...))
		if s := impl.ExprPut(e); !ok || s != row[last] {
			t.Errorf("%q: %q %v", row[:last], s, ok)
		}
	}
	long := "abcd = case abcd of nil -> abcd | abcd :: abce -> abcd"
	m := mustMod(t, long, long, long, long, long, long, long[len("abcd = "):])
	if e, ok := impl.ModExpr(m); !ok || !sameExpr(e, nestedLets(m.Defs, m.Main)) || impl.ExprPut(e) != "" || len(spelled(e)) <= impl.TextMax {
		t.Errorf("a long one: %v %s", ok, spelled(e))
	}
}

// Just NodeMax parts, just DeepMax in each other, and one more, wherever they stand.
func TestModExprBounds(t *testing.T) {
	def := func(e impl.Expr) impl.Def { return impl.Def{Name: "a", Expr: e} }
	six := []impl.Def{def(grown(6)), def(grown(7)), def(grown(8)), def(grown(9)), def(grown(3)), def(grown(5))}
	rows := []impl.Mod{
		{Main: grown(60)}, {Defs: []impl.Def{def(grown(30))}, Main: grown(29)}, {Defs: []impl.Def{def(grown(58))}, Main: grown(1)}, {Defs: []impl.Def{def(grown(1))}, Main: grown(58)}, {Defs: six, Main: grown(16)},
		{Main: chained(13)}, {Defs: []impl.Def{def(number(1))}, Main: chained(12)}, {Defs: []impl.Def{def(chained(12))}, Main: number(1)}, {Defs: six, Main: chained(7)}, {Defs: append(six[:5:5], def(chained(7))), Main: number(1)}, {Defs: []impl.Def{def(chained(12)), def(chained(11)), def(chained(10))}, Main: chained(10)},
		// one more
		{Defs: []impl.Def{def(grown(30))}, Main: grown(30)}, {Defs: []impl.Def{def(grown(59))}, Main: grown(1)}, {Defs: []impl.Def{def(grown(1))}, Main: grown(59)}, {Defs: six, Main: grown(17)}, {Defs: []impl.Def{def(grown(60))}, Main: grown(60)},
		{Defs: []impl.Def{def(number(1))}, Main: chained(13)}, {Defs: []impl.Def{def(chained(13))}, Main: number(1)}, {Defs: six, Main: chained(8)}, {Defs: append(six[:5:5], def(chained(8))), Main: number(1)}, {Defs: []impl.Def{def(chained(12)), def(chained(12))}, Main: number(1)}, {Defs: []impl.Def{def(number(1)), def(number(2))}, Main: chained(12)},
	}
	for i, m := range rows {
		want := nestedLets(m.Defs, m.Main)
		e, ok := impl.ModExpr(m)
		if ok != (i < 11) || ok != fits(want) || ok && !sameExpr(e, want) || !ok && !isNothing(e) || impl.ModPut(m) == "" {
			t.Errorf("row %d: %v, %d parts, %d in each other", i, ok, partsOf(want), deepOf(want))
		}
		if got, read := impl.ModGet(impl.ModPut(m)); !read || !sameMod(got, m) {
			t.Errorf("row %d is not read", i)
		}
		if !ok && len(impl.ModTypes(m)) > 0 {
			t.Errorf("row %d has types", i)
		}
	}
}

// asksMods asks what a function tells, texts with a semicolon between, of lines; the last one of a row is the answer.
func asksMods(t *testing.T, rows [][]string, asked func(m impl.Mod) string) {
	t.Helper()
	for _, row := range rows {
		last := len(row) - 1
		if s := asked(mustMod(t, row[:last]...)); s != row[last] {
			t.Errorf("%q: %q, want %q", row[:last], s, row[last])
		}
	}
}

func TestModTypesTable(t *testing.T) {
	most, _ := sized(impl.TypeMax)
	more, _ := sized(impl.TypeMax + 1)
	names := []string{"p = (1, 1)", "q = (p, p)", "r = (q, q)", "s = (r, r)"}
	_, kind := sized(impl.TypeMax)
	short := "int * int;(int * int) * (int * int);((int * int) * (int * int)) * ((int * int) * (int * int));(((int * int) * (int * int)) * ((int * int) * (int * int))) * (((int * int) * (int * int)) * ((int * int) * (int * int)));"
	letters := []string{"f = rec f x = f x in f", "g = f 0", "h = (g, g)"}
	asksMods(t, [][]string{
		{"1", "int"}, {"fun x -> x", "a -> a"}, {"a = 1", "true", "int;bool"}, {"id = fun x -> x", "a = 1", "b = id a", "a = true", "(id a, b)", "a -> a;int;int;bool;bool * int"}, {"f = fun x -> fun y -> x", "f 1", "a -> b -> a;a -> int"},
		{"a = 1", "a = (a, true)", "a = a :: nil", "a", "int;int * bool;(int * bool) list;(int * bool) list"}, {"a = true", "a = 1", "a + 1", "bool;int;int"}, {"a = nil", "b = 1 :: a", "c = true :: a", "fst (b, c)", "a list;int list;bool list;int list"},
		{"f = rec f x = f x in f", "a = f 1", "1", "a -> b;a;int"}, {"m = recv", "n = m + 1", "fun x -> m", "a;int;a -> int"}, {"m = fun x -> recv", "n = send self true", "m", "a -> b;int;a -> bool"}, {"a = self", "b = spawn (fun x -> x)", "link b", "pid;pid;int"},
		// one has none
		{"x", ""}, {"1 + true", ""}, {"a = 1", "b", ""}, {"a = 1", "a + true", ""}, {"a = b", "b = 1", "a", ""}, {"a = a", "a", ""}, {"a = x", "1", ""}, {"a = 1", "b = a 1", "a", ""}, {"a = 1 + true", "2", ""}, {"a = fun x -> x x", "2", ""}, {"a = fun x -> y", "2", ""}, {"a = 1", "fun x -> x x", ""},
		{"a = 1", "b = 2", "c = a + nil", "b", ""}, {"a = recv + 1", "b = send self true", "1", ""}, {"a = recv", "b = a + 1", "send self nil", ""},
		append(slices.Clone(names), most, short+kind), append(slices.Clone(names), more, ""), append(slices.Clone(names), "t = "+most, "1", short+kind+";int"), append(slices.Clone(names), "t = "+more, "1", ""),
		append(slices.Clone(letters), lettered(25), "a -> b;a;a * b;"+inLetters(25)), append(slices.Clone(letters), lettered(26), ""), append(slices.Clone(letters), "t = "+lettered(25), "1", "a -> b;a;a * b;"+inLetters(25)+";int"),
		// Each of Defs is asked for alone, so that it may have no type, even if the whole has one.
		append(slices.Clone(letters), "t = "+lettered(26), "1", ""),
	}, func(m impl.Mod) string { return strings.Join(impl.ModTypes(m), ";") })
	if _, _, ok := impl.TypeOf(mustRead(t, free+"let t = "+lettered(26)+" in 1")); !ok {
		t.Error("the whole has no type")
	}
}

// inLetters is the type of lettered.
func inLetters(letters int) string {
	next := byte('a')
	var write func(n int, inside bool) string
	write = func(n int, inside bool) string {
		if n == 1 {
			next++
			return string(rune(next - 1))
		}
		half := max(n/4*2, 2)
		if n == 2 {
			half = 1
		}
		text := write(half, true) + " * " + write(n-half, true)
		if inside {
			return "(" + text + ")"
		}
		return text
	}
	return write(letters, false)
}

func TestModNeedsTable(t *testing.T) {
	asksMods(t, [][]string{
		{"1", ""}, {"x", ""}, {"a = 1", "1", ""}, {"a = 1", "a", "0"}, {"a = 1", "b", ""}, {"a = 1", "b = 2", "b", "1"}, {"a = 1", "b = 2", "a", "0"}, {"a = 1", "b = 2", "(b, a)", "0 1"}, {"a = 1", "b = 2", "c = 3", "c + a", "0 2"},
		// by what is needed, at once or not
		{"a = 1", "b = a", "b", "0 1"}, {"a = 1", "b = a", "c = b", "c", "0 1 2"}, {"a = 1", "b = a", "c = b", "a", "0"}, {"a = 1", "b = a", "c = 2", "c", "2"}, {"a = 1", "b = 2", "c = (a, b)", "d = a", "c", "0 1 2"}, {"a = 1", "b = a", "c = a", "d = (b, c)", "d", "0 1 2 3"}, {"a = 1", "b = a", "b + a", "0 1"},
		{"a = 1", "b = a", "c = b", "d = c", "e = d", "f = e", "f", "0 1 2 3 4 5"}, {"f = 1", "e = f", "d = e", "c = d", "b = c", "a = b", "a", "0 1 2 3 4 5"},
		// of one name the last ahead of where it is free
		{"a = 1", "a = 2", "a", "1"}, {"a = 1", "a = a", "a", "0 1"}, {"a = 1", "a = a", "a = 3", "a", "2"}, {"a = 1", "b = a", "a = 2", "b", "0 1"}, {"a = 1", "b = a", "a = 2", "a", "2"}, {"a = 1", "b = a", "a = 2", "(a, b)", "0 1 2"}, {"a = 1", "a = 2", "b = a", "a = 3", "b", "1 2"}, {"a = 1", "a = 2", "b = a", "a = 3", "(a, b)", "1 2 3"},
		{"a = 1", "a = a", "a = a", "a", "0 1 2"}, {"a = 1", "b = 2", "a = b", "b = a", "a = b", "a", "1 2 3 4"}, {"b = 1", "a = 2", "b = b + a", "a = 3", "b", "0 1 2"},
		// itself, and later ones
		{"a = a", "a", "0"}, {"a = b", "b = 1", "a", "0"}, {"a = b", "b = a", "a", "0"}, {"a = b", "b = a", "b", "0 1"}, {"a = b", "b = c", "c = a", "b", "1"}, {"a = b", "b = c", "c = a", "c", "0 2"}, {"f = fun x -> f x", "f", "0"},
		// what binds the name itself
		{"a = 1", "fun a -> a", ""}, {"a = 1", "let a = 2 in a", ""}, {"a = 1", "let a = a in a", "0"}, {"a = 1", "rec a x = a x in a", ""}, {"a = 1", "rec f a = a in a", "0"}, {"a = 1", "rec f a = a in f", ""}, {"a = 1", "case nil of nil -> 1 | a :: t -> a", ""}, {"a = 1", "case nil of nil -> a | a :: t -> a", "0"}, {"a = 1", "case nil of nil -> 1 | h :: a -> a", ""}, {"a = 1", "(fun a -> a) a", "0"},
		{"a = 1", "b = fun a -> a", "b", "1"}, {"a = 1", "b = let a = a in a", "b", "0 1"}, {"a = 1", "b = 2", "fun a -> a + b", "1"},
	}, func(m impl.Mod) string { return strings.Trim(fmt.Sprint(impl.ModNeeds(m)), "[]") })
	// It does not matter whether ModExpr is ok, or has a type.
	m := impl.Mod{Defs: []impl.Def{{Name: "x", Expr: grown(60)}, {Name: "y", Expr: chained(13)}}, Main: grown(60)}
	if _, ok := impl.ModExpr(m); ok || !slices.Equal(impl.ModNeeds(m), modNeeded(m)) || len(impl.ModNeeds(m)) == 0 {
		t.Error(impl.ModNeeds(m))
	}
}

// someMod is definitions and an expression that are ok; many have a type.
func someMod(r *rand.Rand) impl.Mod {
	names := []string{"a", "b", "c", "x"}
	shapes := []string{
		"1", "true", "nil", "fun x -> x", "fun x -> %", "%", "%", "% + 1", "(%, %)", "(%, %)", "% %", "% :: nil", "out 1", "recv", "send self %", "let x = % in x", "let % = 1 in %", "fun % -> (%, %)", "rec f x = f x in f", "fst (%, %)", "fun x -> (x, %)",
		"case % of nil -> % | h :: t -> h", "if true then % else %", "1 / 0", "(1, %)", "(%, nil)", "spawn (fun x -> 1)", "self", "fun a -> fun b -> a", "fun x -> recv", "% 1",
	}
	m := impl.Mod{}
	one := func() impl.Expr {
		if r.Intn(20) == 0 {
			return someExpr(r, 5)
		}
		text := shapes[r.Intn(len(shapes))]
		if len(m.Defs) == 0 {
			text = shapes[r.Intn(4)]
		}
		for strings.Contains(text, "%") {
			name := names[r.Intn(len(names))]
			if len(m.Defs) > 0 && r.Intn(15) > 0 {
				name = m.Defs[r.Intn(len(m.Defs))].Name
			}
			text = strings.Replace(text, "%", name, 1)
		}
		e, _ := impl.ExprGet(text)
		return e
	}
	for range r.Intn(impl.DefMax + 1) {
		e := one()
		m.Defs = append(m.Defs, impl.Def{Name: names[r.Intn(len(names))], Expr: e})
	}
	m.Main = one()
	return m
}

// someMods are so many, the same each time; in some stand expressions of all sizes.
func someMods(seed int64, count int) []impl.Mod {
	r := rand.New(rand.NewSource(seed))
	sizes := slices.DeleteFunc(okExprs(seed+1, 1000), func(e impl.Expr) bool { return partsOf(e) < 12 })
	var list []impl.Mod
	for len(list) < count {
		m := someMod(r)
		for some := r.Intn(6) == 0; some && len(m.Defs) > 0; some = r.Intn(5) > 0 {
			m.Defs[r.Intn(len(m.Defs))].Expr = sizes[r.Intn(len(sizes))]
		}
		if r.Intn(20) == 0 {
			m.Main = sizes[r.Intn(len(sizes))]
		}
		list = append(list, m)
	}
	return list
}

// P56: definitions are read back from how they are written.
func TestModPutPromise(t *testing.T) {
	for _, m := range someMods(1601, 3000) {
		s := impl.ModPut(m)
		if !isModSeen(m) {
			if s != "" {
				t.Fatalf("%q of what is not ok", s)
			}
			continue
		}
		if s != modWritten(m) {
			t.Fatalf("%q, want %q", s, modWritten(m))
		}
		if got, ok := impl.ModGet(s); !ok || !sameMod(got, m) {
			t.Fatalf("%q: %v %v", s, got, ok)
		}
	}
}

// P57: what is read as definitions is written just so, whatever was changed in a text.
func TestModGetPromise(t *testing.T) {
	r := rand.New(rand.NewSource(1602))
	read := 0
	for _, m := range someMods(1603, 6000) {
		s := []byte(impl.ModPut(m))
		for n := r.Intn(3); n > 0 && len(s) > 1; n-- {
			switch at := r.Intn(len(s)); r.Intn(3) {
			case 0:
				s = slices.Delete(s, at, at+1)
			case 1:
				s = slices.Insert(s, at, "\n =a1("[r.Intn(6)])
			default:
				s[at] = "\n =abx1)"[r.Intn(8)]
			}
		}
		got, ok := impl.ModGet(string(s))
		want, may := modRead(string(s))
		if ok != may || !sameMod(got, want) {
			t.Fatalf("%q: %v %v, want %v", s, got, ok, may)
		}
		if !ok {
			continue
		}
		read++
		if impl.ModPut(got) != string(s) || len(got.Defs) > impl.DefMax {
			t.Fatalf("%q: %q", s, impl.ModPut(got))
		}
	}
	if read < 1500 || read > 4500 {
		t.Errorf("%d of 6000 were read", read)
	}
}

// P58: an expression with definitions around it has no more free names than it, and they; the last definition may stand around Main.
func TestModExprPromise(t *testing.T) {
	there, not := 0, 0
	for _, m := range someMods(1604, 4000) {
		want := nestedLets(m.Defs, m.Main)
		e, ok := impl.ModExpr(m)
		if ok != (isModSeen(m) && fits(want)) || ok && !sameExpr(e, want) || !ok && !isNothing(e) {
			t.Fatalf("%q: %s %v", impl.ModPut(m), spelled(want), ok)
		}
		if !ok {
			not++
			continue
		}
		there++
		all := impl.NameFree(m.Main)
		for _, d := range m.Defs {
			all = append(all, impl.NameFree(d.Expr)...)
		}
		for _, name := range impl.NameFree(e) {
			if !slices.Contains(all, name) {
				t.Fatalf("%q: %s is free", impl.ModPut(m), name)
			}
		}
		if len(m.Defs) == 0 {
			continue
		}
		last := m.Defs[len(m.Defs)-1]
		other := impl.Mod{Defs: m.Defs[:len(m.Defs)-1], Main: letIn(last.Name, last.Expr, m.Main)}
		if one, ok := impl.ModExpr(other); ok != (impl.ExprPut(other.Main) != "") || ok && !sameExpr(one, e) {
			t.Fatalf("%q: %s %v", impl.ModPut(other), impl.ExprPut(one), ok)
		}
	}
	if there < 2000 || not < 200 {
		t.Errorf("%d are ok, %d are not", there, not)
	}
}

// P59: each definition has a type, and the expression that of all together.
func TestModTypesPromise(t *testing.T) {
	typed, deep := 0, 0
	for _, m := range someMods(1605, 6000) {
		types := impl.ModTypes(m)
		if !slices.Equal(types, modTyped(m)) {
			t.Fatalf("%q: %q, want %q", impl.ModPut(m), types, modTyped(m))
		}
		if len(types) == 0 {
			continue
		}
		typed++
		e, _ := impl.ModExpr(m)
		if kind, _, ok := impl.TypeOf(e); !ok || len(types) != len(m.Defs)+1 || types[len(types)-1] != kind {
			t.Fatalf("%q: %q, but %q", impl.ModPut(m), types, kind)
		}
		if len(m.Defs) == 0 {
			continue
		}
		if len(m.Defs) > 3 {
			deep++
		}
		last := len(m.Defs) - 1
		if first := impl.ModTypes(impl.Mod{Defs: m.Defs[:last], Main: m.Defs[last].Expr}); len(first) != last+1 || !slices.Equal(first[:last], types[:last]) {
			t.Fatalf("%q: %q, ahead %q", impl.ModPut(m), types, first)
		}
	}
	if typed < 700 || deep < 50 {
		t.Errorf("%d have types, %d of them many", typed, deep)
	}
}

// isMeant says whether a definition is meant by a name that is free in another one, needed or not, or in Main.
func isMeant(m impl.Mod, place int) bool {
	for behind := place + 1; behind <= len(m.Defs); behind++ {
		e := m.Main
		if behind < len(m.Defs) {
			e = m.Defs[behind].Expr
		}
		if slices.ContainsFunc(freeNames(e), func(name string) bool { return meantBy(m, name, behind) == place }) {
			return true
		}
	}
	return false
}

// P60: definitions that are not needed, and are done, can go, where no other one that is not needed names them either. What is needed is what names mean.
func TestModNeedsPromise(t *testing.T) {
	gone, needed := 0, map[int]int{}
	for _, m := range someMods(1606, 6000) {
		need := impl.ModNeeds(m)
		if !isModSeen(m) {
			continue
		}
		if !slices.Equal(need, modNeeded(m)) {
			t.Fatalf("%q: %d, want %d", impl.ModPut(m), need, modNeeded(m))
		}
		needed[len(need)]++
		whole, _ := impl.ModExpr(m)
		kind, _, ok := impl.TypeOf(whole)
		if !ok {
			continue
		}
		s, want := impl.EvalOf(whole)
		for place, d := range m.Defs {
			if slices.Contains(need, place) && !isMeant(m, place) {
				t.Fatalf("%q: %d is needed, and nobody names it", impl.ModPut(m), place)
			}
			if isMeant(m, place) || !impl.FoldStill(d.Expr) {
				continue
			}
			gone++
			e, _ := impl.ModExpr(impl.Mod{Defs: slices.Delete(slices.Clone(m.Defs), place, place+1), Main: m.Main})
			if less, _, ok := impl.TypeOf(e); !ok || !impl.TypeMore(less, kind) {
				t.Fatalf("%q: %q, without %d %q", impl.ModPut(m), kind, place, less)
			}
			if s2, want2 := impl.EvalOf(e); s2 != s || want2 != want {
				t.Fatalf("%q: %q %d, without %d %q %d", impl.ModPut(m), s, want, place, s2, want2)
			}
		}
	}
	if gone < 500 || needed[0] < 100 || needed[1] < 100 || needed[2] < 100 || needed[3] < 20 {
		t.Errorf("%d went, needed are %v", gone, needed)
	}
}

// spareMod is a Mod whose lists have spare room, with something in it.
func spareMod(m impl.Mod) impl.Mod {
	defs := make([]impl.Def, 0, len(m.Defs)+2)
	for _, d := range m.Defs {
		defs = append(defs, impl.Def{Name: d.Name, Expr: withSpare(d.Expr)})
	}
	for i := len(defs); i < cap(defs); i++ {
		defs[:cap(defs)][i] = impl.Def{Name: "zz", Expr: number(7)}
	}
	return impl.Mod{Defs: defs, Main: withSpare(m.Main)}
}

// exprsIn are the expressions of a Mod.
func exprsIn(m impl.Mod) []impl.Expr {
	list := []impl.Expr{m.Main}
	for _, d := range m.Defs {
		list = append(list, d.Expr)
	}
	return list
}

// Nothing is written into definitions, nor behind them, and answers are new memory.
func TestModsKeepToThemselves(t *testing.T) {
	for i, m := range someMods(1607, 1500) {
		spare := spareMod(m)
		text := impl.ModPut(spare)
		e, ok := impl.ModExpr(spare)
		types, need := impl.ModTypes(spare), impl.ModNeeds(spare)
		keepsToItself(t, strconv.Itoa(i), e, exprsIn(spare), exprsIn(m))
		for _, d := range spare.Defs[:cap(spare.Defs)][len(spare.Defs):] {
			if d.Name != "zz" || !sameExpr(d.Expr, number(7)) {
				t.Fatalf("%q: written behind the end", text)
			}
		}
		if !sameMod(spare, m) {
			t.Fatalf("%q was written into", text)
		}
		read, _ := impl.ModGet(text)
		room := map[*impl.Expr]bool{}
		for _, one := range exprsIn(read) {
			if roomOf(one, room) {
				t.Fatalf("%q: two lists of the answer share memory", text)
			}
		}
		all := need[:cap(need)]
		for i := range all {
			all[i] = 99
		}
		if other, okToo := impl.ModExpr(m); okToo != ok || !sameExpr(other, e) || !slices.Equal(impl.ModTypes(m), types) || !slices.Equal(impl.ModNeeds(m), modNeededIf(m)) || impl.ModPut(m) != text {
			t.Fatalf("%q: another answer", text)
		}
	}
}

// modNeededIf is modNeeded of what is ok, else nothing.
func modNeededIf(m impl.Mod) []int {
	if !isModSeen(m) {
		return nil
	}
	return modNeeded(m)
}
