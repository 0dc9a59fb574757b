package tests

import (
	"math/rand"
	"slices"
	"testing"

	"loop.example/ensemble/impl"
)

// freeOf adds the free names of an expression, by the words of chapter 3, where so much is bound around.
func freeOf(e impl.Expr, around []string, found map[string]bool) {
	if e.Kind == impl.ExprVar && !slices.Contains(around, e.Name) {
		found[e.Name] = true
	}
	for i, kid := range e.Kids {
		freeOf(kid, append(append([]string{}, around...), bindsIn(e, i)...), found)
	}
}

func freeNames(e impl.Expr) []string {
	found := map[string]bool{}
	freeOf(e, nil, found)
	var list []string
	for name := range found {
		list = append(list, name)
	}
	slices.Sort(list)
	return list
}

func TestNameFreeTable(t *testing.T) {
	rows := []struct {
		text string
		want []string
	}{
		{"1", nil}, {"x", []string{"x"}}, {"x x", []string{"x"}}, {"b a ab a1 aa", []string{"a", "a1", "aa", "ab", "b"}},
		{"fun x -> x", nil}, {"fun x -> y", []string{"y"}}, {"(fun x -> x) x", []string{"x"}},
		{"let x = x in x", []string{"x"}}, {"let x = y in x", []string{"y"}}, {"let x = 1 in fun y -> x y z", []string{"z"}},
		{"rec f x = f x in f x", []string{"x"}}, {"rec f x = f x in f", nil}, {"rec f x = y in z", []string{"y", "z"}}, {"rec f x = 1 in f", nil},
		{"case h of nil -> h | h :: t -> h t", []string{"h"}}, {"case t of nil -> 1 | h :: t -> h", []string{"t"}}, {"case 1 of nil -> t | h :: t -> t", []string{"t"}},
		{"fun x -> fun x -> x", nil}, {"(fun x -> fun y -> x, y)", []string{"y"}}, {"fun x -> (fun x -> x) x", nil},
		{"send p (q, out r)", []string{"p", "q", "r"}},
	}
	for _, row := range rows {
		if got := impl.NameFree(mustRead(t, row.text)); !sameNames(got, row.want) {
			t.Errorf("%s: %q, want %q", row.text, got, row.want)
		}
	}
}

// P4: free names are names, each once, ascending; what is bound is not among them.
func TestNameFreePromise(t *testing.T) {
	for _, e := range okExprs(11, 3000) {
		free := impl.NameFree(e)
		if !sameNames(free, freeNames(e)) {
			t.Fatalf("%v: %q, want %q", e, free, freeNames(e))
		}
		for i, name := range free {
			if !impl.NameOk(name) || i > 0 && free[i-1] >= name {
				t.Fatalf("%q", free)
			}
			around := function(name, e)
			less := append(append([]string{}, free[:i]...), free[i+1:]...)
			if impl.ExprOk(around) && !sameNames(impl.NameFree(around), less) {
				t.Fatalf("%q bound around %v: %q", name, e, impl.NameFree(around))
			}
		}
	}
	for i, e := range wrongExprs() {
		if free := impl.NameFree(e); len(free) != 0 {
			t.Errorf("wrong expression %d: %q", i, free)
		}
	}
}

func TestNameLikeTable(t *testing.T) {
	alike := [][2]string{
		{"fun x -> x", "fun y -> y"}, {"fun x -> fun x -> x", "fun a -> fun b -> b"}, {"x", "x"}, {"fun x -> fun y -> x z", "fun a -> fun b -> a z"},
		{"let x = x in x", "let y = x in y"}, {"rec f x = f x in f x", "rec g y = g y in g x"}, {"rec f x = x in x", "rec f y = y in x"},
		{"case h of nil -> h | h :: t -> h t", "case h of nil -> h | a :: b -> a b"}, {"fun y -> fun x -> y", "fun x -> fun y -> x"},
		{"case 1 of nil -> 2 | a :: b -> b", "case 1 of nil -> 2 | b :: a -> a"}, {"rec a b = a in a", "rec b a = b in b"},
	}
	unlike := [][2]string{
		{"x", "y"}, {"fun x -> fun y -> x", "fun x -> fun y -> y"}, {"fun x -> x", "fun x -> y"}, {"fun x -> y", "fun y -> y"}, {"1", "2"}, {"true", "false"},
		{"x + y", "x - y"}, {"x y", "y x"}, {"nil", "self"}, {"fst x", "snd x"}, {"let x = x in x", "let y = y in y"}, {"x y", "x"},
		{"rec f x = f in f", "rec f x = x in f"}, {"rec f x = f x in x", "rec g y = g y in y"}, {"rec f x = 1 in f", "rec f x = 1 in x"},
		{"case 1 of nil -> h | h :: t -> h", "case 1 of nil -> a | a :: t -> a"}, {"case 1 of nil -> 2 | a :: b -> a", "case 1 of nil -> 2 | a :: b -> b"},
		{"fun x -> fun x -> x", "fun x -> fun y -> x"}, {"spawn x", "out x"}, {"1", "true"}, {"fun x -> 1", "let x = 1 in 1"},
	}
	for want, pairs := range map[bool][][2]string{true: alike, false: unlike} {
		for _, p := range pairs {
			x, y := mustRead(t, p[0]), mustRead(t, p[1])
			if impl.NameLike(x, y) != want || impl.NameLike(y, x) != want {
				t.Errorf("%s and %s: not %v", p[0], p[1], want)
			}
			if sameExpr(impl.NameTidy(x), impl.NameTidy(y)) != want {
				t.Errorf("tidy %s and %s: not %v", p[0], p[1], want)
			}
		}
	}
}

func TestNameLikeWrong(t *testing.T) {
	for i, e := range wrongExprs() {
		if impl.NameLike(e, e) || impl.NameLike(e, number(1)) || impl.NameLike(number(1), e) {
			t.Errorf("wrong expression %d is like one", i)
		}
	}
}

// Of two expressions that would be alike by their parts, one is not ok.
func TestNameLikeOneWrong(t *testing.T) {
	x := variable("x")
	pairs := [][2]impl.Expr{
		{function("x", x), function("in", variable("in"))},
		{function("x", x), function("", variable(""))},
		{function("x", x), {Kind: impl.ExprFun, Name: "x", Tail: "y", Kids: []impl.Expr{x}}},
		{number(1), {Kind: impl.ExprNum, Name: "x", Num: 1}},
		{{Kind: impl.ExprRec, Name: "f", Tail: "g", Kids: []impl.Expr{x, x}}, {Kind: impl.ExprRec, Name: "f", Tail: "f", Kids: []impl.Expr{x, x}}},
	}
	for i, p := range pairs {
		if !impl.ExprOk(p[0]) || impl.ExprOk(p[1]) {
			t.Errorf("pair %d: the second one alone is not ok", i)
		}
		if impl.NameLike(p[0], p[1]) || impl.NameLike(p[1], p[0]) {
			t.Errorf("pair %d is alike", i)
		}
	}
}

// renamed gives one name that an expression binds another spelling; if all tries change what is bound, it is the expression.
func renamed(r *rand.Rand, e impl.Expr) impl.Expr {
	for try := 0; try < 20; try++ {
		out := renamedOnce(r, e)
		if nameless(out, nil, "", "") == nameless(e, nil, "", "") && impl.ExprOk(out) {
			return out
		}
	}
	return e
}

// renamedOnce does so with one that is picked, in the parts in which it is bound, whatever that then catches.
func renamedOnce(r *rand.Rand, e impl.Expr) impl.Expr {
	out := e
	out.Kids = append([]impl.Expr{}, e.Kids...)
	if len(bindsIn(e, len(e.Kids)-1)) > 0 && r.Intn(2) == 0 {
		out.Name = someName(r)
		for i := range out.Kids {
			if slices.Contains(bindsIn(e, i), e.Name) {
				out.Kids[i] = respelt(out.Kids[i], e.Name, out.Name)
			}
		}
		return out
	}
	if len(out.Kids) > 0 {
		i := r.Intn(len(out.Kids))
		out.Kids[i] = renamedOnce(r, out.Kids[i])
	}
	return out
}

// respelt writes a free name in another way, whatever then catches it.
func respelt(e impl.Expr, from string, to string) impl.Expr {
	if e.Kind == impl.ExprVar && e.Name == from {
		e.Name = to
		return e
	}
	kids := append([]impl.Expr{}, e.Kids...)
	for i := range kids {
		if !slices.Contains(bindsIn(e, i), from) {
			kids[i] = respelt(kids[i], from, to)
		}
	}
	e.Kids = kids
	return e
}

// smallExprs are so many expressions of a few parts, to be put into others.
func smallExprs(seed int64, count int) []impl.Expr {
	r := rand.New(rand.NewSource(seed))
	var list []impl.Expr
	for len(list) < count {
		e := someExpr(r, 2+r.Intn(6))
		if impl.ExprOk(e) {
			list = append(list, e)
		}
	}
	return list
}

// P5, P6: to be alike is to have the same tidy expression.
func TestNameLikePromise(t *testing.T) {
	r := rand.New(rand.NewSource(12))
	others := 0
	for _, e := range okExprs(13, 2000) {
		tidy := impl.NameTidy(e)
		other := renamed(r, e)
		if !sameExpr(other, e) {
			others++
		}
		if !impl.NameLike(e, e) || !impl.NameLike(e, tidy) || !impl.NameLike(tidy, e) || !impl.NameLike(e, other) || !impl.NameLike(other, e) {
			t.Fatalf("%v is like %v, and %v", e, tidy, other)
		}
		if !sameNames(impl.NameFree(e), impl.NameFree(other)) || !sameNames(impl.NameFree(e), impl.NameFree(tidy)) {
			t.Fatalf("%v: other free names", e)
		}
		if !impl.ExprOk(tidy) || !sameExpr(impl.NameTidy(tidy), tidy) || !sameExpr(impl.NameTidy(other), tidy) {
			t.Fatalf("%v is not tidied once and for all", e)
		}
	}
	if others < 500 {
		t.Errorf("%d were renamed", others)
	}
}

// fewNames are all expressions of some shapes over two names and w0: many are alike, and many all but so.
func fewNames() []impl.Expr {
	leaves := []impl.Expr{variable("a"), variable("b"), variable("w0")}
	parts := append([]impl.Expr{}, leaves...)
	for _, x := range leaves {
		parts = append(parts, function("a", x), function("b", x), expr(impl.ExprFst, x))
		for _, y := range leaves {
			parts = append(parts, expr(impl.ExprApp, x, y), impl.Expr{Kind: impl.ExprLet, Name: "a", Kids: []impl.Expr{x, y}})
		}
	}
	list := append([]impl.Expr{}, parts...)
	for _, x := range parts {
		for _, names := range [][2]string{{"a", "b"}, {"b", "a"}} {
			list = append(list, function(names[0], x))
			list = append(list, impl.Expr{Kind: impl.ExprCase, Name: names[0], Tail: names[1], Kids: []impl.Expr{leaves[0], leaves[1], x}})
			for _, y := range leaves {
				list = append(list, impl.Expr{Kind: impl.ExprLet, Name: names[0], Kids: []impl.Expr{y, x}})
				list = append(list, impl.Expr{Kind: impl.ExprRec, Name: names[0], Tail: names[1], Kids: []impl.Expr{x, y}})
			}
		}
	}
	return list
}

// P5, P6: of any two expressions all three ways to ask whether they are alike answer the same.
func TestNameLikePairs(t *testing.T) {
	list := fewNames()
	var plain []string
	var tidy []impl.Expr
	for _, e := range list {
		plain = append(plain, nameless(e, nil, "", ""))
		tidy = append(tidy, impl.NameTidy(e))
	}
	likes := 0
	for i, x := range list {
		for j, y := range list {
			want := plain[i] == plain[j]
			if impl.NameLike(x, y) != want || sameExpr(tidy[i], tidy[j]) != want {
				t.Fatalf("%s and %s: alike is not %v", impl.ExprPut(x), impl.ExprPut(y), want)
			}
			if want && i != j {
				likes++
			}
			if want && !sameNames(impl.NameFree(x), impl.NameFree(y)) {
				t.Fatalf("%s and %s: other free names", impl.ExprPut(x), impl.ExprPut(y))
			}
		}
	}
	if likes < 100 {
		t.Errorf("%d were alike", likes)
	}
}

func TestNameTidyTable(t *testing.T) {
	rows := [][2]string{
		{"x", "x"}, {"w0", "w0"}, {"fun x -> x", "fun w0 -> w0"}, {"fun w3 -> w3", "fun w0 -> w0"},
		{"fun x -> w0", "fun w1 -> w0"}, {"fun x -> fun y -> w1 x y", "fun w0 -> fun w2 -> w1 w0 w2"},
		{"(w0, fun w0 -> w0)", "(w0, fun w1 -> w1)"}, {"(fun x -> x, fun y -> y)", "(fun w0 -> w0, fun w0 -> w0)"},
		{"fun x -> fun x -> x", "fun w0 -> fun w1 -> w1"}, {"w2 w0 (fun x -> fun y -> fun z -> z)", "w2 w0 (fun w1 -> fun w3 -> fun w4 -> w4)"},
		{"let x = fun y -> y in fun z -> x", "let w0 = fun w0 -> w0 in fun w1 -> w0"},
		{"rec f x = fun y -> f x y in fun y -> f y", "rec w0 w1 = fun w2 -> w0 w1 w2 in fun w1 -> w0 w1"},
		{"case fun x -> x of nil -> (fun x -> x) | h :: t -> fun x -> h t x", "case fun w0 -> w0 of nil -> (fun w0 -> w0) | w0 :: w1 -> fun w2 -> w0 w1 w2"},
		{"case h of nil -> t | h :: t -> w0", "case h of nil -> t | w1 :: w2 -> w0"},
		{"rec a b = a b in b", "rec w0 w1 = w0 w1 in b"},
		{"w00 (fun x -> x)", "w00 (fun w0 -> w0)"},
	}
	for _, row := range rows {
		if got := impl.ExprPut(impl.NameTidy(mustRead(t, row[0]))); got != row[1] {
			t.Errorf("%s: %s, want %s", row[0], got, row[1])
		}
	}
}

func TestNameTidyDeepest(t *testing.T) {
	e := expr(impl.ExprNil)
	for i := 0; i < impl.DeepMax-1; i++ {
		e = impl.Expr{Kind: impl.ExprCase, Name: "x", Tail: "y", Kids: []impl.Expr{variable("w0"), variable("w9"), e}}
	}
	tidy := impl.NameTidy(e)
	if !impl.ExprOk(e) || !impl.ExprOk(tidy) || tidy.Name != "w1" || tidy.Tail != "w2" {
		t.Fatal(tidy)
	}
	for len(tidy.Kids[2].Kids) > 0 {
		tidy = tidy.Kids[2]
	}
	if tidy.Name != "w26" || tidy.Tail != "w27" {
		t.Error(tidy.Name, tidy.Tail)
	}
	for i, e := range wrongExprs() {
		if !isNothing(impl.NameTidy(e)) {
			t.Errorf("wrong expression %d is tidied", i)
		}
	}
}

func TestNameIntoTable(t *testing.T) {
	rows := [][4]string{
		{"x", "x", "1", "1"}, {"y", "x", "1", "y"}, {"x x", "x", "y z", "y z (y z)"}, {"x + x", "x", "fun a -> a", "(fun a -> a) + (fun a -> a)"},
		{"fun x -> x", "x", "1", "fun x -> x"}, {"fun y -> y", "x", "y", "fun y -> y"}, {"fun a -> x", "x", "y", "fun a -> y"},
		{"fun y -> x y", "x", "y", "fun v0 -> y v0"},
		// v0 is free in x, in the part, in both, or is the name itself
		{"fun y -> x y", "x", "y v0", "fun v1 -> y v0 v1"}, {"fun y -> x y v0", "x", "y", "fun v1 -> y v1 v0"},
		{"fun y -> x y v1", "x", "y v0", "fun v2 -> y v0 v2 v1"}, {"fun y -> v0 y", "v0", "y", "fun v1 -> y v1"}, {"fun y -> v0 y", "v0", "y v1", "fun v2 -> y v1 v2"},
		{"fun v0 -> x v0", "x", "v0", "fun v1 -> v0 v1"}, {"fun v1 -> x v1", "x", "v1", "fun v0 -> v1 v0"},
		// what is given as a new name is bound further in, where the old one is free, or is not
		{"fun y -> fun v0 -> x y", "x", "y", "fun v0 -> fun v1 -> y v0"}, {"fun y -> fun v0 -> x v0", "x", "y", "fun v0 -> fun v0 -> y v0"},
		{"fun y -> fun v0 -> fun v1 -> x y v0 v1", "x", "y", "fun v0 -> fun v1 -> fun v2 -> y v0 v1 v2"},
		{"fun y -> (fun y -> y, x)", "x", "y", "fun v0 -> (fun y -> y, y)"}, {"fun y -> fun y -> x y", "x", "y", "fun v0 -> fun v0 -> y v0"},
		// Let binds in B alone, and steps aside wherever the name is free
		{"let x = x in x", "x", "y", "let v0 = y in v0"}, {"let y = x in y", "x", "y", "let v0 = y in v0"}, {"let y = y in x y", "x", "y", "let v0 = y in y v0"},
		{"let x = x in fun v0 -> x", "x", "1", "let v0 = 1 in fun v1 -> v0"}, {"let y = 1 in y", "x", "y", "let y = 1 in y"},
		{"let x = v0 x in x", "x", "1", "let v1 = v0 1 in v1"}, {"let x = 1 in x", "x", "2", "let x = 1 in x"},
		// Rec: Name in both, Tail in A alone
		{"rec f x = f x in f x", "x", "1", "rec f v0 = f v0 in f 1"}, {"rec f x = f x in f x", "x", "f", "rec v0 v1 = v0 v1 in v0 f"},
		{"rec f a = f a x in f a", "x", "a", "rec f v0 = f v0 a in f a"}, {"rec f a = f a x in f a", "x", "f a", "rec v0 v1 = v0 v1 (f a) in v0 a"},
		{"rec x a = x a in x", "x", "1", "rec x a = x a in x"}, {"rec f v0 = f v0 in f x", "x", "f", "rec v1 v0 = v1 v0 in v1 f"},
		{"rec v0 a = v0 a in v0 x", "x", "a", "rec v0 v1 = v0 v1 in v0 a"}, {"rec f a = 1 in x", "x", "a", "rec f v0 = 1 in a"},
		{"rec v0 a = 1 in x", "x", "a", "rec v0 v1 = 1 in a"}, {"rec f v0 = 1 in x", "x", "f v0", "rec v1 v2 = 1 in f v0"},
		// Case: both in C alone
		{"case x of nil -> x | h :: t -> x h t", "x", "1", "case 1 of nil -> 1 | h :: t -> 1 h t"},
		{"case x of nil -> h | h :: t -> h t", "x", "h", "case h of nil -> h | v0 :: t -> v0 t"},
		{"case x of nil -> t | h :: t -> h t", "x", "t", "case t of nil -> t | h :: v0 -> h v0"},
		{"case x of nil -> 0 | x :: t -> x t", "x", "t", "case t of nil -> 0 | v0 :: v1 -> v0 v1"},
		{"case x of nil -> 0 | h :: x -> h x", "x", "h", "case h of nil -> 0 | v0 :: v1 -> v0 v1"},
		{"case x of nil -> v0 | h :: t -> h t", "x", "h t", "case h t of nil -> v0 | v1 :: v2 -> v1 v2"},
		{"case x of nil -> 0 | h :: v0 -> h v0", "x", "h", "case h of nil -> 0 | v1 :: v0 -> v1 v0"},
		{"case x of nil -> 0 | v0 :: t -> v0 t", "x", "t", "case t of nil -> 0 | v0 :: v1 -> v0 v1"},
		{"case x of nil -> 0 | v1 :: v0 -> v1 v0", "x", "v0 v1", "case v0 v1 of nil -> 0 | v2 :: v3 -> v2 v3"},
		{"case 1 of nil -> 0 | x :: t -> x", "x", "t", "case 1 of nil -> 0 | x :: t -> x"},
		// where the name is not free, nothing steps aside
		{"(fun y -> y, x)", "x", "y", "(fun y -> y, y)"}, {"(fun x -> fun y -> x, fun y -> x)", "x", "y", "(fun x -> fun y -> x, fun v0 -> y)"},
		{"fun y -> x y", "x", "x", "fun y -> x y"}, {"fun y -> x y", "x", "fun y -> y", "fun y -> (fun y -> y) y"},
	}
	for _, row := range rows {
		got, ok := impl.NameInto(mustRead(t, row[0]), row[1], mustRead(t, row[2]))
		if s := impl.ExprPut(got); !ok || s != row[3] {
			t.Errorf("%s for %s in %s: %s %v, want %s", row[2], row[1], row[0], s, ok, row[3])
		}
	}
}

func TestNameIntoSizes(t *testing.T) {
	pair := expr(impl.ExprPair, variable("z"), number(1))
	if out, ok := impl.NameInto(pair, "z", grown(impl.NodeMax-2)); !ok || partsOf(out) != impl.NodeMax {
		t.Error("NodeMax parts are ok")
	}
	if out, ok := impl.NameInto(pair, "z", grown(impl.NodeMax-1)); ok || !isNothing(out) {
		t.Error("a part more is not")
	}
	if out, ok := impl.NameInto(pair, "z", chained(impl.DeepMax-2)); !ok || deepOf(out) != impl.DeepMax {
		t.Error("a part in DeepMax - 1 others is ok")
	}
	if out, ok := impl.NameInto(pair, "z", chained(impl.DeepMax-1)); ok || !isNothing(out) {
		t.Error("a part in one more is not")
	}
	if out, ok := impl.NameInto(grown(impl.NodeMax), "z", grown(impl.NodeMax)); !ok || !sameExpr(out, grown(impl.NodeMax)) {
		t.Error("where the name is not free nothing is put in")
	}
	if out, ok := impl.NameInto(grown(impl.NodeMax), "x", grown(impl.NodeMax)); ok || !isNothing(out) {
		t.Error("far too many parts are not ok")
	}
	for i, e := range wrongExprs() {
		for _, out := range []func() (impl.Expr, bool){
			func() (impl.Expr, bool) { return impl.NameInto(e, "x", number(1)) },
			func() (impl.Expr, bool) { return impl.NameInto(variable("x"), "x", e) },
			func() (impl.Expr, bool) { return impl.NameInto(variable("y"), "x", e) },
		} {
			if got, ok := out(); ok || !isNothing(got) {
				t.Errorf("wrong expression %d is taken", i)
			}
		}
	}
	for _, name := range []string{"", "in", "abcde", "X", "1", "x "} {
		if got, ok := impl.NameInto(variable("x"), name, number(1)); ok || !isNothing(got) {
			t.Errorf("%q is taken as a name", name)
		}
	}
}

// P7: what is put in keeps its names. P8: what is bound does not matter to it.
func TestNameIntoPromise(t *testing.T) {
	r := rand.New(rand.NewSource(21))
	list, inner := okExprs(22, 3000), smallExprs(23, 3000)
	done := 0
	for i, e := range list {
		x, name := inner[i], someName(r)
		out, ok := impl.NameInto(e, name, x)
		tidied, tidyOk := impl.NameInto(impl.NameTidy(e), name, x)
		if ok != tidyOk || ok && !impl.NameLike(out, tidied) {
			t.Fatalf("%v: not as of the tidy one", e)
		}
		if itself, ok := impl.NameInto(e, name, variable(name)); !ok || !impl.NameLike(itself, e) {
			t.Fatalf("%v: %q for itself", e, name)
		}
		free := impl.NameFree(e)
		if !ok {
			if !isNothing(out) || !slices.Contains(free, name) {
				t.Fatalf("%v: false", e)
			}
			continue
		}
		if !slices.Contains(free, name) {
			if !sameExpr(out, e) {
				t.Fatalf("%v does not stay as it is", e)
			}
			continue
		}
		done++
		want := nameless(e, nil, name, nameless(x, nil, "", ""))
		if got := nameless(out, nil, "", ""); got != want || !impl.ExprOk(out) {
			t.Fatalf("%s for %s in %s: %s", impl.ExprPut(x), name, impl.ExprPut(e), impl.ExprPut(out))
		}
		both := slices.DeleteFunc(slices.Clone(free), func(s string) bool { return s == name })
		both = append(both, impl.NameFree(x)...)
		slices.Sort(both)
		if !sameNames(impl.NameFree(out), slices.Compact(both)) {
			t.Fatalf("%v: free names %q, want %q", e, impl.NameFree(out), both)
		}
	}
	if done < 500 {
		t.Errorf("%d were put in", done)
	}
}

// Names that the program gives, nested as deep as can be, with all of them in use.
func TestNameIntoNested(t *testing.T) {
	r := rand.New(rand.NewSource(24))
	names := []string{"v0", "v1", "v2", "v3", "v4", "v5", "v6", "x", "y"}
	for try := 0; try < 300; try++ {
		e := variable("x")
		for i := 0; i < 3; i++ {
			e = expr(impl.ExprPair, e, variable(names[r.Intn(len(names))]))
		}
		for deepOf(e) < impl.DeepMax {
			name, tail := names[r.Intn(len(names))], names[r.Intn(len(names))]
			switch {
			case name == tail || name == "x":
				e = function("v0", e)
			case tail == "x":
				e = impl.Expr{Kind: impl.ExprRec, Name: name, Tail: "z", Kids: []impl.Expr{e, variable(names[r.Intn(len(names))])}}
			default:
				e = impl.Expr{Kind: impl.ExprCase, Name: name, Tail: tail, Kids: []impl.Expr{variable("v1"), variable("x"), e}}
			}
		}
		x := expr(impl.ExprPair, variable(names[r.Intn(7)]), variable(names[r.Intn(7)]))
		out := nameless(e, nil, "x", nameless(x, nil, "", ""))
		got, ok := impl.NameInto(e, "x", x)
		if ok && nameless(got, nil, "", "") != out {
			t.Fatalf("%s in %s: %s", impl.ExprPut(x), impl.ExprPut(e), impl.ExprPut(got))
		}
	}
}

func TestNamesAreNewMemory(t *testing.T) {
	inner := smallExprs(31, 1000)
	for i, e := range okExprs(32, 1000) {
		a, x := withSpare(e), withSpare(inner[i])
		arguments, before := []impl.Expr{a, x}, []impl.Expr{e, inner[i]}
		for _, name := range []string{"x", "y", "v0", "abc"} {
			out, _ := impl.NameInto(a, name, x)
			keepsToItself(t, "NameInto", out, arguments, before)
		}
		keepsToItself(t, "NameTidy", impl.NameTidy(a), arguments, before)
		first := impl.NameFree(a)
		for j := range first {
			first[j] = "gone"
		}
		if !sameNames(impl.NameFree(a), freeNames(e)) {
			t.Fatal("NameFree hands out something that it keeps")
		}
		impl.NameLike(a, x)
		keepsToItself(t, "NameLike", impl.Expr{}, arguments, before)
		for _, kid := range e.Kids {
			if out, ok := impl.NameInto(kid, "abc", x); ok && len(kid.Kids) == 0 && out.Kids != nil {
				t.Fatal("no parts are nothing")
			}
		}
	}
	both := expr(impl.ExprPair, variable("x"), variable("x"))
	out, ok := impl.NameInto(both, "x", expr(impl.ExprFst, number(1)))
	if !ok {
		t.Fatal("not put in")
	}
	out.Kids[0].Kids[0].Num = 2
	if out.Kids[1].Kids[0].Num != 1 {
		t.Error("what is put in twice is there twice")
	}
}
