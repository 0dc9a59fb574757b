package tests

import (
	"math/rand"
	"slices"
	"strings"
	"testing"

	"loop.example/ensemble/impl"
)

// asksCode asks that texts of expressions have just such code, ops with `;` between.
func asksCode(t *testing.T, rows [][2]string) {
	t.Helper()
	for _, row := range rows {
		list, ok := impl.CodeOf(mustRead(t, row[0]))
		want := opsOf(row[1])
		if !ok || !slices.Equal(list, want) {
			t.Errorf("%s: %q, want %q", row[0], codeLines(list), codeLines(want))
		}
	}
}

func TestCodeOfKinds(t *testing.T) {
	asksCode(t, [][2]string{
		{"999999", "num 999999; give"},
		{"false", "bool 0; give"},
		{"true", "bool 1; give"},
		{"nil", "nil; give"},
		{"self", "self; give"},
		{"recv", "recv; give"},
		{"(1, nil)", "num 1; nil; pair; give"},
		{"1 :: 2 :: nil", "num 1; num 2; nil; cons; cons; give"},
		{"fst (1, 2)", "num 1; num 2; pair; fst; give"},
		{"snd (1, 2)", "num 1; num 2; pair; snd; give"},
		{"7 + 2", "num 7; num 2; op 1; give"},
		{"7 - 2", "num 7; num 2; op 2; give"},
		{"7 * 2", "num 7; num 2; op 3; give"},
		{"7 / 2", "num 7; num 2; op 4; give"},
		{"7 < 2", "num 7; num 2; op 5; give"},
		{"7 = 2", "num 7; num 2; op 6; give"},
		{"send self 1", "self; num 1; send; give"},
		{"out 1", "num 1; out; give"},
		{"link self", "self; link; give"},
		{"fun x -> 1", "fun 2; give; num 1; give"},
		{"(fun x -> x) 3", "fun 4; num 3; call; give; var 0; give"},
		{"spawn (fun x -> x)", "fun 3; spawn; give; var 0; give"},
		{"let x = 1 in 2", "num 1; bind; num 2; drop 1; give"},
		{"rec f x = 1 in 2", "rec 5; bind; num 2; drop 1; give; num 1; give"},
		{"if true then 1 else 2", "bool 1; if 4; num 1; go 5; num 2; give"},
		{"case nil of nil -> 1 | h :: t -> h", "nil; case 5; var 1; drop 2; go 6; num 1; give"},
	})
}

// How many names were bound later, where what binds them stands in each other, and where a name hides another one.
func TestCodeOfNames(t *testing.T) {
	asksCode(t, [][2]string{
		{"let x = 1 in x", "num 1; bind; var 0; drop 1; give"},
		{"let x = 1 in let y = x in x + y", "num 1; bind; var 0; bind; var 1; var 0; op 1; drop 1; drop 1; give"},
		{"let x = let y = 1 in y in x", "num 1; bind; var 0; drop 1; bind; var 0; drop 1; give"},
		{"(let x = 1 in x) + (let y = 2 in y)", "num 1; bind; var 0; drop 1; num 2; bind; var 0; drop 1; op 1; give"},
		{"let x = 1 in let x = x in x", "num 1; bind; var 0; bind; var 0; drop 1; drop 1; give"},
		{"fun x -> fun y -> fun z -> (x, (y, z))", "fun 2; give; fun 4; give; fun 6; give; var 2; var 1; var 0; pair; pair; give"},
		{"fun x -> fun y -> fun x -> (x, y)", "fun 2; give; fun 4; give; fun 6; give; var 0; var 1; pair; give"},
		{"let a = 1 in fun x -> let b = x in (a, (x, b))", "num 1; bind; fun 5; drop 1; give; var 0; bind; var 2; var 1; var 0; pair; pair; drop 1; give"},
		{"rec f x = f x in f", "rec 5; bind; var 0; drop 1; give; var 1; var 0; call; give"},
		{"let a = 1 in rec f x = a in f a", "num 1; bind; rec 10; bind; var 0; var 1; call; drop 1; drop 1; give; var 2; give"},
		{"rec f x = fun f -> (x, f) in f", "rec 5; bind; var 0; drop 1; give; fun 7; give; var 1; var 0; pair; give"},
		{"rec f x = rec g f = (x, f) in g in f", "rec 5; bind; var 0; drop 1; give; rec 10; bind; var 0; drop 1; give; var 2; var 0; pair; give"},
		{"rec f x = x in rec f x = x in f 1", "rec 10; bind; rec 12; bind; var 0; num 1; call; drop 1; drop 1; give; var 0; give; var 0; give"},
		{"fun l -> case l of nil -> l | h :: t -> t", "fun 2; give; var 0; case 7; var 0; drop 2; go 8; var 0; give"},
		{"fun l -> case l of nil -> l | h :: t -> h :: l", "fun 2; give; var 0; case 9; var 1; var 2; cons; drop 2; go 10; var 0; give"},
		{"fun l -> case l of nil -> nil | l :: t -> l :: t", "fun 2; give; var 0; case 9; var 1; var 0; cons; drop 2; go 10; nil; give"},
		{"fun l -> case l of nil -> nil | h :: l -> l", "fun 2; give; var 0; case 7; var 0; drop 2; go 8; nil; give"},
		{"fun l -> case l of nil -> 0 | h :: t -> case t of nil -> h | h :: l -> h", "fun 2; give; var 0; case 12; var 0; case 9; var 1; drop 2; go 10; var 1; drop 2; go 13; num 0; give"},
		{"fun l -> (case l of nil -> 0 | h :: t -> 1, l)", "fun 2; give; var 0; case 7; num 1; drop 2; go 8; num 0; var 0; pair; give"},
		{"fun x -> if x then x else x", "fun 2; give; var 0; if 6; var 0; go 7; var 0; give"},
	})
}

// Bodies stand behind the code in the order in which the ops that make them stand there, those of bodies behind all others.
func TestCodeOfBodies(t *testing.T) {
	asksCode(t, [][2]string{
		{"(fun a -> fun b -> 1, fun c -> 2)", "fun 4; fun 6; pair; give; fun 8; give; num 2; give; num 1; give"},
		{"case (fun a -> 1) :: nil of nil -> (fun b -> 2) | h :: t -> fun c -> 3", "fun 9; nil; cons; case 7; fun 11; drop 2; go 8; fun 13; give; num 1; give; num 3; give; num 2; give"},
		{"rec f x = fun y -> 1 in fun z -> 2", "rec 5; bind; fun 7; drop 1; give; fun 9; give; num 2; give; num 1; give"},
		{"if true then fun a -> 1 else fun b -> 2", "bool 1; if 4; fun 6; go 5; fun 8; give; num 1; give; num 2; give"},
		{"let f = fun a -> fun b -> 1 in rec g x = fun c -> 2 in 3", "fun 8; bind; rec 10; bind; num 3; drop 1; drop 1; give; fun 12; give; fun 14; give; num 1; give; num 2; give"},
	})
}

// CodeOf against code that is made with labels, and what it does against what the words mean.
func TestCodeOfLabelled(t *testing.T) {
	for _, e := range withTypes(301, 4000) {
		list, ok := impl.CodeOf(e)
		if text := codeLabelled(e); !ok || codeLines(list) != text {
			t.Fatalf("%s: %q, want %q", impl.ExprPut(e), codeLines(list), text)
		}
		value, want := impl.EvalOf(e)
		if v, w := codeDone(list); v != value || w != want {
			t.Fatalf("%s: its code does %q %d, it means %q %d", impl.ExprPut(e), v, w, value, want)
		}
	}
}

func opsOfKinds(list []impl.Op, kinds ...int) int {
	n := 0
	for _, op := range list {
		if slices.Contains(kinds, op.Kind) {
			n++
		}
	}
	return n
}

// P17: code can be run, and does not hang on names that are bound. No expression that is ok has more than CodeMax ops.
func TestCodeOfPromise(t *testing.T) {
	r := rand.New(rand.NewSource(302))
	for _, e := range withTypes(303, 3000) {
		list, ok := impl.CodeOf(e)
		if !ok || !impl.CodeOk(list) {
			t.Fatalf("%s: %q is not ok", impl.ExprPut(e), codeLines(list))
		}
		if opsOfKinds(list, impl.CodeGive) != 1+opsOfKinds(list, impl.CodeFun, impl.CodeRec) || list[len(list)-1].Kind != impl.CodeGive {
			t.Fatalf("%s: %q", impl.ExprPut(e), codeLines(list))
		}
		for _, like := range []impl.Expr{impl.NameTidy(e), renamed(r, e)} {
			if other, ok := impl.CodeOf(like); !ok || !slices.Equal(other, list) {
				t.Fatalf("%s: other code than %s", impl.ExprPut(like), impl.ExprPut(e))
			}
		}
	}
}

// The longest code of all has ExprRec wherever it can be.
func TestCodeOfLongest(t *testing.T) {
	recs := 0
	var grow func(deep int) impl.Expr
	grow = func(deep int) impl.Expr {
		if deep == 0 || recs == 29 {
			return number(1)
		}
		recs++
		return impl.Expr{Kind: impl.ExprRec, Name: "f", Tail: "x", Kids: []impl.Expr{grow(deep - 1), grow(deep - 1)}}
	}
	e := grow(12)
	list, ok := impl.CodeOf(e)
	if recs != 29 || !ok || len(list) != 29*4+30+1 || !impl.CodeOk(list) || codeLines(list) != codeLabelled(e) {
		t.Error(recs, ok, len(list))
	}
}

func TestCodeOfWrong(t *testing.T) {
	list := append(wrongExprs(), mustRead(t, "x"), mustRead(t, "1 + true"), mustRead(t, "fun x -> x x"), mustRead(t, "fun x -> y"), mustRead(t, "let x = x in 1"))
	for _, e := range list {
		if ops, ok := impl.CodeOf(e); ok || len(ops) > 0 {
			t.Errorf("%d ops of what has no type", len(ops))
		}
	}
}

// asksOk asks which code is ok, ops with `;` between; what is, is written and read back, and what is not is not written.
func asksOk(t *testing.T, want bool, texts ...string) {
	t.Helper()
	for _, text := range texts {
		list := opsOf(text)
		if impl.CodeOk(list) != want {
			t.Errorf("%s: ok is not %v", text, want)
		}
		if s := impl.CodePut(list); (s != "") != want || want && s != codeLines(list) {
			t.Errorf("%s: written as %q", text, s)
		}
		if got, ok := impl.CodeGet(codeLines(list)); ok != want || want && !slices.Equal(got, list) || !want && len(got) > 0 {
			t.Errorf("%s: read as %v %v", text, got, ok)
		}
	}
}

// Each op with just as many values, or names, ahead of it as it takes, and with one less.
func TestCodeOkStands(t *testing.T) {
	asksOk(t, true, "num 1; give", "bool 0; give", "nil; give", "self; give", "recv; give", "go 0",
		"num 1; fst; give", "num 1; snd; give", "num 1; spawn; give", "num 1; out; give", "num 1; link; give",
		"num 1; nil; call; give", "nil; nil; pair; give", "nil; nil; cons; give", "nil; nil; op 1; give", "nil; nil; send; give",
		"nil; bind; var 0; drop 1; give", "nil; bind; nil; bind; var 1; drop 2; give", "nil; bind; nil; bind; var 0; drop 1; drop 1; give",
		"nil; bind; nil; give", "nil; bind; drop 1; nil; give",
		"nil; if 2; nil; give", "nil; if 4; nil; give; bool 1; give", "nil; case 4; var 1; give; nil; give", "nil; case 4; var 0; give; nil; give",
		"fun 2; give; var 0; give", "rec 2; give; var 1; give", "nil; bind; fun 4; give; var 1; give", "nil; bind; rec 4; give; var 2; give",
		"nil; fun 4; pair; give; nil; give", "go 1; nil; give", "nil; go 2; give", "go 2; give; nil; go 1")
	asksOk(t, false, "give", "nil; nil; give", "fst; give", "snd; give", "spawn; give", "out; give", "link; give",
		"nil; call; give", "nil; pair; give", "nil; cons; give", "nil; op 1; give", "nil; send; give", "call; give", "pair; give", "cons; give", "op 1; give", "send; give",
		"bind; nil; give", "if 1; nil; give", "case 3; nil; give; nil; give",
		"var 0; give", "nil; bind; var 1; give", "nil; drop 1; give", "nil; bind; nil; drop 2; give", "nil; bind; nil; drop 1; drop 1; give",
		"nil; case 4; var 2; give; nil; give", "nil; case 4; nil; give; var 0; give",
		"fun 2; give; var 1; give", "rec 2; give; var 2; give", "nil; bind; fun 4; give; var 2; give", "nil; bind; rec 4; give; var 3; give",
		"nil; fun 3; give; give", "fun 2; give; give", "nil; bind; give", "nil; drop 2; give")
}

// Two ways that lead to an op with other numbers of names or values, and what may stand last.
func TestCodeOkWays(t *testing.T) {
	asksOk(t, true, "nil; if 4; nil; go 5; nil; give", "nil; go 1",
		"nil; bind; drop 1; go 0", "nil; if 0; go 0", "nil; case 0; drop 2; go 0", "fun 3; bind; go 5; nil; give; nil; give",
		"fun 4; fun 4; pair; give; var 0; give", "nil; bind; rec 4; give; fun 6; give; var 3; give")
	asksOk(t, false, "nil; if 3; nil; give", "nil; go 0", "nil; bind; go 0", "nil; if 4; nil; bind; nil; give", "nil; case 2; nil; give",
		"fun 0; give", "rec 0; give", "fun 1; give", "fun 4; rec 4; pair; give; var 0; give", "nil; bind; fun 5; bind; fun 5; nil; give",
		"nil; case 3; drop 2; drop 1; nil; give", "nil; case 2; drop 1; nil; give",
		"nil", "nil; fst", "nil; bind", "nil; bind; drop 1", "nil; if 0", "nil; case 0", "fun 0", "nil; nil; pair")
}

// What leads is asked of ops in bodies, too; of those to which nothing leads Num alone.
func TestCodeOkNothingLeads(t *testing.T) {
	asksOk(t, true, "nil; give; give", "nil; give; fst", "nil; give; nil; nil; give", "nil; give; var 60", "nil; give; drop 2", "nil; give; go 4; bind; go 3", "nil; give; nil", "go 0; fun 0", "nil; give; bind; if 2; case 0")
	asksOk(t, false, "nil; give; var 61", "nil; give; drop 3", "nil; give; drop 0", "nil; give; go 3", "nil; give; bool 2", "nil; give; num 1000000", "nil; give; op 7", "nil; give; op 0", "nil; give; num -1",
		"fun 2; give; nil", "fun 2; give; fst; give", "rec 2; give; nil; nil; give")
	for _, kind := range []int{0, -1, 25, 28, 1 << 40} {
		if impl.CodeOk([]impl.Op{{Kind: impl.CodeNil}, {Kind: impl.CodeGive}, {Kind: kind}}) || impl.CodeOk([]impl.Op{{Kind: kind}, {Kind: impl.CodeGive}}) {
			t.Errorf("kind %d is ok", kind)
		}
	}
}

// Each op with the least and the greatest Num that it has, and with one less and one more; places are those of ops.
func TestCodeOkNums(t *testing.T) {
	for kind := 1; kind <= 24; kind++ {
		for size := 2; size <= 5; size++ {
			list := []impl.Op{{Kind: impl.CodeGo}}
			for len(list) < size {
				list = append(list, impl.Op{Kind: impl.CodeNil})
			}
			least, most := numBounds(kind, size)
			for _, num := range []int{least - 1, least, most, most + 1, -1 << 63, 1<<63 - 1} {
				list[1] = impl.Op{Kind: kind, Num: num}
				want := num >= least && num <= most
				if impl.CodeOk(list) != want || (impl.CodePut(list) == codeLines(list)) != want {
					t.Errorf("%q of %d ops is not %v", codeLines(list), size, want)
				}
			}
		}
	}
	asksOk(t, true, "nil; go 2; give", "go 1; go 0")
	asksOk(t, false, "nil; go 3; give", "go 1", "go -1", "nil; if 4; nil; give", "nil; if -1; nil; give", "nil; case 5; nil; give; nil", "nil; case -1; nil; give", "fun 2; give", "fun -1; give", "rec 2; give", "rec -1; give")
}

// many is code of just so many ops.
func many(size int) []impl.Op {
	list := []impl.Op{{Kind: impl.CodeNil}}
	for len(list) < size-1 {
		list = append(list, impl.Op{Kind: impl.CodeFst})
	}
	return append(list, impl.Op{Kind: impl.CodeGive})[:size]
}

func TestCodeOkSizes(t *testing.T) {
	if impl.CodeOk(nil) || impl.CodeOk([]impl.Op{}) || impl.CodePut(nil) != "" {
		t.Error("code without ops")
	}
	loop := []impl.Op{{Kind: impl.CodeGo}}
	if !impl.CodeOk(loop) || impl.CodePut(loop) != "go 0\n" {
		t.Error("code of one op")
	}
	for _, size := range []int{2, 3, impl.CodeMax - 1, impl.CodeMax, impl.CodeMax + 1, 5000} {
		list := many(size)
		want := size <= impl.CodeMax
		if impl.CodeOk(list) != want || (impl.CodePut(list) != "") != want {
			t.Errorf("%d ops are not %v", size, want)
		}
		if got, ok := impl.CodeGet(codeLines(list)); ok != want || want && !slices.Equal(got, list) || !want && len(got) > 0 {
			t.Errorf("%d ops are read %v", size, ok)
		}
	}
	names := ""
	for i := 0; i < impl.NodeMax+2; i++ {
		names += "nil; bind; "
	}
	asksOk(t, true, names+"var 60; give")
	asksOk(t, false, names+"var 61; give")
}

// CodeOk against all ways gone one by one, of code of expressions in which little was changed, and of short code.
func TestCodeOkGone(t *testing.T) {
	r := rand.New(rand.NewSource(304))
	fit, tried := 0, 0
	try := func(list []impl.Op) {
		want := codeFits(list)
		tried++
		if want {
			fit++
		}
		if impl.CodeOk(list) != want {
			t.Fatalf("%v: ok is not %v", list, want)
		}
		text := impl.CodePut(list)
		if (text != "") != want {
			t.Fatalf("%v: written as %q", list, text)
		}
		if got, ok := impl.CodeGet(text); ok != want || want && !slices.Equal(got, list) {
			t.Fatalf("%q: read as %v", text, got)
		}
	}
	for _, e := range withTypes(305, 1500) {
		list, _ := impl.CodeOf(e)
		try(list)
		for i := 0; i < 8; i++ {
			try(changedCode(r, list))
		}
	}
	for i := 0; i < 60000; i++ {
		var list []impl.Op
		for n := 1 + r.Intn(6); n > 0; n-- {
			list = append(list, someOp(r, n+2))
		}
		try(append(list, impl.Op{Kind: impl.CodeGive}))
	}
	if fit < 5000 || tried-fit < 5000 {
		t.Errorf("of %d are ok %d", tried, fit)
	}
}

// someOp is an op, whose Num mostly is one that it has in code of so many.
func someOp(r *rand.Rand, size int) impl.Op {
	kind := 1 + r.Intn(24)
	least, most := numBounds(kind, size)
	num := least + r.Intn(min(most-least+1, 4))
	if r.Intn(40) == 0 {
		num = []int{least - 1, most + 1}[r.Intn(2)]
	}
	return impl.Op{Kind: kind, Num: num}
}

// changedCode is code in which some ops are others, are gone, or were put in.
func changedCode(r *rand.Rand, list []impl.Op) []impl.Op {
	out := slices.Clone(list)
	for n := 1 + r.Intn(2); n > 0 && len(out) > 0; n-- {
		at := r.Intn(len(out))
		switch r.Intn(4) {
		case 0:
			out[at].Num += r.Intn(5) - 2
		case 1:
			out[at] = someOp(r, len(out))
		case 2:
			out = slices.Delete(out, at, at+1)
		default:
			out = slices.Insert(out, at, someOp(r, len(out)))
		}
	}
	return out
}

// Each word, with a Num behind, if it has one, and a newline.
func TestCodePutWords(t *testing.T) {
	for kind := 1; kind <= 24; kind++ {
		least, _ := numBounds(kind, 2)
		list := []impl.Op{{Kind: impl.CodeGo}, {Kind: kind, Num: least}}
		text := impl.CodePut(list)
		if text != codeLines(list) || !strings.HasPrefix(text, "go 0\n"+opWords[kind-1]) {
			t.Errorf("%d: %q", kind, text)
		}
		if got, ok := impl.CodeGet(text); !ok || !slices.Equal(got, list) {
			t.Errorf("%q: %v %v", text, got, ok)
		}
	}
}

// wrongCodes are texts that no code has, though they are near to some.
func wrongCodes() []string {
	texts := []string{
		"", "\n", " ", "num 1\ngive", "num 1\n\ngive\n", "num 1\ngive\n\n", "\nnum 1\ngive\n", "num 01\ngive\n", "num 00\ngive\n", "num +1\ngive\n", "num -0\ngive\n", "num -1\ngive\n",
		"num  1\ngive\n", " num 1\ngive\n", "num 1 \ngive\n", "num 1\ngive \n", "num 1\n give\n", "num 1\ngive\n ", "num\t1\ngive\n", "num1\ngive\n", "num\ngive\n", "num \ngive\n", "num x\ngive\n", "num 1 1\ngive\n",
		"num 1\r\ngive\r\n", "num 1 give\n", "num 1;give\n", "NUM 1\ngive\n", "Num 1\ngive\n", "1 1\ngive\n", "num 1\ngive 0\n", "nil 0\ngive\n", "nil\ngive\nbind 0\n", "num 0x1\ngive\n", "num 1_0\ngive\n", "num 1.0\ngive\n", "num 1e1\ngive\n",
		"num 1000000\ngive\n", "num 99999999999999999999\ngive\n", "bool 2\ngive\n", "bool true\ngive\n", "true\ngive\n", "num 1\n", "give\n", "nothing\ngive\n", "nil\ngive\nx\n", "nil\x00\ngive\n", "nil\ngive\n\x00", "go 00\n", "go 0", "go\n", "go 1\n",
		"nil\ngive\nop\n", "nil\ngive\nop 0\n", "nil\ngive\ndrop\n", "n\u00fcll\ngive\n", "\xff\ngive\n", "nil\n\ngive\n", "nil\vgive\n", "nil\u2028give\n", "num ١\ngive\n",
	}
	for _, size := range []int{12*impl.CodeMax - 1, 12 * impl.CodeMax, 12*impl.CodeMax + 1, 100000} {
		texts = append(texts, strings.Repeat(" ", size), strings.Repeat("\n", size), "go 0\n"+strings.Repeat("0", size-5), "nil\ngive\n"+strings.Repeat(" ", size-9), "num "+strings.Repeat("0", size-10)+"1\ngive\n", "go 0\n"+strings.Repeat("nil\n", size/4))
	}
	return texts
}

func TestCodeGetRefuses(t *testing.T) {
	for _, s := range wrongCodes() {
		if list, ok := impl.CodeGet(s); ok || len(list) > 0 {
			t.Errorf("%.40q: %v %v", s, list, ok)
		}
	}
	long := []impl.Op{{Kind: impl.CodeGo}}
	for len(long) < impl.CodeMax {
		long = append(long, impl.Op{Kind: impl.CodeNum, Num: 999999})
	}
	text := impl.CodePut(long)
	if got, ok := impl.CodeGet(text); !ok || !slices.Equal(got, long) || len(text) != 5+199*11 {
		t.Error("the longest text of code is not read")
	}
	if got, ok := impl.CodeGet(text + "nil\n"); ok || len(got) > 0 {
		t.Error("an op too many is read")
	}
}

// P18 and P19: code is read back from how it is written, and what is read is written just so.
func TestCodeGetPromise(t *testing.T) {
	r := rand.New(rand.NewSource(306))
	read, refused := 0, 0
	for _, e := range withTypes(307, 1000) {
		list, _ := impl.CodeOf(e)
		text := impl.CodePut(list)
		if got, ok := impl.CodeGet(text); !ok || !slices.Equal(got, list) {
			t.Fatalf("%q: read as %v %v", text, got, ok)
		}
		for i := 0; i < 20; i++ {
			s := changedText(r, text)
			got, ok := impl.CodeGet(s)
			if !ok && len(got) > 0 || ok && (impl.CodePut(got) != s || !impl.CodeOk(got)) {
				t.Fatalf("%q: read as %v %v", s, got, ok)
			}
			if ok {
				read++
			} else {
				refused++
			}
		}
	}
	if read < 500 || refused < 5000 {
		t.Errorf("%d are read, %d are not", read, refused)
	}
}

// changedText is a text in which a byte is another, is gone, or was put in, or a line stands twice, or is gone.
func changedText(r *rand.Rand, s string) string {
	bytes := "0123456789 \nnumgivearbl-+"
	at := r.Intn(len(s))
	b := string(bytes[r.Intn(len(bytes))])
	lines := strings.SplitAfter(s, "\n")
	line := r.Intn(len(lines))
	switch r.Intn(5) {
	case 0:
		return s[:at] + b + s[at+1:]
	case 1:
		return s[:at] + s[at+1:]
	case 2:
		return s[:at] + b + s[at:]
	case 3:
		return strings.Join(slices.Insert(lines, line, lines[line]), "")
	}
	return strings.Join(slices.Delete(lines, line, line+1), "")
}

// Nothing is written into code, nor behind it, and answers are new each time.
func TestCodeKeepsArguments(t *testing.T) {
	for _, e := range withTypes(308, 300) {
		spare := withSpare(e)
		list, _ := impl.CodeOf(spare)
		if !sameExpr(spare, e) || !spareKept(spare) {
			t.Fatalf("%s was written into", impl.ExprPut(e))
		}
		was := slices.Clone(list)
		room := append(slices.Clone(list), many(20)...)
		text := impl.CodePut(room[:len(list)])
		if !impl.CodeOk(room[:len(list)]) || !slices.Equal(room, append(slices.Clone(was), many(20)...)) {
			t.Fatalf("%q was written into", text)
		}
		first, _ := impl.CodeGet(text)
		second, _ := impl.CodeGet(text)
		clear(first[:cap(first)])
		clear(list[:cap(list)])
		if again, _ := impl.CodeOf(e); !slices.Equal(again, was) || !slices.Equal(second, was) {
			t.Fatalf("%q: answers share memory", text)
		}
	}
}
