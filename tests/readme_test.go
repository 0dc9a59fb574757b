package tests

import (
	"testing"

	"loop.example/ensemble/impl"
)

func TestReadmeExample(t *testing.T) {
	e, _ := impl.ExprGet("fun y -> x y")
	x, _ := impl.ExprGet("(y, 1)")
	out, ok := impl.NameInto(e, "x", x)
	if !ok || impl.ExprPut(out) != "fun v0 -> (y, 1) v0" || !sameNames(impl.NameFree(out), []string{"y"}) || impl.ExprPut(impl.NameTidy(out)) != "fun w0 -> (y, 1) w0" {
		t.Error(impl.ExprPut(out))
	}
	e, _ = impl.ExprGet("let i = fun x -> x in (i (7 / 2), i nil)")
	if kind, told, ok := impl.TypeOf(e); !ok || kind != "int * a list" || told != "b" {
		t.Error(kind, told, ok)
	}
	if value, want := impl.EvalOf(e); value != "(3, nil)" || want != impl.WantDone {
		t.Error(value, want)
	}
	if kind, ok := impl.TypeMeet("a -> b list", "int -> c"); !ok || kind != "int -> a list" || !impl.TypeMore("a -> b", kind) {
		t.Error(kind, ok)
	}
}
