package tests

import (
	"testing"

	"loop.example/ensemble/impl"
)

func TestReadmeExample(t *testing.T) {
	e, _ := impl.ExprGet("fun y -> x y")
	x, _ := impl.ExprGet("(y, 1)")
	out, ok := impl.NameInto(e, "x", x)
	if !ok || impl.ExprPut(out) != "fun v0 -> (y, 1) v0" || !sameNames(impl.NameFree(out), []string{"y"}) || impl.ExprPut(impl.NameTidy(out)) != "fun w0 -> (y, 1) w0" {
		t.Error(impl.ExprPut(out))
	}
}
