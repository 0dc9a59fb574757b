package tests

import (
	"math/rand"
	"testing"

	"loop.example/ensemble/impl"
)

// maker makes expressions of a type that is asked for; told is the type of what processes tell each other, nil if they tell nothing.
type maker struct {
	r    *rand.Rand
	told *kindOf
}

// has is a name that is bound, with its type; one without a type gives back what it is given.
type has struct {
	name string
	kind *kindOf
}

// someKind is a type without letters.
func (m *maker) someKind(deep int) *kindOf {
	n := m.r.Intn(9)
	if deep == 0 {
		n = m.r.Intn(5)
	}
	switch n {
	case 0, 1, 2:
		return plain("int")
	case 3:
		return plain("bool")
	case 4:
		return plain("pid")
	case 5, 6:
		return signed("list", m.someKind(deep-1))
	case 7:
		return signed("*", m.someKind(deep-1), m.someKind(deep-1))
	}
	return signed("->", m.someKind(deep-1), m.someKind(deep-1))
}

func sameKind(x *kindOf, y *kindOf) bool {
	if x == nil || y == nil {
		return x == y
	}
	if x.sign != y.sign || len(x.parts) != len(y.parts) {
		return false
	}
	for i := range x.parts {
		if !sameKind(x.parts[i], y.parts[i]) {
			return false
		}
	}
	return true
}

// named is a name that is bound so, empty if there is none; a name that is hidden is none.
func (m *maker) named(around []has, k *kindOf) string {
	seen := map[string]bool{}
	var fit []string
	for i := len(around) - 1; i >= 0; i-- {
		if !seen[around[i].name] && sameKind(around[i].kind, k) {
			fit = append(fit, around[i].name)
		}
		seen[around[i].name] = true
	}
	if len(fit) == 0 {
		return ""
	}
	return fit[m.r.Intn(len(fit))]
}

func inside(around []has, more ...has) []has {
	return append(append([]has{}, around...), more...)
}

func apply(f impl.Expr, x impl.Expr) impl.Expr { return expr(impl.ExprApp, f, x) }

func truth(b int) impl.Expr { return impl.Expr{Kind: impl.ExprBool, Num: b} }

func letIn(name string, a impl.Expr, b impl.Expr) impl.Expr {
	return impl.Expr{Kind: impl.ExprLet, Name: name, Kids: []impl.Expr{a, b}}
}

// leaf is a small expression of a type.
func (m *maker) leaf(k *kindOf, around []has) impl.Expr {
	if name := m.named(around, k); name != "" && m.r.Intn(4) > 0 {
		return variable(name)
	}
	switch k.sign {
	case "int":
		return number([]int{0, 1, 2, 3, 7, 999999, m.r.Intn(100)}[m.r.Intn(7)])
	case "bool":
		return truth(m.r.Intn(2))
	case "pid":
		return expr(impl.ExprSelf)
	case "list":
		return expr(impl.ExprNil)
	case "*":
		return expr(impl.ExprPair, m.leaf(k.parts[0], around), m.leaf(k.parts[1], around))
	}
	name := someName(m.r)
	return function(name, m.leaf(k.parts[1], inside(around, has{name, k.parts[0]})))
}

// some is an expression of a type, of about so many parts.
func (m *maker) some(k *kindOf, around []has, parts int) impl.Expr {
	if parts < 3 {
		return m.leaf(k, around)
	}
	if m.r.Intn(2) == 0 {
		if e, ok := m.ofKind(k, around, parts-1); ok {
			return e
		}
	}
	name, tail := someName(m.r), someName(m.r)
	for tail == name {
		tail = someName(m.r)
	}
	half := parts / 2
	switch m.r.Intn(8) {
	case 0:
		other := m.someKind(1)
		return apply(m.some(signed("->", other, k), around, half), m.some(other, around, half))
	case 1:
		other := m.someKind(2)
		return letIn(name, m.some(other, around, half), m.some(k, inside(around, has{name, other}), half))
	case 2:
		return expr(impl.ExprIf, m.some(plain("bool"), around, parts/3), m.some(k, around, parts/3), m.some(k, around, parts/3))
	case 3:
		other := m.someKind(1)
		b := m.some(k, around, parts/3)
		c := m.some(k, inside(around, has{name, other}, has{tail, signed("list", other)}), parts/3)
		return impl.Expr{Kind: impl.ExprCase, Name: name, Tail: tail, Kids: []impl.Expr{m.some(signed("list", other), around, parts/3), b, c}}
	case 4:
		other := m.someKind(1)
		if m.r.Intn(2) == 0 {
			return expr(impl.ExprFst, m.some(signed("*", k, other), around, parts-1))
		}
		return expr(impl.ExprSnd, m.some(signed("*", other, k), around, parts-1))
	case 5:
		return letIn(name, function(tail, variable(tail)), m.some(k, inside(around, has{name, nil}), parts-3))
	case 6:
		if same := m.named(around, nil); same != "" {
			return apply(variable(same), m.some(k, around, parts-2))
		}
	}
	return m.again(k, around, parts, name, tail)
}

// again is a function that calls itself with one less, or as it comes.
func (m *maker) again(k *kindOf, around []has, parts int, name string, tail string) impl.Expr {
	num, f := plain("int"), signed("->", plain("int"), k)
	in := inside(around, has{name, f}, has{tail, num})
	body := m.some(k, in, parts/2)
	if m.r.Intn(4) > 0 {
		got := someName(m.r)
		rest := apply(variable(name), operation(impl.OpSub, variable(tail), number(1)))
		stop := m.some(k, inside(around, has{tail, num}), parts/4)
		body = expr(impl.ExprIf, operation(impl.OpLess, variable(tail), number(1)), stop, letIn(got, rest, m.some(k, inside(in, has{got, k}), parts/4)))
	}
	if m.named(in, f) == "" {
		body = m.leaf(k, inside(around, has{name, f}))
	}
	then := apply(variable(name), number(m.r.Intn(8)))
	return impl.Expr{Kind: impl.ExprRec, Name: name, Tail: tail, Kids: []impl.Expr{body, then}}
}

// ofKind is an expression that by its kind is of a type.
func (m *maker) ofKind(k *kindOf, around []has, parts int) (impl.Expr, bool) {
	if m.told != nil && sameKind(k, m.told) && m.r.Intn(3) == 0 {
		return expr(impl.ExprRecv), true
	}
	switch k.sign {
	case "->":
		name := someName(m.r)
		return function(name, m.some(k.parts[1], inside(around, has{name, k.parts[0]}), parts)), true
	case "*":
		return expr(impl.ExprPair, m.some(k.parts[0], around, parts/2), m.some(k.parts[1], around, parts/2)), true
	case "list":
		return expr(impl.ExprCons, m.some(k.parts[0], around, parts/2), m.some(k, around, parts/2)), true
	case "bool":
		return operation(5+m.r.Intn(2), m.some(plain("int"), around, parts/2), m.some(plain("int"), around, parts/2)), true
	case "pid":
		if m.told == nil {
			return impl.Expr{}, false
		}
		return expr(impl.ExprSpawn, m.some(signed("->", plain("int"), plain("int")), around, parts)), true
	}
	switch n := m.r.Intn(8); {
	case n == 0:
		return expr(impl.ExprOut, m.some(k, around, parts)), true
	case n == 1 && m.told != nil:
		return expr(impl.ExprLink, m.some(plain("pid"), around, parts)), true
	case n < 4 && m.told != nil:
		return expr(impl.ExprSend, m.some(plain("pid"), around, parts/2), m.some(m.told, around, parts/2)), true
	}
	return operation(1+m.r.Intn(4), m.some(k, around, parts/2), m.some(k, around, parts/2)), true
}

// typedExprs are so many expressions that are ok and mostly have a type, the same each time; with say, processes tell each other things.
func typedExprs(seed int64, count int, say bool) []impl.Expr {
	m := &maker{r: rand.New(rand.NewSource(seed))}
	var list []impl.Expr
	for len(list) < count {
		m.told = nil
		if say {
			m.told = m.someKind(m.r.Intn(2))
		}
		e := m.some(m.someKind(m.r.Intn(3)), nil, 4+m.r.Intn(60))
		if partsOf(e) <= impl.NodeMax && deepOf(e) <= impl.DeepMax {
			list = append(list, e)
		}
	}
	return list
}

// What the makers of expressions are asked for, so that tests do not run on next to nothing.
func TestTypedExprs(t *testing.T) {
	for _, say := range []bool{false, true} {
		typed, large := 0, 0
		ends := map[int]int{}
		for _, e := range typedExprs(51, 3000, say) {
			if _, _, ok := impl.TypeOf(e); ok {
				typed++
				_, want := impl.EvalOf(e)
				ends[want]++
				if partsOf(e) > 25 {
					large++
				}
			}
		}
		if typed < 2000 || large < 300 || ends[impl.WantDone] < 200 || ends[impl.WantDiv] < 10 || ends[impl.WantMore] < 1 {
			t.Errorf("of 3000 have a type %d, are large %d, end so: %v", typed, large, ends)
		}
	}
}
