package tests

import (
	"slices"

	"loop.example/ensemble/impl"
)

// allPicks are all ways to pick processes that can, at most so many, none among them, in the order in which they become longer.
func allPicks(e impl.Expr, picks int) [][]impl.Event {
	all := [][]impl.Event{nil}
	for i := 0; i < len(all); i++ {
		if len(all[i]) == picks {
			break
		}
		_, _, can := staged(e, all[i])
		for _, n := range can {
			all = append(all, append(slices.Clone(all[i]), impl.Event{Kind: impl.EventRun, Proc: n}))
		}
	}
	return all
}

// isDeadSeen says whether a process waits without an end, where these can.
func isDeadSeen(a impl.Answer, can []int) bool {
	return len(can) == 0 && slices.Contains(a.Ends, impl.EndNot)
}

// isToldSeen says whether a number was told last.
func isToldSeen(a impl.Answer, num int) bool {
	return len(a.Outs) > 0 && a.Outs[len(a.Outs)-1].Num == num
}

// firstSeen is, of all ways behind which that is so which is looked for, the first, as the tests see it.
func firstSeen(e impl.Expr, picks int, sought func(a impl.Answer, can []int) bool) ([]impl.Event, bool) {
	var found [][]impl.Event
	for _, list := range allPicks(e, picks) {
		answer, _, can := staged(e, list)
		if sought(answer, can) {
			found = append(found, list)
		}
	}
	if len(found) == 0 {
		return nil, false
	}
	return slices.MinFunc(found, func(a []impl.Event, b []impl.Event) int {
		return slices.CompareFunc(a, b, func(x impl.Event, y impl.Event) int { return x.Proc - y.Proc })
	}), true
}

// typesSeen are the types of parts of an expression that has a type that stand where no name is bound, as the tests see them.
func typesSeen(e impl.Expr) []string {
	var types []string
	open := []impl.Expr{e}
	for len(open) > 0 {
		part := open[0]
		open = open[1:]
		text, _, ok := typeGuessed(part)
		if !ok {
			continue
		}
		types = append(types, text)
		var kids []impl.Expr
		for i, kid := range part.Kids {
			if len(bindsIn(part, i)) == 0 {
				kids = append(kids, kid)
			}
		}
		open = append(kids, open...)
	}
	return types
}
