package tests

import (
	"fmt"
	"slices"

	"loop.example/ensemble/impl"
)

// answerText is AnswerPut, as the tests see it.
func answerText(a impl.Answer) string {
	text := "outs"
	for _, out := range a.Outs {
		text += fmt.Sprintf(" %d:%d", out.Proc, out.Num)
	}
	for i, list := range [][]int{a.Ends, a.Boxes} {
		text += []string{"\nends", "\nleft"}[i]
		for _, n := range list {
			text += fmt.Sprintf(" %d", n)
		}
	}
	return text + "\n"
}

// staged is the answer behind events, what was wanted event by event, and who can then, as the tests see it.
func staged(e impl.Expr, list []impl.Event) (impl.Answer, []int, []int) {
	s := meanStage(e)
	answer := s.play(list)
	var can []int
	for n, p := range s.players {
		if p.end == 0 && (p.waits == nil || len(p.box) > 0) {
			can = append(can, n)
		}
	}
	return answer, s.wanted, can
}

// waysStaged is WaysOf of an expression that has a type, as the tests see it: each pick in turn, and then all that may follow it.
func waysStaged(e impl.Expr, list []impl.Event, picks int) []string {
	answer, _, can := staged(e, list)
	if picks == 0 || len(can) == 0 {
		return []string{answerText(answer)}
	}
	var all []string
	for _, n := range can {
		all = append(all, waysStaged(e, append(list[:len(list):len(list)], impl.Event{Kind: impl.EventRun, Proc: n}), picks-1)...)
	}
	slices.Sort(all)
	return slices.Compact(all)
}
