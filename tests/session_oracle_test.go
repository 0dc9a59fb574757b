package tests

import (
	"fmt"
	"regexp"
	"strconv"

	"loop.example/ensemble/impl"
)

// What a line may be, by the words of chapter 14.
var (
	askLine  = regexp.MustCompile(`(?s)^(type|eval|mach|tidy|code|fold|step|run) (.*)$`)
	pickLine = regexp.MustCompile(`^(pick|kill|turns) (0|[1-9][0-9]{0,5})$`)
	tellLine = regexp.MustCompile(`^(mean|machs|still)$`)
)

// sessionSeen is Session, as the tests see it: each line is answered alone, by what stands ahead of it.
func sessionSeen(lines []string) string {
	text := ""
	for i := 0; i < len(lines) && i < 40; i++ {
		text += lineSeen(lines[:i], lines[i])
	}
	return text
}

// lineSeen is the answer to a line behind others, with all of its newlines.
func lineSeen(ahead []string, line string) string {
	if m := askLine.FindStringSubmatch(line); m != nil {
		e, ok := impl.ExprGet(m[2])
		if !ok {
			return "wrong\n"
		}
		return askedSeen(m[1], e)
	}
	if pickLine.MatchString(line) {
		return "ok\n"
	}
	if tellLine.MatchString(line) {
		e, list := runningSeen(ahead)
		return toldSeen(line, e, list)
	}
	return "what\n"
}

// askedSeen is the answer to a word that asks of an expression.
func askedSeen(word string, e impl.Expr) string {
	kind, told, typed := "", "", len(freeNames(e)) == 0
	if typed {
		kind, told, typed = typeGuessed(e)
	}
	switch {
	case word == "tidy":
		return spelled(impl.NameTidy(e)) + "\n"
	case word == "eval" && !typed:
		return "want 103\n"
	case word == "mach" && !typed:
		return "want 103\nmost 0\n"
	case !typed:
		return "none\n"
	}
	switch word {
	case "type":
		return kind + "\ntold " + told + "\n"
	case "eval":
		text, want := evalThought(e)
		return valueSeen(text, want)
	case "mach":
		text, want, most := machLaboured(e, false)
		return valueSeen(text, want) + fmt.Sprintf("most %d\n", most)
	case "code":
		return codeLabelled(e)
	case "fold":
		return impl.ExprPut(foldedBit(e, map[string]int{})) + "\n"
	case "step":
		return stepTold(e)
	}
	return "ok\n"
}

func valueSeen(text string, want int) string {
	if want == impl.WantDone {
		return text + "\n"
	}
	return fmt.Sprintf("want %d\n", want)
}

// stepTold is the answer to step; the tests see a step but for names, so that its text is that of StepOf, if that is like it.
func stepTold(e impl.Expr) string {
	seen, did := stepSeen(e)
	if did == "" || did == "great" {
		return "no\n"
	}
	out, _ := impl.StepOf(e)
	if !impl.NameLike(out, seen) {
		return "another step\n"
	}
	return impl.ExprPut(out) + "\n"
}

// runningSeen is what runs behind lines, and what was picked: what stands behind the last run of something that has a type.
func runningSeen(ahead []string) (impl.Expr, []impl.Event) {
	for i := len(ahead) - 1; i >= 0; i-- {
		if m := askLine.FindStringSubmatch(ahead[i]); m != nil && m[1] == "run" && lineSeen(nil, ahead[i]) == "ok\n" {
			e, _ := impl.ExprGet(m[2])
			return e, pickedSeen(ahead[i+1:])
		}
	}
	return number(0), pickedSeen(ahead)
}

// pickedSeen are the events of lines.
func pickedSeen(lines []string) []impl.Event {
	var list []impl.Event
	for _, line := range lines {
		m := pickLine.FindStringSubmatch(line)
		if m == nil {
			continue
		}
		n, _ := strconv.Atoi(m[2])
		switch {
		case m[1] == "pick":
			list = append(list, impl.Event{Kind: 1, Proc: n})
		case m[1] == "kill":
			list = append(list, impl.Event{Kind: 2, Proc: n})
		case n <= 20:
			for i := range 6 * n {
				list = append(list, impl.Event{Kind: 1, Proc: i % 6})
			}
		}
	}
	return list
}

// toldSeen is the answer to a word that tells what has become of what runs.
func toldSeen(word string, e impl.Expr, list []impl.Event) string {
	answer, _, can := staged(e, list)
	switch {
	case word == "mean":
		return answerText(answer)
	case word == "machs":
		return answerText(machStaged(e, list, false))
	case len(can) == 0:
		return "yes\n"
	}
	return "no\n"
}

// spelled is the text of an expression that is ok, however long. No name in it is mark.
func spelled(e impl.Expr) string {
	shell := e
	for i := range e.Kids {
		shell = withKid(shell, i, variable("mark"))
	}
	text := impl.ExprPut(shell)
	for i, kid := range e.Kids {
		part := spelled(kid)
		if levelSeen(kid) < partLevels(e)[i] {
			part = "(" + part + ")"
		}
		text = replaceWord(text, "mark", part)
	}
	return text
}

// levelSeen is the level of an expression, by the table of chapter 1.
func levelSeen(e impl.Expr) int {
	for i, one := range oneOfEach() {
		if one.Kind == e.Kind && (e.Kind != impl.ExprOp || one.Num == e.Num) {
			return levelsOfEach()[i]
		}
	}
	return 0
}
