package tests

import (
	"math/rand"
	"slices"
	"strconv"
	"strings"
	"sync"
	"testing"

	"loop.example/ensemble/impl"
)

// talks makes sessions of lines of all kinds, about expressions of all kinds.
type talks struct {
	r     *rand.Rand
	texts []string
}

func newTalks(seed int64) *talks {
	w := &talks{r: rand.New(rand.NewSource(seed))}
	for _, e := range slices.Concat(plots(seed, 300), typedOf(seed, 100), okExprs(seed, 60)) {
		if text := impl.ExprPut(e); text != "" {
			w.texts = append(w.texts, text)
		}
	}
	return w
}

func (w *talks) one(list ...string) string { return list[w.r.Intn(len(list))] }

// text is that of an expression, seldom one with something changed in it.
func (w *talks) text() string {
	text := w.one(w.texts...)
	switch w.r.Intn(20) {
	case 0:
		return changed(w.r, text)
	case 1:
		return " " + text + " "
	case 2:
		return "(" + text + ")"
	}
	return text
}

// count is a number, mostly of a process that is there; seldom it is none.
func (w *talks) count() string {
	if w.r.Intn(12) == 0 {
		return w.one("", "00", "01", "x", "-1", "1234567", "999999", "21", "20", "7", "1 ")
	}
	return strconv.Itoa(w.r.Intn(4))
}

func (w *talks) line() string {
	switch n := w.r.Intn(20); {
	case n < 2:
		return w.one(askWords...) + " " + w.text()
	case n < 3:
		return "run " + w.text()
	case n < 11:
		return w.one("pick", "pick", "pick", "pick", "pick", "turns", "turns", "kill") + " " + w.count()
	case n < 18:
		return w.one("mean", "machs", "still")
	}
	return w.one("", " ", "what", "mean ", "run", "pick", "\n", w.text(), "kill  0", "type\t1", "mean\n")
}

// lines are those of a session, one that has too many among many.
func (w *talks) lines() []string {
	var list []string
	for range w.r.Intn(46) {
		list = append(list, w.line())
	}
	if len(list) > 0 && w.r.Intn(3) > 0 {
		list[0] = "run " + w.text()
	}
	return list
}

// P48: what was told of the first lines is told first; lines behind SessionMax tell nothing. All of it against answers line by line.
func TestSessionPromise(t *testing.T) {
	w := newTalks(801)
	count, beyond := map[string]int{}, 0
	for range 400 {
		lines := w.lines()
		all := impl.Session(lines)
		if want := sessionSeen(lines); all != want {
			t.Fatalf("%q: %q, want %q", lines, all, want)
		}
		before := ""
		for n := range len(lines) + 1 {
			first := impl.Session(lines[:n])
			if !strings.HasPrefix(all, first) || !strings.HasPrefix(first, before) {
				t.Fatalf("%q: %q, but of the first %d %q", lines, all, n, first)
			}
			if n > impl.SessionMax && first != before {
				t.Fatalf("%q: line %d tells %q", lines, n, first[len(before):])
			}
			if n > 0 && n <= impl.SessionMax && (first == before || !strings.HasSuffix(first, "\n")) {
				t.Fatalf("%q: line %d tells nothing", lines, n)
			}
			before = first
		}
		if len(lines) > impl.SessionMax {
			beyond++
		}
		for _, line := range strings.Split(all, "\n") {
			word, _, _ := strings.Cut(line, " ")
			count[word]++
		}
	}
	for _, word := range []string{"outs", "ends", "left", "yes", "no", "ok", "what", "wrong", "none", "told", "want", "most", "give"} {
		if count[word] < 20 {
			t.Errorf("%s was told %d times", word, count[word])
		}
	}
	if beyond < 20 {
		t.Errorf("%d of 400 had too many lines", beyond)
	}
}

// P49: who asks changes nothing.
func TestSessionAsks(t *testing.T) {
	w := newTalks(802)
	changes := 0
	for range 400 {
		lines := w.lines()
		lines = lines[:min(len(lines), impl.SessionMax-3)]
		ahead := impl.Session(lines)
		mean := impl.Session(append(slices.Clone(lines), "mean"))[len(ahead):]
		if got := impl.Session(append(slices.Clone(lines), "mean", "type 1", "mean")); got != ahead+mean+"int\ntold a\n"+mean {
			t.Fatalf("%q: %q behind %q, want %q twice", lines, got[len(ahead):], ahead, mean)
		}
		if got := impl.Session(append(slices.Clone(lines), "machs", "still", "mean")); !strings.HasSuffix(got, "\n"+mean) {
			t.Fatalf("%q: %q, want %q last", lines, got, mean)
		}
		// no line but those that pick, and run, changes what is told of what runs
		line := w.line()
		got := impl.Session(append(slices.Clone(lines), line, "mean"))
		if strings.HasSuffix(got, "\n"+mean) {
			continue
		}
		changes++
		if word, _, _ := strings.Cut(line, " "); !slices.Contains([]string{"run", "pick", "kill", "turns"}, word) {
			t.Fatalf("%q: %q changes %q", lines, line, mean)
		}
	}
	if changes < 20 {
		t.Errorf("%d lines changed something", changes)
	}
}

// Each word that asks of an expression, of many expressions, with types and without.
func TestSessionAsksOfAll(t *testing.T) {
	list := slices.Concat(withTypes(803, 300), okExprs(804, 300), plots(805, 100))
	for _, e := range list {
		text := impl.ExprPut(e)
		if text == "" {
			continue
		}
		var lines []string
		for _, word := range askWords {
			lines = append(lines, word+" "+text)
		}
		if got, want := impl.Session(lines), sessionSeen(lines); got != want {
			t.Fatalf("%s: %q, want %q", text, got, want)
		}
	}
}

// Nothing is written into lines, nor behind them, and two sessions have nothing to do with each other, not even at once.
func TestSessionKeepsNothing(t *testing.T) {
	w := newTalks(806)
	var all [][]string
	var texts []string
	for range 60 {
		lines := append(append(make([]string, 0, 60), w.lines()...), "left")
		lines = lines[:len(lines)-1]
		before := slices.Clone(lines)
		texts = append(texts, impl.Session(lines))
		all = append(all, lines)
		if !slices.Equal(lines, before) || lines[:len(lines)+1][len(lines)] != "left" {
			t.Fatalf("%q was written into", before)
		}
	}
	var group sync.WaitGroup
	for i := len(all) - 1; i >= 0; i-- {
		group.Go(func() {
			if got := impl.Session(all[i]); got != texts[i] {
				t.Errorf("%q: %q, then %q", all[i], texts[i], got)
			}
		})
	}
	group.Wait()
}

// Any lines have answers.
func TestSessionAtAnything(t *testing.T) {
	r := rand.New(rand.NewSource(807))
	words := append(slices.Clone(askWords), "pick", "kill", "turns", "mean", "machs", "still", "")
	for range 2000 {
		var lines []string
		for range r.Intn(50) {
			lines = append(lines, words[r.Intn(len(words))]+[]string{"", " ", " ", "  "}[r.Intn(4)]+anyText(r))
		}
		text := impl.Session(lines)
		if len(lines) > 0 && !strings.HasSuffix(text, "\n") || strings.Count(text, "\n") < min(len(lines), impl.SessionMax) || text != impl.Session(lines) {
			t.Fatalf("%q: %q", lines, text)
		}
	}
	long := strings.Repeat("x", 1<<20)
	asksSession(t, []string{long, "type " + long, "mean" + long, "pick " + strings.Repeat("1", 1<<20), strings.Repeat(" ", 1<<20)}, "what\nwrong\nwhat\nwhat\nwhat\n")
}
