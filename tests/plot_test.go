package tests

import (
	"math/rand"
	"strconv"
	"strings"
	"testing"

	"loop.example/ensemble/impl"
)

// plot writes expressions in which processes are made, tell each other things of one type, are linked and end.
type plot struct {
	r    *rand.Rand
	told string
	next int
}

// name is a new one; there are few enough of them.
func (p *plot) name(letter string) string {
	p.next++
	return letter + strconv.Itoa(p.next)
}

func (p *plot) one(list ...string) string { return list[p.r.Intn(len(list))] }

// load is something of the type that is told.
func (p *plot) load(pids []string) string {
	n := strconv.Itoa(p.r.Intn(9))
	switch p.told {
	case "int":
		return n
	case "pid":
		return p.one(pids...)
	case "list":
		return p.one("(l "+strconv.Itoa(p.r.Intn(36))+")", "nil", "("+n+" :: nil)")
	case "pair":
		return "(" + p.one(pids...) + ", " + n + ")"
	}
	return p.one("(fun y -> y + "+n+")", "(fun y -> out y)", "(let k = "+n+" in fun y -> y * k)", "(fun y -> send "+p.one(pids...)+" (fun z -> z))")
}

// number is one that comes of something that was told, under this name.
func (p *plot) number(name string) string {
	switch p.told {
	case "int":
		return name
	case "pid":
		return "(link " + name + ")"
	case "list":
		return "(case " + name + " of nil -> 0 | h :: t -> h)"
	case "pair":
		return "(snd " + name + ")"
	}
	return "(" + name + " 3)"
}

// scene is what a process does, in about so many lines; those are processes, and functions, that it knows.
func (p *plot) scene(lines int, pids []string, funs []string) string {
	if lines <= 0 {
		return p.last(pids, funs)
	}
	a := p.name("a")
	switch n := p.r.Intn(18); {
	case n < 4:
		body := "(fun x -> " + p.scene(p.r.Intn(lines+1)/2, pids, funs) + ")"
		if len(funs) > 0 && p.r.Intn(2) == 0 {
			body = p.one(funs...)
		}
		return "let " + a + " = spawn " + body + " in " + p.scene(lines-1, append(pids[:len(pids):len(pids)], a), funs)
	case n < 8:
		return "let " + a + " = send " + p.one(pids...) + " " + p.load(pids) + " in " + p.scene(lines-1, pids, funs)
	case n < 11:
		return "let " + a + " = link " + p.one(pids...) + " in " + p.scene(lines-1, pids, funs)
	case n < 12:
		return "let " + a + " = out " + strconv.Itoa(p.r.Intn(9)) + " in " + p.scene(lines-1, pids, funs)
	case n < 14:
		more := pids
		if p.told == "pid" {
			more = append(pids[:len(pids):len(pids)], a)
		}
		return "let " + a + " = recv in " + p.scene(lines-1, more, funs)
	case n < 15:
		return "let " + a + " = recv in let z = out " + p.number(a) + " in " + p.scene(lines-1, pids, funs)
	}
	f := p.name("f")
	again := p.one("", "if n < 1 then 0 else ", "if "+strconv.Itoa(p.r.Intn(50))+" < n then n else ")
	step := p.one(f+" (n + 1)", f+" (n - 1)", "let s = "+p.one("spawn "+f, "send "+p.one(pids...)+" "+p.load(pids))+" in "+f+" (n + 1)")
	return "rec " + f + " n = " + again + step + " in " + p.scene(lines-1, pids, append(funs[:len(funs):len(funs)], f))
}

// last is what a process does last.
func (p *plot) last(pids []string, funs []string) string {
	switch n := p.r.Intn(8); {
	case n < 1:
		return "1 / 0"
	case n < 2:
		return "send " + p.one(pids...) + " " + p.load(pids)
	case n < 3:
		return "link " + p.one(pids...)
	case n < 4:
		return "let q = recv in " + p.number("q")
	case n < 6 && len(funs) > 0:
		return p.one(funs...) + " " + strconv.Itoa(p.r.Intn(50))
	}
	return strconv.Itoa(p.r.Intn(9))
}

// plots are so many expressions that have a type, and in which something is done, the same each time.
func plots(seed int64, count int) []impl.Expr {
	r := rand.New(rand.NewSource(seed))
	var list []impl.Expr
	for len(list) < count {
		p := &plot{r: r, told: []string{"int", "pid", "list", "pair", "fun"}[r.Intn(5)]}
		text := p.scene(2+r.Intn(10), []string{"self"}, nil)
		if p.told == "list" {
			text = listing + text
		}
		e, ok := impl.ExprGet(text)
		if _, _, typed := impl.TypeOf(e); ok && typed && strings.ContainsAny(text, "pk") {
			list = append(list, e)
		}
	}
	return list
}

// somePicks are events, mostly picks of processes that are there; seldom one is ended.
func somePicks(r *rand.Rand) []impl.Event {
	var list []impl.Event
	procs := 1 + r.Intn(7)
	kills := []int{0, 0, 30, 200}[r.Intn(4)]
	for n := []int{5, 20, 60, 130}[r.Intn(4)] - r.Intn(5); n > 0; n-- {
		event := impl.Event{Kind: impl.EventRun, Proc: r.Intn(procs)}
		if r.Intn(1000) < kills {
			event.Kind = impl.EventKill
		}
		if r.Intn(30) == 0 {
			event = impl.Event{Kind: r.Intn(6) - 1, Proc: r.Intn(9) - 2}
		}
		list = append(list, event)
	}
	return list
}

// runs asks something of many expressions, with picks.
func runs(seed int64, count int, asks func(e impl.Expr, list []impl.Event)) {
	r := rand.New(rand.NewSource(seed))
	for _, e := range append(plots(seed, count), typedOf(seed, count/2)...) {
		for range 2 {
			asks(e, somePicks(r))
		}
		asks(e, impl.RunTurns(r.Intn(21)))
	}
}

// typedOf are expressions that have a type, that were not made for processes.
func typedOf(seed int64, count int) []impl.Expr {
	var list []impl.Expr
	for _, e := range typedExprs(seed, count, true) {
		if _, _, ok := impl.TypeOf(e); ok {
			list = append(list, e)
		}
	}
	return list
}

// P25: processes on machines do what their words mean. P27: when cells are cleaned does not matter. All of them against players.
func TestRunPromise(t *testing.T) {
	ends, boxes, outs, procs, full := map[int]int{}, 0, 0, map[int]int{}, 0
	runs(501, 3000, func(e impl.Expr, list []impl.Event) {
		told := asksRuns(t, e, list)
		mean, mach := impl.RunMean(e, list), impl.RunMach(e, list, false)
		if hasFull(mach) {
			if told[0] != told[1] {
				full++
			}
		} else if told[0] != told[1] {
			t.Fatalf("%s: %s, on machines %s", impl.ExprPut(e), told[0], told[1])
		}
		if told[1] != told[2] {
			t.Fatalf("%s: %s, with always %s", impl.ExprPut(e), told[1], told[2])
		}
		for i, end := range mean.Ends {
			ends[end]++
			boxes += mean.Boxes[i]
		}
		outs += len(mean.Outs)
		procs[len(mean.Ends)]++
	})
	for _, end := range []int{impl.EndNot, impl.EndDone, impl.EndDiv, impl.EndFull, impl.EndLink, impl.EndKill} {
		if ends[end] < 100 {
			t.Errorf("%d processes end by %d", ends[end], end)
		}
	}
	for n := 1; n <= impl.ProcMax; n++ {
		if procs[n] < 50 {
			t.Errorf("of %d runs there are %d processes", procs[n], n)
		}
	}
	if boxes < 200 || outs < 500 || full < 20 {
		t.Errorf("%d left, %d told outside, %d without room", boxes, outs, full)
	}
}

func hasFull(a impl.Answer) bool {
	for _, end := range a.Ends {
		if end == impl.EndFull {
			return true
		}
	}
	return false
}

// P26: no process of an expression that has a type goes wrong. P28: names that are bound do not matter.
func TestRunTyped(t *testing.T) {
	r := rand.New(rand.NewSource(502))
	runs(503, 600, func(e impl.Expr, list []impl.Event) {
		a := impl.RunMean(e, list)
		if len(a.Ends) != len(a.Boxes) || len(a.Ends) < 1 || len(a.Ends) > impl.ProcMax {
			t.Fatalf("%s: %s", impl.ExprPut(e), answerTold(a))
		}
		for i, end := range a.Ends {
			if end == impl.EndStuck || end < 0 || end > impl.EndKill || a.Boxes[i] < 0 || a.Boxes[i] > impl.BoxMax || end != impl.EndNot && a.Boxes[i] > 0 {
				t.Fatalf("%s: %s", impl.ExprPut(e), answerTold(a))
			}
		}
		for _, out := range a.Outs {
			if out.Proc < 0 || out.Proc >= len(a.Ends) {
				t.Fatalf("%s: %s", impl.ExprPut(e), answerTold(a))
			}
		}
		for _, like := range []impl.Expr{impl.NameTidy(e), renamed(r, e)} {
			if told := answerTold(impl.RunMean(like, list)); told != answerTold(a) {
				t.Fatalf("%s: %s, but %s: %s", impl.ExprPut(e), answerTold(a), impl.ExprPut(like), told)
			}
		}
	})
	for _, e := range okExprs(504, 1000) {
		_, _, typed := impl.TypeOf(e)
		if a := impl.RunMean(e, impl.RunTurns(3)); (len(a.Ends) > 0) != typed || len(a.Boxes) != len(a.Ends) || !typed && len(a.Outs) > 0 {
			t.Fatalf("%s: %s", impl.ExprPut(e), answerTold(a))
		}
	}
}

// P29: what was told outside stays told, who ended has ended so; there are never fewer processes.
func TestRunStays(t *testing.T) {
	r := rand.New(rand.NewSource(505))
	runs(506, 500, func(e impl.Expr, list []impl.Event) {
		all := impl.RunMean(e, list)
		for range 3 {
			first := impl.RunMean(e, list[:r.Intn(len(list)+1)])
			if len(first.Outs) > len(all.Outs) || len(first.Ends) > len(all.Ends) {
				t.Fatalf("%s: %s, then %s", impl.ExprPut(e), answerTold(first), answerTold(all))
			}
			for i, out := range first.Outs {
				if out != all.Outs[i] {
					t.Fatalf("%s: %s, then %s", impl.ExprPut(e), answerTold(first), answerTold(all))
				}
			}
			for i, end := range first.Ends {
				if end != impl.EndNot && end != all.Ends[i] {
					t.Fatalf("%s: %s, then %s", impl.ExprPut(e), answerTold(first), answerTold(all))
				}
			}
		}
	})
}

// P30: who is ended does nothing more; who has ended is not ended again.
func TestRunKilled(t *testing.T) {
	killed, ended := 0, 0
	runs(507, 500, func(e impl.Expr, list []impl.Event) {
		list = list[:min(len(list), impl.EventMax-2)]
		a := impl.RunMean(e, list)
		kill := append(append([]impl.Event{}, list...), impl.Event{Kind: impl.EventKill})
		b := impl.RunMean(e, kill)
		c := impl.RunMean(e, append(kill, impl.Event{Kind: impl.EventRun}))
		if answerTold(b) != answerTold(c) {
			t.Fatalf("%s: %s, and picked %s", impl.ExprPut(e), answerTold(b), answerTold(c))
		}
		if a.Ends[0] != impl.EndNot {
			ended++
			if answerTold(a) != answerTold(b) {
				t.Fatalf("%s: %s, and ended again %s", impl.ExprPut(e), answerTold(a), answerTold(b))
			}
			return
		}
		killed++
		outs, _, _ := strings.Cut(answerTold(a), ";")
		if b.Ends[0] != impl.EndKill || b.Boxes[0] != 0 || !strings.HasPrefix(answerTold(b), outs+";") {
			t.Fatalf("%s: %s, and ended %s", impl.ExprPut(e), answerTold(a), answerTold(b))
		}
	})
	if killed < 200 || ended < 200 {
		t.Errorf("%d were ended, %d had ended", killed, ended)
	}
}

// P31: a process that wants nothing of others does what it does alone.
func TestRunAsAlone(t *testing.T) {
	done := 0
	for _, e := range withTypes(508, 2500) {
		_, want := impl.EvalOf(e)
		if want != impl.WantDone && want != impl.WantDiv {
			continue
		}
		for _, picks := range []int{0, 1, 3, 120} {
			a := impl.RunMean(e, eventsOf(strconv.Itoa(picks)+"x0"))
			end := map[int]int{impl.WantDone: impl.EndDone, impl.WantDiv: impl.EndDiv}[want]
			if len(a.Ends) != 1 || a.Boxes[0] != 0 || a.Ends[0] != end && a.Ends[0] != impl.EndNot || picks == 0 && a.Ends[0] != impl.EndNot || picks == 120 && a.Ends[0] != end {
				t.Fatalf("%s: %d, but %s", impl.ExprPut(e), want, answerTold(a))
			}
			if a.Ends[0] != impl.EndNot {
				done++
			}
		}
	}
	if done < 2000 {
		t.Errorf("%d came to an end", done)
	}
}

// Nothing is written into what is given, nor behind it, and nothing of an answer is shared or kept.
func TestRunWritesNothing(t *testing.T) {
	runs(509, 150, func(e impl.Expr, list []impl.Event) {
		spare := withSpare(e)
		events := append(append(make([]impl.Event, 0, len(list)+3), list...), impl.Event{Kind: 9, Proc: 9})[:len(list)]
		mean, mach := impl.RunMean(spare, events), impl.RunMach(spare, events, len(list)%2 == 0)
		before := answerTold(mean)
		text, want, most := impl.MachOf(spare, true)
		if !sameExpr(spare, e) || !spareKept(spare) || events[:len(list)+1][len(list)] != (impl.Event{Kind: 9, Proc: 9}) {
			t.Fatalf("%s was written into", impl.ExprPut(e))
		}
		for i := range list {
			if events[i] != list[i] {
				t.Fatalf("%s: events were written into", impl.ExprPut(e))
			}
		}
		scribble(mach)
		if s, w, m := impl.MachOf(e, true); s != text || w != want || m != most || answerTold(mean) != before || answerTold(impl.RunMean(e, list)) != before {
			t.Fatalf("%s: another answer", impl.ExprPut(e))
		}
		scribble(mean)
		if told := answerTold(impl.RunMean(e, list)); told != before {
			t.Fatalf("%s: %s, then %s", impl.ExprPut(e), before, told)
		}
	})
}

// scribble writes over all places of an answer, spare ones too, and asks that each list still has its own.
func scribble(a impl.Answer) {
	ends, boxes := a.Ends[:cap(a.Ends)], a.Boxes[:cap(a.Boxes)]
	for i := range ends {
		ends[i] = 77
	}
	for i := range boxes {
		boxes[i] = 88
	}
	for i := range ends {
		if ends[i] != 77 {
			panic("two lists of an answer share memory")
		}
	}
	outs := a.Outs[:cap(a.Outs)]
	for i := range outs {
		outs[i] = impl.Told{Proc: 99, Num: 99}
	}
}
