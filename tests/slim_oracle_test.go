package tests

import (
	"math/rand"
	"slices"

	"loop.example/ensemble/impl"
)

// spot is an op that leads to another one by a pointer, if it has a place.
type spot struct {
	op   impl.Op
	goal *spot
}

// hasGoal says whether an op of a kind has a place.
func hasGoal(kind int) bool {
	return slices.Contains([]int{impl.CodeGo, impl.CodeIf, impl.CodeCase, impl.CodeFun, impl.CodeRec}, kind)
}

// goesOn says whether an op of a kind leads to the next one.
func goesOn(kind int) bool { return kind != impl.CodeGo && kind != impl.CodeGive }

// spotsOf is code as spots.
func spotsOf(list []impl.Op) []*spot {
	var spots []*spot
	for _, op := range list {
		spots = append(spots, &spot{op: op})
	}
	for _, s := range spots {
		if hasGoal(s.op.Kind) {
			s.goal = spots[s.op.Num]
		}
	}
	return spots
}

// codeOfSpots is spots as code, places being as they are then.
func codeOfSpots(spots []*spot) []impl.Op {
	var list []impl.Op
	for _, s := range spots {
		op := s.op
		if s.goal != nil {
			op.Num = slices.Index(spots, s.goal)
		}
		list = append(list, op)
	}
	return list
}

// visit goes from a spot to all to which it leads.
func visit(spots []*spot, at int, seen map[*spot]bool) {
	if seen[spots[at]] {
		return
	}
	seen[spots[at]] = true
	if spots[at].goal != nil {
		visit(spots, slices.Index(spots, spots[at].goal), seen)
	}
	if goesOn(spots[at].op.Kind) {
		visit(spots, at+1, seen)
	}
}

// liveSeen is SlimLive of code that is ok, as the tests see it.
func liveSeen(list []impl.Op) []int {
	spots, seen := spotsOf(list), map[*spot]bool{}
	visit(spots, 0, seen)
	var places []int
	for i, s := range spots {
		if seen[s] {
			places = append(places, i)
		}
	}
	return places
}

// slimOnce is spots made slimmer one time.
func slimOnce(spots []*spot) []*spot {
	goals := map[*spot]*spot{}
	for _, s := range spots {
		goal := s.goal
		for times := 0; goal != nil && goal.op.Kind == impl.CodeGo && times < len(spots); times++ {
			goal = goal.goal
		}
		goals[s] = goal
	}
	for s, goal := range goals {
		s.goal = goal
	}
	seen := map[*spot]bool{}
	visit(spots, 0, seen)
	others := slices.DeleteFunc(slices.Clone(spots), func(s *spot) bool { return !seen[s] })
	next := map[*spot]*spot{} // of a CodeGo that goes
	for i, s := range others {
		if s.op.Kind == impl.CodeGo && i+1 < len(others) && s.goal == others[i+1] {
			next[s] = others[i+1]
		}
	}
	out := slices.DeleteFunc(others, func(s *spot) bool { return next[s] != nil })
	for _, s := range out {
		for next[s.goal] != nil {
			s.goal = next[s.goal]
		}
	}
	return out
}

// slimWords is what the words of chapter 17 make of code that is ok: once more, until it is no shorter.
func slimWords(list []impl.Op) []impl.Op {
	spots := spotsOf(list)
	for {
		before := len(spots)
		spots = slimOnce(spots)
		if len(spots) == before {
			return codeOfSpots(spots)
		}
	}
}

// goesRound says whether a CodeGo leads round by CodeGo alone, but not to itself.
func goesRound(list []impl.Op) bool {
	for at, op := range list {
		for times := 0; times < len(list) && list[op.Num].Kind == impl.CodeGo && op.Kind == impl.CodeGo; times++ {
			op = list[op.Num]
			if op.Num == at && list[at].Num != at {
				return true
			}
		}
	}
	return false
}

// stretched is code that does the same, but goes by CodeGo more often, and has ops to which nothing leads.
func stretched(r *rand.Rand, list []impl.Op, more int) []impl.Op {
	spots := spotsOf(list)
	for range more {
		at := r.Intn(len(spots))
		some := spots[r.Intn(len(spots))]
		switch {
		case r.Intn(3) == 0:
			// to where it goes anyway
			spots = slices.Insert(spots, at, &spot{op: impl.Op{Kind: impl.CodeGo}, goal: spots[at]})
		case !goesOn(spots[at].op.Kind) && some.goal != nil && r.Intn(2) == 0:
			// by one that stands where nothing leads
			way := &spot{op: impl.Op{Kind: impl.CodeGo}, goal: some.goal}
			some.goal = way
			spots = slices.Insert(spots, at+1, way)
		case !goesOn(spots[at].op.Kind):
			idle := []*spot{{op: impl.Op{Kind: impl.CodeNil}}, {op: impl.Op{Kind: impl.CodeFst}}, {op: impl.Op{Kind: impl.CodeGo}, goal: some}, {op: impl.Op{Kind: impl.CodeIf}, goal: some}, {op: impl.Op{Kind: impl.CodeFun}, goal: some}}
			spots = slices.Insert(spots, at+1, idle[r.Intn(len(idle))])
		}
	}
	return codeOfSpots(spots)
}

// toil does ops one by one, and counts cells as labour does: values are what is held.
type toil struct {
	labour
	list  []impl.Op
	at    int
	known *thing
	back  []int
	last  *thing
}

func (w *toil) put(x *thing) { w.held = append(w.held, x) }

// take takes so many values, the first one first.
func (w *toil) take(count int) []*thing {
	left := len(w.held) - count
	taken := slices.Clone(w.held[left:])
	w.held = w.held[:left]
	return taken
}

// must asks for a value of one of these signs.
func (w *toil) must(x *thing, signs ...string) {
	if !slices.Contains(signs, x.sign) {
		panic(stops{impl.WantStuck})
	}
}

// one does the next op.
func (w *toil) one() {
	op := w.list[w.at]
	w.at++
	takes, _ := takesAndPuts(op.Kind)
	parts := w.take(takes)
	switch op.Kind {
	case impl.CodeVar:
		env := w.known
		for range op.Num {
			env = env.next
		}
		w.put(env.first)
	case impl.CodeFun, impl.CodeRec:
		w.put(w.cell(&thing{sign: opWords[op.Kind-1], num: int32(op.Num), next: w.known}, w.known))
	case impl.CodeBind:
		w.known = w.bind(w.known, "", parts[0])
	case impl.CodeDrop:
		for range op.Num {
			w.known = w.known.next
		}
	case impl.CodeGo:
		w.at = op.Num
	case impl.CodeIf:
		w.must(parts[0], "bool")
		if parts[0].num == 0 {
			w.at = op.Num
		}
	case impl.CodeCase:
		w.must(parts[0], "list")
		if parts[0].first == nil {
			w.at = op.Num
			return
		}
		head := w.bind(w.known, "", parts[0].first, parts[0].next)
		w.known = w.bind(head, "", parts[0].next)
	case impl.CodeCall:
		w.callWith(parts[0], parts[1])
	case impl.CodeGive:
		w.gives()
	default:
		w.values(op, parts)
	}
}

// callWith goes on in a function that is called with a value.
func (w *toil) callWith(f *thing, x *thing) {
	w.must(f, "fun", "rec")
	if len(w.waits) == 60 {
		panic(stops{impl.WantFull})
	}
	w.waits, w.back = append(w.waits, w.known), append(w.back, w.at)
	w.at = int(f.num)
	if f.sign == "fun" {
		w.known = w.bind(f.next, "", x)
		return
	}
	w.known = w.bind(w.bind(f.next, "", f, x), "", x)
}

// gives goes back to what waits last, or is done.
func (w *toil) gives() {
	end := len(w.back) - 1
	if end < 0 {
		w.last = w.held[0]
		panic(stops{impl.WantDone})
	}
	w.at, w.known = w.back[end], w.waits[end]
	w.back, w.waits = w.back[:end], w.waits[:end]
}

// values does an op that takes values, and puts one.
func (w *toil) values(op impl.Op, parts []*thing) {
	switch op.Kind {
	case impl.CodeFst, impl.CodeSnd:
		w.must(parts[0], "pair")
		w.put([]*thing{parts[0].first, parts[0].next}[op.Kind-impl.CodeFst])
	case impl.CodeOp:
		w.must(parts[0], "int")
		w.must(parts[1], "int")
		w.put(w.does(impl.Expr{Kind: impl.ExprOp, Num: op.Num}, parts, w.known))
	default:
		w.put(w.does(impl.Expr{Kind: kindByOp(op), Num: op.Num}, parts, w.known))
	}
}

// shallow is a thing as a value, as far as its text goes.
func (x *thing) shallow(deep int) *worth {
	out := &worth{sign: x.sign, num: x.num}
	if x.sign == "rec" {
		out.sign = "fun"
	}
	if x.sign == "pair" || x.sign == "list" && x.first != nil {
		out.parts = []*worth{{sign: "list"}, {sign: "list"}}
		if deep > 0 {
			out.parts = []*worth{x.first.shallow(deep - 1), x.next.shallow(deep - 1)}
		}
	}
	return out
}

// slimToiled is SlimRun of code that is ok, as the tests see it.
func slimToiled(list []impl.Op, most int) (text string, want int, ops int) {
	w := &toil{list: list}
	defer func() {
		if caught := recover(); caught != nil {
			want = caught.(stops).want
			if want == impl.WantDone {
				text = w.last.shallow(impl.DeepMax).told(0)
			}
		}
	}()
	for ops < most {
		ops++
		w.one()
	}
	return "", impl.WantMore, ops
}
