package tests

import (
	"iter"

	"loop.example/ensemble/impl"
)

// request is what a player wants: the number or the process with which, what is to be told or called, and whether there is room for what is taken.
type request struct {
	kind int
	num  int
	load any
	room func(load any) bool
}

// gone is what a player panics with that nobody asks any more.
type gone struct{}

// player is a process that goes on until it wants something, and then waits where it is; reply is what it gets.
type player struct {
	next  func() (request, bool)
	stop  func()
	reply any
	waits *request
	box   []any
	end   int
}

// playing is a player that does something, and has a value when that is over.
func playing(does func(p *player, ask func(r request) any)) *player {
	p := &player{}
	p.next, p.stop = iter.Pull(func(yield func(request) bool) {
		ask := func(r request) any {
			if !yield(r) {
				panic(gone{})
			}
			return p.reply
		}
		if want := wantOf(func() { does(p, ask) }); want >= 0 {
			yield(request{kind: want})
		}
	})
	return p
}

// wantOf is how something comes to its end, -1 if nobody asks any more.
func wantOf(does func()) (want int) {
	defer func() {
		switch caught := recover().(type) {
		case nil:
		case gone:
			want = -1
		case stops:
			want = caught.want
		default:
			panic(caught)
		}
	}()
	does()
	return impl.WantDone
}

// meant is a player that thinks; what it does is asked of its thought.
func meant(self int, does func(d *thought)) *player {
	return playing(func(p *player, ask func(r request) any) {
		d := &thought{self: self}
		d.asks = func(kind int, parts []*worth) *worth {
			r := request{kind: kind}
			if len(parts) > 0 {
				r.num, r.load = int(parts[0].num), parts[len(parts)-1]
			}
			reply := ask(r)
			d.calls = 0
			switch kind {
			case impl.ExprSpawn:
				return &worth{sign: "pid", num: int32(reply.(int))}
			case impl.ExprRecv:
				return reply.(*worth)
			}
			return &worth{sign: "int"}
		}
		does(d)
	})
}

// laboured is a player that counts cells; it begins with what its labour does, if there is room for what comes ahead of that.
func laboured(l *labour, does func()) *player {
	return playing(func(p *player, ask func(r request) any) {
		l.asks = func(kind int, parts []*thing, known *thing) *thing {
			r := request{kind: kind}
			if len(parts) > 0 {
				r.num, r.load = int(parts[0].num), twin(parts[len(parts)-1], map[*thing]*thing{})
			}
			r.room = func(load any) bool {
				l.clean(known)
				l.cells += count(load.(*thing))
				return l.cells <= 120
			}
			reply := ask(r)
			l.calls = 0
			switch kind {
			case impl.ExprSpawn:
				return &thing{sign: "pid", num: int32(reply.(int))}
			case impl.ExprRecv:
				return reply.(*thing)
			}
			return &thing{sign: "int"}
		}
		does()
	})
}

// stage is all players; pairs are who is linked, be they there still or not; wanted is what was done, event by event.
type stage struct {
	players []*player
	pairs   [][2]int
	outs    []impl.Told
	wanted  []int
	begin   func(self int, f any) *player
}

// meanStaged is RunMean of an expression that has a type, as the tests see it.
func meanStaged(e impl.Expr, list []impl.Event) impl.Answer {
	return meanStage(e).play(list)
}

// meanStage is a stage for an expression that has a type, on which nothing was played.
func meanStage(e impl.Expr) *stage {
	first := meant(0, func(d *thought) { d.of(e, map[string]*worth{}) })
	s := &stage{players: []*player{first}}
	s.begin = func(self int, f any) *player {
		return meant(self, func(d *thought) { f.(*worth).call(d, &worth{sign: "int"}) })
	}
	return s
}

// machStaged is RunMach of an expression that has a type, as the tests see it.
func machStaged(e impl.Expr, list []impl.Event, always bool) impl.Answer {
	first := &labour{always: always}
	s := &stage{players: []*player{laboured(first, func() { first.of(e, nil) })}}
	s.begin = func(self int, f any) *player {
		l := &labour{self: self, always: always, cells: count(f.(*thing))}
		var known *thing
		room := wantOf(func() { known = l.enter(f.(*thing), &thing{sign: "int"}) })
		p := laboured(l, func() { l.of(f.(*thing).made.Kids[0], known) })
		if room == impl.WantFull {
			p.end = impl.EndFull
		}
		return p
	}
	return s.play(list)
}

func (s *stage) play(list []impl.Event) impl.Answer {
	for i, event := range list {
		if i < 120 {
			s.wanted = append(s.wanted, -1)
		}
		if i < 120 && event.Proc >= 0 && event.Proc < len(s.players) && s.players[event.Proc].end == 0 {
			s.event(event)
			s.spread()
		}
	}
	out := impl.Answer{Outs: s.outs}
	for _, p := range s.players {
		p.stop()
		out.Ends = append(out.Ends, p.end)
		if p.end != 0 {
			p.box = nil
		}
		out.Boxes = append(out.Boxes, len(p.box))
	}
	return out
}

// spread ends who is linked with one that has ended, but is not done, as long as there is one.
func (s *stage) spread() {
	for again := true; again; {
		again = false
		for _, pair := range s.pairs {
			for k := range 2 {
				x, y := s.players[pair[k]], s.players[pair[1-k]]
				if x.end > impl.EndDone && y.end == 0 {
					y.end, again = impl.EndLink, true
				}
			}
		}
	}
}

// event does one event of a process that has not ended.
func (s *stage) event(event impl.Event) {
	p := s.players[event.Proc]
	switch {
	case event.Kind == impl.EventKill:
		p.end = impl.EndKill
	case event.Kind == impl.EventRun && p.waits != nil:
		s.takes(p)
	case event.Kind == impl.EventRun:
		r, _ := p.next()
		s.notes(r.kind)
		s.request(event.Proc, r)
	}
}

// notes notes what is done in this event.
func (s *stage) notes(kind int) { s.wanted[len(s.wanted)-1] = kind }

func (s *stage) takes(p *player) {
	if len(p.box) == 0 {
		return
	}
	s.notes(impl.ExprRecv)
	if r := p.waits; r.room != nil && !r.room(p.box[0]) {
		p.end = impl.EndFull
	}
	p.reply, p.box, p.waits = p.box[0], p.box[1:], nil
}

// request does what a process wants.
func (s *stage) request(n int, r request) {
	p := s.players[n]
	switch r.kind {
	case impl.ExprSpawn:
		if len(s.players) == 6 {
			p.end = impl.EndFull
			return
		}
		p.reply = len(s.players)
		s.players = append(s.players, s.begin(len(s.players), r.load))
	case impl.ExprSend:
		to := s.players[r.num]
		if len(to.box) == 6 && to.end == 0 {
			to.end = impl.EndFull
		}
		if to.end == 0 {
			to.box = append(to.box, r.load)
		}
	case impl.ExprRecv:
		p.waits = &r
		s.takes(p)
	case impl.ExprOut:
		s.outs = append(s.outs, impl.Told{Proc: n, Num: r.num})
	case impl.ExprLink:
		s.pairs = append(s.pairs, [2]int{n, r.num})
	default:
		p.end = map[int]int{impl.WantMore: 0, impl.WantDone: impl.EndDone, impl.WantDiv: impl.EndDiv, impl.WantFull: impl.EndFull}[r.kind]
	}
}
