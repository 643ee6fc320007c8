package chart

// A player goes from status to status and keeps what is put out.
type player struct {
	plan plan
	now  status
	out  []byte
}

// An aim says how a state is entered: towards a target, or by the memory of a
// state, or, if both are none, towards none.
type aim struct {
	target int
	mark   byte
	memory int
}

func (p *player) begin() {
	p.enter(0, aim{target: none, memory: none})
}

// step settles what is taken before anything changes, as the status ahead of
// the step judges it.
func (p *player) step(event byte) {
	called := p.called(event)
	taken := p.withoutClashes(called)
	for _, t := range taken {
		p.take(p.plan.transitions[t])
	}
}

func (p *player) called(event byte) []int {
	called := []int{}
	for s := range p.plan.states {
		if p.plan.states[s].kind != leaf || !p.now.active[s] {
			continue
		}
		t := p.calledFrom(s, event)
		if t != none && !isAmong(called, t) {
			called = append(called, t)
		}
	}
	return called
}

func isAmong(numbers []int, number int) bool {
	for _, n := range numbers {
		if n == number {
			return true
		}
	}
	return false
}

// calledFrom goes outward from an active leaf.
func (p *player) calledFrom(s int, event byte) int {
	for s != none {
		t := p.firstPossible(s, event)
		if t != none {
			return t
		}
		s = p.plan.states[s].outer
	}
	return none
}

func (p *player) firstPossible(s int, event byte) int {
	for i, t := range p.plan.transitions {
		if t.own == s && t.event == event && p.hold(t.conditions) {
			return i
		}
	}
	return none
}

func (p *player) hold(conditions []condition) bool {
	for _, c := range conditions {
		if p.now.active[c.of.state] != c.active {
			return false
		}
	}
	return true
}

func (p *player) withoutClashes(called []int) []int {
	taken := []int{}
	gone := set{}
	for _, t := range called {
		left := p.leftBy(p.plan.transitions[t])
		if left.meets(gone) {
			continue
		}
		gone = gone.with(left)
		taken = append(taken, t)
	}
	return taken
}

func (p *player) leftBy(t transition) set {
	scope := p.plan.scope(t)
	if scope == none {
		return p.now.active
	}
	return p.activeBelow(scope)
}

func (p *player) activeBelow(outer int) set {
	found := set{}
	for s := outer + 1; s < p.plan.states[outer].end; s++ {
		found[s] = p.now.active[s]
	}
	return found
}

func (p *player) take(t transition) {
	left := p.leftBy(t)
	p.remember(left)
	p.leave(left)
	p.put(t.actions)
	first := 0
	scope := p.plan.scope(t)
	if scope != none {
		first = p.plan.innerTowards(scope, t.target.state)
	}
	p.enter(first, aim{target: t.target.state, mark: t.mark, memory: none})
}

func (p *player) remember(left set) {
	for i, s := range p.plan.states {
		if !left[i] || !s.remembered {
			continue
		}
		memory := p.activeBelow(i)
		if !s.wholly {
			inner := p.plan.innerAmong(i, memory)
			memory = set{}
			memory[inner] = true
		}
		p.now.memory[i] = memory
	}
}

func (p *player) leave(left set) {
	for s := len(p.plan.states) - 1; s >= 0; s-- {
		if left[s] {
			p.put(p.plan.states[s].leave)
			p.now.active[s] = false
		}
	}
}

// enter goes inward, to states of greater numbers alone, and so it ends.
func (p *player) enter(s int, a aim) {
	entered := p.plan.states[s]
	p.put(entered.enter)
	p.now.active[s] = true
	switch entered.kind {
	case andState:
		for i := s + 1; i < entered.end; i++ {
			if p.plan.states[i].outer == s {
				p.enter(i, a)
			}
		}
	case orState:
		inner, onward := p.choose(s, a)
		p.enter(inner, onward)
	}
}

// choose answers which inner state of an or-state is entered, and how.
func (p *player) choose(s int, a aim) (int, aim) {
	freely := aim{target: none, memory: none}
	if a.memory != none {
		return p.plan.innerAmong(s, p.now.memory[a.memory]), a
	}
	if a.target == none {
		return s + 1, freely
	}
	if p.plan.isBelow(a.target, s) {
		return p.plan.innerTowards(s, a.target), a
	}
	if a.target != s || a.mark == 0 || p.now.memory[s].isEmpty() {
		return s + 1, freely
	}
	inner := p.plan.innerAmong(s, p.now.memory[s])
	if a.mark == '*' {
		return inner, aim{target: none, memory: s}
	}
	return inner, freely
}

func (p *player) put(actions string) {
	p.out = append(p.out, actions...)
}
