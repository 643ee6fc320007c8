package chart

// understand makes a plan of a chart, or answers the error of Check. A plan
// that it answers with OK has at most 26 states, as no name stands twice.
func understand(text string) (plan, Errno, int) {
	if len(text) > maxChart {
		return plan{}, ErrLong, 0
	}
	r := reader{text: text}
	p, ok := r.readChart()
	if !ok {
		return plan{}, ErrText, r.at
	}
	place := p.firstTooDeep()
	if place != none {
		return plan{}, ErrDeep, place
	}
	place = p.firstTwice()
	if place != none {
		return plan{}, ErrTwice, place
	}
	place = p.resolve()
	if place != none {
		return plan{}, ErrName, place
	}
	place = p.markRemembered()
	if place != none {
		return plan{}, ErrMemory, place
	}
	return p, OK, 0
}

func (p *plan) firstTooDeep() int {
	for _, s := range p.states {
		if s.depth > maxDepth {
			return s.place
		}
	}
	return none
}

func (p *plan) firstTwice() int {
	for i, s := range p.states {
		if p.numberOf(s.name) < i {
			return s.place
		}
	}
	return none
}

// numberOf answers the first state of that name, or none.
func (p *plan) numberOf(name byte) int {
	for i, s := range p.states {
		if s.name == name {
			return i
		}
	}
	return none
}

// resolve finds the states that conditions and targets name. It answers the
// place of the first name that no state has, or none.
func (p *plan) resolve() int {
	for i, t := range p.transitions {
		for j, c := range t.conditions {
			s := p.numberOf(c.of.name)
			if s == none {
				return c.of.place
			}
			p.transitions[i].conditions[j].of.state = s
		}
		s := p.numberOf(t.target.name)
		if s == none {
			return t.target.place
		}
		p.transitions[i].target.state = s
	}
	return none
}

// markRemembered answers the place of the first mark behind the name of a
// state that is no or-state, or none.
func (p *plan) markRemembered() int {
	for _, t := range p.transitions {
		if t.mark == 0 {
			continue
		}
		s := t.target.state
		if p.states[s].kind != orState {
			return t.markPlace
		}
		p.states[s].remembered = true
		if t.mark == '*' {
			p.states[s].wholly = true
		}
	}
	return none
}
