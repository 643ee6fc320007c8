package chart

// readChart makes a plan of a text; what it answers beside false is no plan.
func (r *reader) readChart() (plan, bool) {
	p := plan{}
	if !r.readState(&p, none, 1) {
		return p, false
	}
	return p, r.at == len(r.text)
}

func (r *reader) readState(p *plan, outer int, depth int) bool {
	name := r.next()
	if !isName(name) {
		return false
	}
	s := len(p.states)
	p.states = append(p.states, state{name: name, place: r.at, depth: depth, outer: outer})
	r.at++
	enter, ok := r.readActionsBehind('+')
	if !ok {
		return false
	}
	leave, ok := r.readActionsBehind('-')
	if !ok {
		return false
	}
	p.states[s].enter = enter
	p.states[s].leave = leave
	if !r.readBrackets(p, s, depth) {
		return false
	}
	p.states[s].end = len(p.states)
	return r.readTransitions(p, s)
}

// readActionsBehind reads nothing where the sign does not stand.
func (r *reader) readActionsBehind(sign byte) (string, bool) {
	if !r.skip(sign) {
		return "", true
	}
	actions := r.readActions()
	return actions, actions != ""
}

// readBrackets reads nothing where the state has no states within it.
func (r *reader) readBrackets(p *plan, s int, depth int) bool {
	switch r.next() {
	case '(':
		p.states[s].kind = orState
		return r.readInner(p, s, depth, 1, ')')
	case '[':
		p.states[s].kind = andState
		return r.readInner(p, s, depth, 2, ']')
	}
	return true
}

func (r *reader) readInner(p *plan, s int, depth int, least int, closing byte) bool {
	r.at++
	count := 0
	for isName(r.next()) {
		if !r.readState(p, s, depth+1) {
			return false
		}
		count++
	}
	if count < least {
		return false
	}
	return r.skip(closing)
}

func (r *reader) readTransitions(p *plan, own int) bool {
	for r.next() == '/' {
		if !r.readTransition(p, own) {
			return false
		}
	}
	return true
}

func (r *reader) readTransition(p *plan, own int) bool {
	r.at++
	event := r.next()
	if !isEvent(event) {
		return false
	}
	r.at++
	conditions, ok := r.readConditions()
	if !ok {
		return false
	}
	if !r.skip('>') {
		return false
	}
	target, ok := r.readReference()
	if !ok {
		return false
	}
	markPlace := r.at
	mark := r.readMark()
	actions := r.readActions()
	p.transitions = append(p.transitions, transition{
		own: own, event: event, conditions: conditions,
		target: target, mark: mark, markPlace: markPlace, actions: actions,
	})
	return true
}

func (r *reader) readConditions() ([]condition, bool) {
	conditions := []condition{}
	sign := r.next()
	for sign == '&' || sign == '!' {
		r.at++
		of, ok := r.readReference()
		if !ok {
			return conditions, false
		}
		conditions = append(conditions, condition{of: of, active: sign == '&'})
		sign = r.next()
	}
	return conditions, true
}

func (r *reader) readReference() (reference, bool) {
	name := r.next()
	if !isName(name) {
		return reference{}, false
	}
	place := r.at
	r.at++
	return reference{name: name, place: place, state: none}, true
}

func (r *reader) readMark() byte {
	mark := r.next()
	if mark != '~' && mark != '*' {
		return 0
	}
	r.at++
	return mark
}
