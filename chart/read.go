package chart

// A reader goes through a chart's text from the left and never looks beyond
// the next byte. Where it stops, it has read all bytes with which a chart can
// begin: so `at` is then the place that ErrText asks for.
type reader struct {
	text string
	at   int
	plan plan
}

// next answers 0 at the end, too: that byte stands nowhere in a chart.
func (r *reader) next() byte {
	if r.at < len(r.text) {
		return r.text[r.at]
	}
	return 0
}

func (r *reader) readChart() bool {
	if !r.readState(none, 1) {
		return false
	}
	return r.at == len(r.text)
}

func (r *reader) readState(outer int, depth int) bool {
	name := r.next()
	if !isName(name) {
		return false
	}
	s := len(r.plan.states)
	r.plan.states = append(r.plan.states, state{name: name, place: r.at, depth: depth, outer: outer})
	r.at++
	enter, ok := r.readActionsBehind('+')
	if !ok {
		return false
	}
	leave, ok := r.readActionsBehind('-')
	if !ok {
		return false
	}
	r.plan.states[s].enter = enter
	r.plan.states[s].leave = leave
	if !r.readBrackets(s, depth) {
		return false
	}
	r.plan.states[s].end = len(r.plan.states)
	return r.readTransitions(s)
}

// readActionsBehind reads nothing where the sign does not stand.
func (r *reader) readActionsBehind(sign byte) (string, bool) {
	if r.next() != sign {
		return "", true
	}
	r.at++
	actions := r.readActions()
	return actions, actions != ""
}

func (r *reader) readActions() string {
	begin := r.at
	for isAction(r.next()) {
		r.at++
	}
	return r.text[begin:r.at]
}

// readBrackets reads nothing where the state has no states within it.
func (r *reader) readBrackets(s int, depth int) bool {
	switch r.next() {
	case '(':
		r.plan.states[s].kind = orState
		return r.readInner(s, depth, 1, ')')
	case '[':
		r.plan.states[s].kind = andState
		return r.readInner(s, depth, 2, ']')
	}
	return true
}

func (r *reader) readInner(s int, depth int, least int, closing byte) bool {
	r.at++
	count := 0
	for isName(r.next()) {
		if !r.readState(s, depth+1) {
			return false
		}
		count++
	}
	if count < least || r.next() != closing {
		return false
	}
	r.at++
	return true
}

func (r *reader) readTransitions(own int) bool {
	for r.next() == '/' {
		if !r.readTransition(own) {
			return false
		}
	}
	return true
}

func (r *reader) readTransition(own int) bool {
	r.at++
	event := r.next()
	if !isEvent(event) {
		return false
	}
	r.at++
	conditions, ok := r.readConditions()
	if !ok {
		return false
	}
	if r.next() != '>' {
		return false
	}
	r.at++
	target, ok := r.readReference()
	if !ok {
		return false
	}
	markPlace := r.at
	mark := r.readMark()
	actions := r.readActions()
	r.plan.transitions = append(r.plan.transitions, transition{
		own: own, event: event, conditions: conditions,
		target: target, mark: mark, markPlace: markPlace, actions: actions,
	})
	return true
}

func (r *reader) readConditions() ([]condition, bool) {
	conditions := []condition{}
	sign := r.next()
	for sign == '&' || sign == '!' {
		r.at++
		of, ok := r.readReference()
		if !ok {
			return conditions, false
		}
		conditions = append(conditions, condition{of: of, active: sign == '&'})
		sign = r.next()
	}
	return conditions, true
}

func (r *reader) readReference() (reference, bool) {
	name := r.next()
	if !isName(name) {
		return reference{}, false
	}
	place := r.at
	r.at++
	return reference{name: name, place: place, state: none}, true
}

func (r *reader) readMark() byte {
	mark := r.next()
	if mark != '~' && mark != '*' {
		return 0
	}
	r.at++
	return mark
}

func isName(b byte) bool   { return 'A' <= b && b <= 'Z' }
func isEvent(b byte) bool  { return 'a' <= b && b <= 'z' }
func isAction(b byte) bool { return '0' <= b && b <= '9' }
