package chart

// none stands where a state's or a transition's number would stand.
const none = -1

const (
	leaf     = 0
	orState  = 1
	andState = 2
)

// A plan is what a chart says. States go by their numbers, from 0 on in text
// order: so those below a state follow it without a gap. The transitions are
// in text order too.
type plan struct {
	states      []state
	transitions []transition
}

type state struct {
	name  byte
	place int
	depth int
	kind  int
	outer int // the state that it is an inner one of, or none
	end   int // the first number behind those below it
	enter string
	leave string

	remembered bool
	wholly     bool // some target names it with `*`
}

type transition struct {
	own        int
	event      byte
	conditions []condition
	target     reference
	mark       byte // 0 if there is none
	markPlace  int
	actions    string
}

type condition struct {
	of     reference
	active bool
}

// A reference is a name that stands for a state; the state's number is known
// once the whole chart has been read.
type reference struct {
	name  byte
	place int
	state int
}

func (p plan) isBelow(s int, outer int) bool {
	return outer < s && s < p.states[outer].end
}

// innerTowards answers the inner state of s that is t or that t is below.
func (p plan) innerTowards(s int, t int) int {
	for i := s + 1; i < p.states[s].end; i++ {
		if p.states[i].outer == s && (i == t || p.isBelow(t, i)) {
			return i
		}
	}
	return s + 1
}

// innerAmong answers the inner state of s that is one of the members.
func (p plan) innerAmong(s int, members set) int {
	for i := s + 1; i < p.states[s].end; i++ {
		if p.states[i].outer == s && members[i] {
			return i
		}
	}
	return s + 1
}

func (p plan) scope(t transition) int {
	s := p.states[t.own].outer
	for s != none {
		if p.states[s].kind == orState && p.isBelow(t.target.state, s) {
			return s
		}
		s = p.states[s].outer
	}
	return none
}
