package chart

// A set tells of each state, by its number, whether it is a member. There are
// no more states than names.
type set [26]bool

// A status has an empty memory for a state of which nothing is in memory.
type status struct {
	active set
	memory [26]set
}

func (s set) isEmpty() bool {
	return s == set{}
}

func (s set) meets(other set) bool {
	for i := range s {
		if s[i] && other[i] {
			return true
		}
	}
	return false
}

func (s set) with(other set) set {
	for i := range s {
		s[i] = s[i] || other[i]
	}
	return s
}

func (p plan) statusText(now status) string {
	text := p.names(now.active)
	for i, s := range p.states {
		if !now.memory[i].isEmpty() {
			names := p.names(now.memory[i])
			text = append(text, '/', s.name)
			text = append(text, names...)
		}
	}
	return string(text)
}

func (p plan) names(members set) []byte {
	names := []byte{}
	for i, s := range p.states {
		if members[i] {
			names = append(names, s.name)
		}
	}
	return names
}
