// Package chart: statecharts, and a compiler that makes flat tables of them: see DOC.md.
package chart

// Errno is what a call answers: OK or the reason for a refusal.
type Errno int

const (
	OK        Errno = 0
	ErrLong   Errno = 1 // above a limit
	ErrText   Errno = 2 // no chart
	ErrDeep   Errno = 3 // too many states within states
	ErrTwice  Errno = 4 // a name that stands twice
	ErrName   Errno = 5 // a name that no state has
	ErrMemory Errno = 6 // no memory of such a state
	ErrLarge  Errno = 7 // too many statuses
	ErrTable  Errno = 8 // no table
)

const (
	maxChart  = 160
	maxDepth  = 6
	maxEvents = 400
	maxTable  = 600000
	maxRows   = 99
)

// Check tells whether a text is a chart (P2).
func Check(chart string) (Errno, int) {
	_, problem, place := understand(chart)
	return problem, place
}

// Play plays a chart (P3).
func Play(chart string, events string) (string, string, Errno, int) {
	if len(events) > maxEvents {
		return "", "", ErrLong, 0
	}
	read, problem, place := understand(chart)
	if problem != OK {
		return "", "", problem, place
	}
	p := player{plan: read}
	p.begin()
	for i := 0; i < len(events); i++ {
		p.out = append(p.out, '.')
		p.step(events[i])
	}
	status := p.plan.statusText(p.now)
	return string(p.out), status, OK, 0
}

// Compile makes a table of a chart (P4, P7).
func Compile(chart string, rows int) (string, Errno, int) {
	read, problem, place := understand(chart)
	if problem != OK {
		return "", problem, place
	}
	if rows > maxRows {
		rows = maxRows
	}
	table, ok := read.compile(rows)
	if !ok {
		return "", ErrLarge, 0
	}
	return table, OK, 0
}

// Load tells whether a text is a table (P5).
func Load(table string) (Errno, int) {
	_, problem, place := load(table)
	return problem, place
}

// Run plays a table (P6, P7).
func Run(table string, events string) (string, int, Errno, int) {
	if len(events) > maxEvents {
		return "", 0, ErrLong, 0
	}
	loaded, problem, place := load(table)
	if problem != OK {
		return "", 0, problem, place
	}
	out, last := loaded.play(events)
	return out, last, OK, 0
}
