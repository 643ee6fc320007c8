package chart

import "strconv"

// A compiler numbers statuses as it meets them: a status and the cells of its
// row go by the same number.
type compiler struct {
	player   player
	events   string
	statuses []status
	rows     []string
}

// compile answers false if there are more statuses than the limit. It stops as
// soon as that is known, as a chart may have very many.
func (p plan) compile(limit int) (string, bool) {
	c := compiler{player: player{plan: p}, events: p.events()}
	c.player.begin()
	beginning := string(c.player.out)
	c.statuses = append(c.statuses, c.player.now)
	for i := 0; i < len(c.statuses); i++ {
		if len(c.statuses) > limit {
			return "", false
		}
		cells := c.cells(i)
		c.rows = append(c.rows, cells)
	}
	return c.tableText(beginning), true
}

// events answers the events of the transitions, in the order of the alphabet.
func (p plan) events() string {
	events := []byte{}
	for event := byte('a'); event <= 'z'; event++ {
		if p.hasEvent(event) {
			events = append(events, event)
		}
	}
	return string(events)
}

func (p plan) hasEvent(event byte) bool {
	for _, t := range p.transitions {
		if t.event == event {
			return true
		}
	}
	return false
}

// cells answers the cells of a status, and numbers those that it leads to.
func (c *compiler) cells(number int) string {
	text := []byte{}
	for i := 0; i < len(c.events); i++ {
		if i > 0 {
			text = append(text, ',')
		}
		c.player.now = c.statuses[number]
		c.player.out = []byte{}
		c.player.step(c.events[i])
		reached := c.player.now
		next := c.giveNumber(reached)
		digits := strconv.Itoa(next)
		text = append(text, digits...)
		text = append(text, ':')
		text = append(text, c.player.out...)
	}
	return string(text)
}

// giveNumber answers the number that a status has, or else gives it the next one.
func (c *compiler) giveNumber(reached status) int {
	for i := range c.statuses {
		if c.statuses[i] == reached {
			return i
		}
	}
	c.statuses = append(c.statuses, reached)
	return len(c.statuses) - 1
}

func (c *compiler) tableText(beginning string) string {
	text := []byte(c.events)
	text = append(text, ';')
	text = append(text, beginning...)
	text = append(text, ';')
	for i, cells := range c.rows {
		first := c.firstAlike(cells)
		if first < i {
			cells = "=" + strconv.Itoa(first)
		}
		text = append(text, cells...)
		text = append(text, ';')
	}
	return string(text)
}

// firstAlike compares texts, as a number is written in one way alone. It
// answers the number of rows if there is no such row.
func (c *compiler) firstAlike(cells string) int {
	for i, other := range c.rows {
		if other == cells {
			return i
		}
	}
	return len(c.rows)
}
