package chart

// A table's events are rising; each row without `=` has a cell for each.
type table struct {
	events    string
	beginning string
	rows      []row
}

// A row that is written with `=` names the row with the same cells and has
// none of its own; in any other, same is none.
type row struct {
	place int
	text  string
	same  int
	cells []cell
}

type cell struct {
	next    int
	actions string
}

// load makes a table of a text, or answers the error of Load. In a table that
// it answers with OK every number that a row or a cell names is that of a row.
func load(text string) (table, Errno, int) {
	if len(text) > maxTable {
		return table{}, ErrLong, 0
	}
	r := reader{text: text}
	t, ok := r.readTable()
	if !ok {
		return table{}, ErrTable, r.at
	}
	if len(t.rows) > maxRows {
		return table{}, ErrTable, t.rows[maxRows].place
	}
	for i := range t.rows {
		if !t.isRight(i) {
			return table{}, ErrTable, t.rows[i].place
		}
	}
	return t, OK, 0
}

func (t table) isRight(number int) bool {
	one := t.rows[number]
	if one.same != none {
		return one.same < number && t.rows[one.same].same == none
	}
	return t.leadsToRows(one) && !t.stoodBefore(number)
}

func (t table) leadsToRows(one row) bool {
	for _, c := range one.cells {
		if c.next >= len(t.rows) {
			return false
		}
	}
	return true
}

// stoodBefore compares texts, as a number is written in one way alone. Where an
// earlier row with `=` has the same cells, so has one ahead of that without.
func (t table) stoodBefore(number int) bool {
	for i := 0; i < number; i++ {
		if t.rows[i].text == t.rows[number].text {
			return true
		}
	}
	return false
}

// column answers none for a byte that is no event of the table.
func (t table) column(event byte) int {
	for i := 0; i < len(t.events); i++ {
		if t.events[i] == event {
			return i
		}
	}
	return none
}

func (t table) cellAt(number int, column int) cell {
	one := t.rows[number]
	if one.same != none {
		one = t.rows[one.same]
	}
	return one.cells[column]
}

// play answers what is put out, and the number of the row at the end.
func (t table) play(events string) (string, int) {
	out := []byte(t.beginning)
	number := 0
	for i := 0; i < len(events); i++ {
		out = append(out, '.')
		column := t.column(events[i])
		if column == none {
			continue
		}
		c := t.cellAt(number, column)
		out = append(out, c.actions...)
		number = c.next
	}
	return string(out), number
}
