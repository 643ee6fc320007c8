package chart

// readTable goes by the form alone: there may be any number of rows, and they
// may name any number. Rows behind the first one too many are read, but not
// kept: nobody asks for them. What it answers beside false is no table.
func (r *reader) readTable() (table, bool) {
	t := table{}
	t.events = r.readRising()
	if !r.skip(';') {
		return t, false
	}
	t.beginning = r.readActions()
	if !r.skip(';') {
		return t, false
	}
	more := true
	for more {
		one, ok := r.readRow(len(t.events))
		if !ok {
			return t, false
		}
		if len(t.rows) <= maxRows {
			t.rows = append(t.rows, one)
		}
		more = r.at < len(r.text)
	}
	return t, true
}

// readRising stops at an event that does not come behind the last one.
func (r *reader) readRising() string {
	begin := r.at
	last := byte(0)
	event := r.next()
	for isEvent(event) && event > last {
		last = event
		r.at++
		event = r.next()
	}
	return r.text[begin:r.at]
}

func (r *reader) readRow(width int) (row, bool) {
	place := r.at
	same := none
	cells := []cell{}
	ok := true
	if r.skip('=') {
		same, ok = r.readNumber()
	} else {
		cells, ok = r.readCells(width)
	}
	text := r.text[place:r.at]
	if !ok || !r.skip(';') {
		return row{}, false
	}
	return row{place: place, text: text, same: same, cells: cells}, true
}

func (r *reader) readCells(width int) ([]cell, bool) {
	cells := []cell{}
	for len(cells) < width {
		if len(cells) > 0 && !r.skip(',') {
			return cells, false
		}
		one, ok := r.readCell()
		if !ok {
			return cells, false
		}
		cells = append(cells, one)
	}
	return cells, true
}

func (r *reader) readCell() (cell, bool) {
	next, ok := r.readNumber()
	if !ok || !r.skip(':') {
		return cell{}, false
	}
	actions := r.readActions()
	return cell{next: next, actions: actions}, true
}

// readNumber reads no digit behind a needless zero. A number that no row can
// have is answered as maxRows, however great it is.
func (r *reader) readNumber() (int, bool) {
	if r.skip('0') {
		return 0, true
	}
	begin := r.at
	number := 0
	digit := r.next()
	for isDigit(digit) {
		number = number*10 + int(digit-'0')
		if number > maxRows {
			number = maxRows
		}
		r.at++
		digit = r.next()
	}
	return number, r.at > begin
}
