package chart

// A reader goes through a text from the left and never looks beyond the next
// byte. Where it stops, it has read all bytes with which a chart or a table
// can begin: so `at` is then the place that ErrText or ErrTable asks for.
type reader struct {
	text string
	at   int
}

// next answers 0 at the end, too: that byte stands nowhere in a chart or table.
func (r *reader) next() byte {
	if r.at < len(r.text) {
		return r.text[r.at]
	}
	return 0
}

// skip goes on only where the sign stands.
func (r *reader) skip(sign byte) bool {
	if r.next() != sign {
		return false
	}
	r.at++
	return true
}

func (r *reader) readActions() string {
	begin := r.at
	for isDigit(r.next()) {
		r.at++
	}
	return r.text[begin:r.at]
}

func isName(b byte) bool  { return 'A' <= b && b <= 'Z' }
func isEvent(b byte) bool { return 'a' <= b && b <= 'z' }
func isDigit(b byte) bool { return '0' <= b && b <= '9' }
