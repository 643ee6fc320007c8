package chart

import (
	"math/rand"
	"strconv"
	"strings"
	"testing"
)

type runCase struct {
	table, events, out string
	row                int
}

func runRunCases(t *testing.T, cases []runCase) {
	t.Helper()
	for _, c := range cases {
		out, row, e, place := Run(c.table, c.events)
		if out != c.out || row != c.row || e != OK || place != 0 {
			t.Errorf("P6: Run(%.60q, %.60q) = %.60q, %d, %d, %d, want %.60q, %d", c.table, c.events, out, row, e, place, c.out, c.row)
		}
	}
}

func TestRun(t *testing.T) {
	runRunCases(t, []runCase{
		{shownTable, "", "12", 0}, {shownTable, "a", "12.", 1}, {shownTable, "b", "12.3", 0}, {shownTable, "ab", "12..", 0}, {shownTable, "baab", "12.3...3", 0},
		// a row with = has the cells of another one and a number of its own
		{"a;;1:1;2:2;=0;", "", "", 0}, {"a;;1:1;2:2;=0;", "a", ".1", 1}, {"a;;1:1;2:2;=0;", "aa", ".1.2", 2}, {"a;;1:1;2:2;=0;", "aaa", ".1.2.1", 1},
		{"ab;;1:,2:;=0;0:5,1:6;", "bb", "..6", 1}, {"ab;;1:,2:;=0;0:5,1:6;", "bbba", "..6..5", 0}, {"ab;;1:,2:;3:1,0:;=0;=1;", "aaaaa", "..1.1.1.1", 3},
		// each event has its own cell
		{"ckz;;0:1,0:2,0:3;", "ckzzkc", ".1.2.3.3.2.1", 0}, {"abcdefghijklmnopqrstuvwxyz;;" + strings.Repeat("0:1,", 25) + "0:7;", "ayz", ".1.1.7", 0},
		{"a;;0:9876543210;", "aa", ".9876543210.9876543210", 0},
		// no event at all
		{";;;", "", "", 0}, {";;;", "a;=", "...", 0}, {";12;;=0;=0;", "ab", "12..", 0},
	})
}

func TestRunNothingHappens(t *testing.T) {
	runRunCases(t, []runCase{
		{shownTable, "c", "12.", 0}, {shownTable, "acb", "12...", 0}, {shownTable, "ca\x00\xff.;,:=1AB b", "12" + strings.Repeat(".", 14), 0},
		{"b;;1:1;0:2;", "bacb", ".1...2", 0}, {"b;;1:1;0:2;", "ba", ".1.", 1}, {"b;;1:1;0:2;", "B\xe2b", "...1", 1},
	})
}

func TestRunManyRows(t *testing.T) {
	table := "m;;" + manyRows(99)
	out, row, e, place := Run(table, strings.Repeat("m", 98))
	if !strings.HasSuffix(out, ".95.96.97") || row != 98 || e != OK || place != 0 {
		t.Errorf("P6: %q, %d, %d, %d", out, row, e, place)
	}
	runRunCases(t, []runCase{{table, strings.Repeat("m", 99), out + ".98", 0}})
}

func TestRunLong(t *testing.T) {
	long := strings.Repeat("1", 599994)
	runRunCases(t, []runCase{
		{"a;;0:7;", strings.Repeat("a", 400), strings.Repeat(".7", 400), 0},
		{"a;;0:" + long + ";", "aaa", strings.Repeat("."+long, 3), 0},
	})
	for _, c := range []struct {
		table, events string
		e             Errno
		place         int
	}{
		{shownTable, strings.Repeat("a", 401), ErrLong, 0}, {"no", strings.Repeat("a", 401), ErrLong, 0}, {"a;;1:;", strings.Repeat("\x00", 1000000), ErrLong, 0},
		{"a;;0:1" + long + ";", "a", ErrLong, 0}, {"a;;0:1" + long + ";", strings.Repeat("a", 401), ErrLong, 0},
		{"a;;0:1" + long, "a", ErrTable, 600000}, {"", "", ErrTable, 0}, {"a;;1:;", "a", ErrTable, 3}, {"a;;0:;0:;", "", ErrTable, 6},
		{"a;;0:;x", strings.Repeat("a", 400), ErrTable, 6}, {"a;;0:;" + strings.Repeat("=0;", 99), "a", ErrTable, 300}, {shownChart, "a", ErrTable, 0},
	} {
		out, row, e, place := Run(c.table, c.events)
		if out != "" || row != 0 || e != c.e || place != c.place {
			t.Errorf("P6: Run(%.40q, %.40q) = %.40q, %d, %d, %d, want %d, %d", c.table, c.events, out, row, e, place, c.e, c.place)
		}
	}
}

// Every byte, so that no other than an event does anything.
func TestRunEveryByte(t *testing.T) {
	for b := 0; b < 256; b++ {
		out, row, _, _ := Run("aimz;;1:1,1:1,1:1,1:1;0:,0:,0:,0:;", string([]byte{byte(b)}))
		if strings.IndexByte("aimz", byte(b)) >= 0 {
			if out != ".1" || row != 1 {
				t.Errorf("P6: on byte %d: %q, %d", b, out, row)
			}
		} else if out != "." || row != 0 {
			t.Errorf("P6: on byte %d: %q, %d", b, out, row)
		}
	}
}

// expectRun is Run of a table, by other means.
func expectRun(table, events string) (string, int) {
	parts := strings.Split(table, ";")
	rows := parts[2:]
	out := parts[1]
	now := 0
	for _, b := range []byte(events) {
		out += "."
		column := strings.IndexByte(parts[0], b)
		if column < 0 {
			continue
		}
		row := rows[now]
		if row[0] == '=' {
			same, _ := strconv.Atoi(row[1:])
			row = rows[same]
		}
		number, actions, _ := strings.Cut(strings.Split(row, ",")[column], ":")
		now, _ = strconv.Atoi(number)
		out += actions
	}
	return out, now
}

func TestRunRandomTables(t *testing.T) {
	r := rand.New(rand.NewSource(4))
	tables := 0
	for tables < 3000 {
		table := randomTable(r)
		if e, _ := Load(table); e != OK {
			continue
		}
		tables++
		events := []byte{}
		for n := r.Intn(30); n > 0; n-- {
			events = append(events, table[r.Intn(1+strings.IndexByte(table, ';'))])
		}
		out, row := expectRun(table, string(events))
		runRunCases(t, []runCase{{table, string(events), out, row}})
	}
}
