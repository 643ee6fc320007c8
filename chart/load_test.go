package chart

import (
	"fmt"
	"math/rand"
	"regexp"
	"sort"
	"strconv"
	"strings"
	"testing"
)

const shownTable = "ab;12;1:,0:3;0:,0:;=0;"

var sampleTables = []string{
	shownTable, ";;;", ";12;;=0;=0;", "a;;0:;", "z;0;1:1;2:2;=0;",
	"az;;0:5,0:;0:,0:5;=1;=0;", "abc;9;1:1,2:2,3:3;=0;0:,0:,0:;3:,2:12,1:;=3;",
	"abcdefghijklmnopqrstuvwxyz;;" + strings.Repeat("1:,", 25) + "0:7;=0;",
	"m;;" + manyRows(99),
}

// manyRows answers rows for one event, each of other actions, leading onward.
func manyRows(count int) string {
	rows := ""
	for i := 0; i < count; i++ {
		rows += fmt.Sprintf("%d:%d;", (i+1)%count, i)
	}
	return rows
}

type loadCase struct {
	table string
	e     Errno
	place int
}

func runLoadCases(t *testing.T, cases []loadCase) {
	t.Helper()
	for _, c := range cases {
		if e, place := Load(c.table); e != c.e || place != c.place {
			t.Errorf("P5: Load(%.60q) = %d, %d, want %d, %d", c.table, e, place, c.e, c.place)
		}
	}
}

func TestLoadOK(t *testing.T) {
	for _, table := range sampleTables {
		runLoadCases(t, []loadCase{{table, OK, 0}})
	}
	runLoadCases(t, []loadCase{
		{";0123456789;;", OK, 0}, {"a;;0:9876543210;", OK, 0}, {"a;;0:;0:0;", OK, 0}, {"a;;0:1;0:;", OK, 0},
		{"ab;;0:,0:1;0:1,0:;", OK, 0}, {"a;;10:;" + manyRows(10), OK, 0}, {"a;;1:;0:;=0;=1;", OK, 0},
	})
}

func TestLoadForm(t *testing.T) {
	runLoadCases(t, []loadCase{
		// more bytes could make it a table
		{"", ErrTable, 0}, {"az", ErrTable, 2}, {"a;", ErrTable, 2}, {"a;1", ErrTable, 3}, {"a;;", ErrTable, 3}, {";;", ErrTable, 2},
		{"a;;0", ErrTable, 4}, {"a;;10", ErrTable, 5}, {"a;;0:", ErrTable, 5}, {"a;;0:1", ErrTable, 6}, {"a;;=", ErrTable, 4}, {"a;;=0", ErrTable, 5},
		{"ab;;0:", ErrTable, 6}, {"ab;;0:,", ErrTable, 7}, {"a;;0:;0", ErrTable, 7}, {"a;;0:;=", ErrTable, 7}, {";;;=0", ErrTable, 5},
		// a byte with which no table begins
		{" ", ErrTable, 0}, {"\x00", ErrTable, 0}, {"A;;;", ErrTable, 0}, {"`;;", ErrTable, 0}, {"{;;", ErrTable, 0}, {"1;;;", ErrTable, 0}, {"a,b;;", ErrTable, 1},
		{"ba;;", ErrTable, 1}, {"bb;;", ErrTable, 1}, {"acb;;", ErrTable, 2}, {"za;;", ErrTable, 1},
		{"a;/;", ErrTable, 2}, {"a;:;", ErrTable, 2}, {"a;1a;", ErrTable, 3}, {"a;;;", ErrTable, 3}, {"a;;:;", ErrTable, 3}, {"a;;,", ErrTable, 3}, {"a;;a", ErrTable, 3},
		{"a;;00:;", ErrTable, 4}, {"a;;01:;", ErrTable, 4}, {"a;;0:;00:;", ErrTable, 7}, {"a;;=00;", ErrTable, 5}, {"a;;=01;", ErrTable, 5}, {"a;;-1:;", ErrTable, 3},
		{"a;;1;", ErrTable, 4}, {"a;;1,", ErrTable, 4}, {"a;;1::", ErrTable, 5}, {"a;;1:=", ErrTable, 5}, {"a;;0:,", ErrTable, 5}, {"ab;;0:;", ErrTable, 6},
		{"ab;;0:,;", ErrTable, 7}, {"ab;;0:,=0;", ErrTable, 7}, {"ab;;0:,0:,", ErrTable, 9}, {"a;;=;", ErrTable, 4}, {"a;;==0;", ErrTable, 4},
		{"a;;=0:;", ErrTable, 5}, {"a;;=0,", ErrTable, 5}, {"a;;=-1;", ErrTable, 4}, {";;0:;", ErrTable, 2}, {";;,", ErrTable, 2}, {";;=0=", ErrTable, 4},
		{"a;;0:;\n", ErrTable, 6}, {"a;;0:;\x00", ErrTable, 6}, {"a;;0:;;", ErrTable, 6}, {"a;;0:; =0;", ErrTable, 6}, {";;;a", ErrTable, 3},
		// the form is ahead of what the rows say
		{"a;;7:;=9;0:;0:;x", ErrTable, 15}, {"a;;=0;=1;0", ErrTable, 10}, {";;;;;;x", ErrTable, 6},
		{"a;;7:;" + strings.Repeat("=0;", 200) + "=", ErrTable, 607}, {"a;;0:;" + strings.Repeat("=0;", 200) + "0:;=00;", ErrTable, 611},
	})
}

func TestLoadRowsTooMany(t *testing.T) {
	hundred := "a;;" + manyRows(100)
	runLoadCases(t, []loadCase{
		{";;;" + strings.Repeat("=0;", 98), OK, 0}, {";;;" + strings.Repeat("=0;", 99), ErrTable, 297}, {";;;" + strings.Repeat("=0;", 5000), ErrTable, 297},
		{"a;;" + manyRows(99), OK, 0}, {hundred, ErrTable, strings.Index(hundred, "0:99;")},
		{";;" + strings.Repeat(";", 99), ErrTable, 3}, {";;" + strings.Repeat(";", 100), ErrTable, 101}, {";;" + strings.Repeat(";", 599998), ErrTable, 101},
		// ahead of what the rows say
		{"a;;7777:;=5;0:;0:;" + strings.Repeat("=0;", 99), ErrTable, 303},
	})
}

func TestLoadWhatRowsSay(t *testing.T) {
	many := "a;;" + manyRows(97)
	runLoadCases(t, []loadCase{
		// a number that no row has
		{"a;;1:;", ErrTable, 3}, {"a;;0:;2:;", ErrTable, 6}, {"a;;2:;0:;", ErrTable, 3}, {"ab;;0:,1:;", ErrTable, 4}, {"ab;;0:,1:;1:,2:;", ErrTable, 10},
		{"a;;99:;" + strings.Repeat("=0;", 98), ErrTable, 3}, {"a;;98:;" + strings.Repeat("=0;", 98), OK, 0},
		{"a;;100:;", ErrTable, 3}, {"a;;9223372036854775808:;", ErrTable, 3}, {"a;;18446744073709551616:;", ErrTable, 3}, {"a;;4294967296:;", ErrTable, 3},
		{"a;;0:;1" + strings.Repeat("0", 500000) + ":;", ErrTable, 6}, {"a;;256:;", ErrTable, 3},
		// = without an earlier row that has no =
		{"a;;=0;", ErrTable, 3}, {";;=0;", ErrTable, 2}, {"a;;0:;=1;", ErrTable, 6}, {"a;;0:;=2;0:1;", ErrTable, 6}, {"a;;0:;=0;=1;", ErrTable, 9}, {"a;;=1;0:;", ErrTable, 3},
		{"a;;0:;=18446744073709551616;", ErrTable, 6}, {"a;;0:;=100;", ErrTable, 6}, {"a;;0:;=256;", ErrTable, 6}, {"a;;0:;=99;", ErrTable, 6},
		{many + "=96;=97;", ErrTable, len(many) + 4}, {many + "=96;=98;", ErrTable, len(many) + 4}, {many + "=96;=96;", OK, 0},
		// the same cells
		{"a;;0:;0:;", ErrTable, 6}, {";;;;", ErrTable, 3}, {"a;;0:1;0:;0:1;", ErrTable, 10}, {"ab;;0:,1:;0:,0:;0:,1:;", ErrTable, 16}, {"a;;0:;=0;0:;", ErrTable, 9},
		{many + "0:96;=0;", ErrTable, len(many)}, {many + "=0;1:0;", ErrTable, len(many) + 3},
		// the first of several
		{"a;;0:;0:;9:;=9;", ErrTable, 6}, {"a;;0:;=7;9:;0:;", ErrTable, 6}, {"a;;0:;9:;=7;0:;", ErrTable, 6}, {"a;;2:;0:;1:;9:;", ErrTable, 12},
		{"a;;9:;9:;", ErrTable, 3}, {"a;;0:;1:;=5;1:;", ErrTable, 9},
	})
}

func TestLoadLong(t *testing.T) {
	fill := strings.Repeat("1", 599994)
	runLoadCases(t, []loadCase{
		{"a;;0:" + fill + ";", OK, 0}, {"a;;0:1" + fill + ";", ErrLong, 0}, {"a;;0:1" + fill, ErrTable, 600000}, {"a;;0:11" + fill, ErrLong, 0},
		{strings.Repeat("x", 600000), ErrTable, 1}, {strings.Repeat("x", 600001), ErrLong, 0}, {strings.Repeat("\n", 2000000), ErrLong, 0},
	})
}

const numberForm = `(0|[1-9][0-9]*)`

var (
	headForm = regexp.MustCompile(`^` + strings.Join(strings.Split("abcdefghijklmnopqrstuvwxyz", ""), "?") + `?;[0-9]*;`)
	rowsForm = [27]*regexp.Regexp{}
)

func hasRowsForm(rows string, width int) bool {
	if rowsForm[width] == nil {
		cells := strings.TrimSuffix(strings.Repeat(numberForm+`:[0-9]*,`, width), ",")
		rowsForm[width] = regexp.MustCompile(`^((=` + numberForm + `|` + cells + `);)+$`)
	}
	return rowsForm[width].MatchString(rows)
}

func hasTableForm(text string) bool {
	head := headForm.FindString(text)
	return head != "" && hasRowsForm(text[len(head):], strings.IndexByte(text, ';'))
}

// canBeginTable tries all ways to go on to the end of a row.
func canBeginTable(text string) bool {
	width := strings.IndexByte(text+";", ';')
	for cells := width; cells >= 0; cells-- {
		rest := strings.Repeat(",0:", cells) + ";"
		for _, more := range []string{rest, ":" + rest, strings.TrimPrefix(rest, ","), ";" + strings.TrimPrefix(rest, ","), ";;" + strings.TrimPrefix(rest, ",")} {
			if hasTableForm(text + more) {
				return true
			}
		}
	}
	return hasTableForm(text) || hasTableForm(text+"0;")
}

// expectLoad is Load, by other means.
func expectLoad(text string) (Errno, int) {
	if len(text) > 600000 {
		return ErrLong, 0
	}
	if !hasTableForm(text) {
		return ErrTable, sort.Search(len(text), func(i int) bool { return !canBeginTable(text[:i+1]) })
	}
	place := len(headForm.FindString(text))
	rows := strings.SplitAfter(text[place:], ";")
	rows = rows[:len(rows)-1]
	if len(rows) > 99 {
		return ErrTable, place + len(strings.Join(rows[:99], ""))
	}
	first := map[string]int{}
	own := map[string]bool{}
	for i, row := range rows {
		if row[0] == '=' {
			if !own[row[1:len(row)-1]] {
				return ErrTable, place
			}
		} else {
			for _, cell := range strings.Split(row, ",") {
				number, _, found := strings.Cut(cell, ":")
				next, err := strconv.Atoi(number)
				if found && (err != nil || next >= len(rows)) {
					return ErrTable, place
				}
			}
			if _, stood := first[row]; stood {
				return ErrTable, place
			}
			first[row] = i
			own[strconv.Itoa(i)] = true
		}
		place += len(row)
	}
	return OK, 0
}

func mustLoadAsExpected(t *testing.T, text string) Errno {
	t.Helper()
	e, place := Load(text)
	wantE, wantPlace := expectLoad(text)
	if e != wantE || place != wantPlace {
		t.Fatalf("P5: Load(%q) = %d, %d, want %d, %d", text, e, place, wantE, wantPlace)
	}
	return e
}

// Every text that a table can begin with, up to some length, with one byte more.
func TestLoadEveryShortText(t *testing.T) {
	begins := []string{""}
	right := 0
	for length := 1; length <= 10; length++ {
		longer := []string{}
		for _, begin := range begins {
			for _, b := range []byte("ab01;:=, ") {
				text := begin + string(b)
				if mustLoadAsExpected(t, text) == OK {
					right++
				}
				if canBeginTable(text) {
					longer = append(longer, text)
				}
			}
		}
		begins = longer
	}
	if right < 100 {
		t.Errorf("only %d texts that are tables were tried", right)
	}
}

// randomTable answers a text that has a table's form, and is often a table.
func randomTable(r *rand.Rand) string {
	text := ""
	width := r.Intn(4)
	for i := 0; i < width; i++ {
		text += string(rune('a' + 6*i + r.Intn(6)))
	}
	text += ";" + randomActions(r) + ";"
	rows := 1 + r.Intn(5)
	if r.Intn(10) == 0 {
		rows = 90 + r.Intn(15)
	}
	for i := 0; i < rows; i++ {
		if i > 0 && (width == 0 || r.Intn(3) == 0) {
			text += fmt.Sprintf("=%d;", r.Intn(1+i/4))
			continue
		}
		cells := []string{}
		for len(cells) < width {
			next := r.Intn(rows)
			if r.Intn(300) == 0 {
				next += rows - 1
			}
			cells = append(cells, fmt.Sprintf("%d:%s", next, randomActions(r)))
		}
		text += strings.Join(cells, ",") + ";"
	}
	return text
}

func randomActions(r *rand.Rand) string {
	return []string{"", "", "0", "1", "12", "907"}[r.Intn(6)]
}

func TestLoadRandomTables(t *testing.T) {
	r := rand.New(rand.NewSource(3))
	seen := [9]int{}
	for i := 0; i < 4000; i++ {
		text := randomTable(r)
		seen[mustLoadAsExpected(t, text)]++
		mustLoadAsExpected(t, edit(r, text, tableBytes))
	}
	if seen[OK] < 500 || seen[ErrTable] < 500 {
		t.Errorf("of the texts tried %d are tables, %d are not", seen[OK], seen[ErrTable])
	}
}
