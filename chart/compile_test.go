package chart

import (
	"math/rand"
	"sort"
	"strconv"
	"strings"
	"testing"
)

type compileCase struct {
	chart string
	rows  int
	table string
	e     Errno
	place int
}

func runCompileCases(t *testing.T, cases []compileCase) {
	t.Helper()
	for _, c := range cases {
		table, e, place := Compile(c.chart, c.rows)
		if table != c.table || e != c.e || place != c.place {
			t.Errorf("P4: Compile(%.170q, %d) = %.300q, %d, %d, want %.300q, %d, %d", c.chart, c.rows, table, e, place, c.table, c.e, c.place)
		}
	}
}

func TestCompile(t *testing.T) {
	runCompileCases(t, []compileCase{
		// no events: one status, and a row without cells
		{"A", 99, ";;;", OK, 0}, {"A+12-3", 99, ";12;;", OK, 0}, {"A+1[B+2(C+3D)E+4]", 99, ";1234;;", OK, 0},
		// actions of the steps
		{"A+1-2/a>A3", 99, "a;1;0:231;", OK, 0}, {"A(B/a>C1C/a>B)", 99, "a;;1:1;0:;", OK, 0}, {"A-7(B+1-2/x>C3C+4-5/y>A6)", 99, "xy;1;1:234,0:;1:,0:5761;", OK, 0},
		{"A[B(C/a>D1D)E(F/a&C>G2G)]/b!C>A", 99, "ab;;1:12,0:;1:,0:;", OK, 0},
		// events in the order of the alphabet, those of transitions that are never possible too
		{"A(B/z>C1C/a>B2)", 99, "az;;0:,1:1;0:2,1:;", OK, 0}, {"A/z&A!A>A/c>A1/b>A2/c>A3", 99, "bcz;;0:2,0:1,0:;", OK, 0}, {"A(B/b>C/a>DCD)", 99, "ab;;1:,2:;1:,1:;2:,2:;", OK, 0},
		// all to which a status leads are numbered ahead of those to which they lead
		{"A(B/a>C/b>DC/a>ED/a>FEF)", 99, "ab;;1:,2:;3:,1:;4:,2:;3:,3:;4:,4:;", OK, 0}, {"A[B(C/a>DD/a>C)E(F/b>GG/b>F)]", 99, "ab;;1:,2:;0:,3:;3:,0:;2:,1:;", OK, 0},
		// what is never reached has no row
		{"A(BC/a>BDE)", 99, "a;;0:;", OK, 0}, {"A(B/a>CC/a>BD/a>E1E)", 99, "a;;1:;0:;", OK, 0},
	})
}

func TestCompileSameCells(t *testing.T) {
	runCompileCases(t, []compileCase{
		{"A(B/a>CC/a>C)", 99, "a;;1:;=0;", OK, 0}, {"A(B/a>C/b>DC/a>C/b>DD/a>C/b>D)", 99, "ab;;1:,2:;=0;=0;", OK, 0}, {"A(B/a>CC/a>DD/a>D)", 99, "a;;1:;2:;=1;", OK, 0},
		{"A(B/a>CC/a>DD/a>EE/a>D)", 99, "a;;1:;2:;3:;=1;", OK, 0},
		// the same numbers, other actions; the same bytes, elsewhere
		{"A(B/a>CC/a>C1)", 99, "a;;1:;1:1;", OK, 0}, {"A(B/a>CC/a>B1)/b>B", 99, "ab;;1:,0:;0:1,0:;", OK, 0}, {"A/a>A1/b>A", 99, "ab;;0:1,0:;", OK, 0},
	})
}

func TestCompileMemory(t *testing.T) {
	runCompileCases(t, []compileCase{
		{"A(B(CD)E)/a>D/b>E/c>B~", 99, "abc;;1:,2:,3:;4:,5:,4:;=0;=0;=1;=1;", OK, 0},
		{"A(B/a>A~12C)/z>A*", 99, "az;;1:12,1:;=0;", OK, 0},
		{"A(B(C/a>D1D)/b>E2E/b>B~3)", 99, "ab;;1:1,2:2;1:,3:2;2:,4:3;3:,5:3;6:1,2:2;5:,3:2;6:,3:2;", OK, 0},
		{"A(B(C/a>D1D)/b>E2E/b>B3)", 99, "ab;;1:1,2:2;1:,2:2;2:,0:3;", OK, 0},
		{"A(B(C(D/a>EE))/b>FF/c>B*)", 99, "abc;;1:,2:,0:;1:,3:,1:;2:,2:,4:;3:,3:,5:;6:,2:,4:;5:,3:,5:;6:,3:,6:;", OK, 0},
		{"A(B(C(D/a>EE))/b>FF/c>B~)", 99, "abc;;1:,2:,0:;1:,2:,1:;2:,2:,3:;4:,2:,3:;4:,2:,4:;", OK, 0},
		{shownChart, 99, "abc;;1:12,0:,0:;2:3,3:4,4:35;5:12,2:,2:;6:3,7:,8:35;5:2,4:,4:;2:3,9:4,4:35;10:12,6:,6:;2:3,3:,4:35;11:2,8:,8:;" +
			"6:3,12:,8:35;2:3,13:4,4:35;6:3,14:4,8:35;2:3,9:,4:35;6:3,14:,8:35;2:3,13:,4:35;", OK, 0},
	})
}

const (
	least   = -1 << 63
	most    = 1<<63 - 1
	letters = "BCDEFGHIJKLMNOPQRSTUVWXYZ"
)

// rings answers a chart of rings side by side, each gone round on an event of
// its own: as many statuses as the product of their lengths.
func rings(lengths ...int) string {
	text, at := "A[", 0
	for i, length := range lengths {
		text += letters[at:at+1] + "("
		states := letters[at+1 : at+1+length]
		for j := range states {
			text += states[j:j+1] + "/" + "abcdefgh"[i:i+1] + ">" + string(states[(j+1)%length])
		}
		text += ")"
		at += 1 + length
	}
	return text + "]"
}

func TestCompileLarge(t *testing.T) {
	two := "A(B/a>CC/a>C)"
	runCompileCases(t, []compileCase{
		{two, 2, "a;;1:;=0;", OK, 0}, {two, 3, "a;;1:;=0;", OK, 0}, {two, 100, "a;;1:;=0;", OK, 0}, {two, most, "a;;1:;=0;", OK, 0}, {two, 1 << 32, "a;;1:;=0;", OK, 0},
		{two, 1, "", ErrLarge, 0}, {two, 0, "", ErrLarge, 0}, {two, -1, "", ErrLarge, 0}, {two, -2, "", ErrLarge, 0}, {two, least, "", ErrLarge, 0},
		{"A", 1, ";;;", OK, 0}, {"A", 0, "", ErrLarge, 0}, {"A", -99, "", ErrLarge, 0}, {"A/a>A", 1, "a;;0:;", OK, 0}, {"A/a>A", 0, "", ErrLarge, 0},
		{shownChart, 14, "", ErrLarge, 0},
		// above MaxRows, whatever the rows
		{rings(10, 10), 99, "", ErrLarge, 0}, {rings(10, 10), 100, "", ErrLarge, 0}, {rings(10, 10), 1000, "", ErrLarge, 0}, {rings(10, 10), most, "", ErrLarge, 0},
		{rings(2, 2, 2, 2, 2, 2, 2, 2), most, "", ErrLarge, 0}, {rings(3, 3, 3, 3, 3), most, "", ErrLarge, 0},
	})
	for _, c := range []struct {
		chart string
		rows  int
	}{{shownChart, 15}, {rings(11, 9), 99}, {rings(14, 7), 98}, {rings(3, 3, 11), 99}, {rings(2, 7, 7), 98}} {
		for _, rows := range []int{c.rows, c.rows + 1, 99, 100, most} {
			table, e, place := Compile(c.chart, rows)
			if strings.Count(table, ";") != c.rows+2 || e != OK || place != 0 {
				t.Errorf("P4: Compile(%q, %d) = %q, %d, %d, want %d rows", c.chart, rows, table, e, place, c.rows)
			}
		}
		runCompileCases(t, []compileCase{{c.chart, c.rows - 1, "", ErrLarge, 0}})
	}
}

func TestCompileErrors(t *testing.T) {
	long := "A+" + strings.Repeat("1", maxChart-1)
	for _, rows := range []int{least, -1, 0, 1, 99, most} {
		runCompileCases(t, []compileCase{
			{"", rows, "", ErrText, 0}, {"A(", rows, "", ErrText, 2}, {"A(B)]", rows, "", ErrText, 4}, {"A(B(C(D(E(F(G))))))", rows, "", ErrDeep, 12}, {"A(BB)", rows, "", ErrTwice, 3},
			{"A(B/a>C)", rows, "", ErrName, 6}, {"A/a&B>A", rows, "", ErrName, 4}, {"A/a>A~", rows, "", ErrMemory, 5}, {"A[BC]/a>A*", rows, "", ErrMemory, 9},
			{long, rows, "", ErrLong, 0}, {strings.Repeat("(", maxChart+1), rows, "", ErrLong, 0}, {shownTable, rows, "", ErrText, 0},
		})
	}
}

func TestCompileLongest(t *testing.T) {
	actions := strings.Repeat("7", maxChart-5)
	runCompileCases(t, []compileCase{
		{"A+" + strings.Repeat("9", maxChart-2), 99, ";" + strings.Repeat("9", maxChart-2) + ";;", OK, 0}, {"A/a>A" + actions, 99, "a;;0:" + actions + ";", OK, 0},
	})
}

// expectTable is Compile by other means: of lists of events, and of what Play
// answers to them. It answers "" for ErrLarge.
func expectTable(chart string, rows int) string {
	events := []string{}
	for e := 'a'; e <= 'z'; e++ {
		if strings.ContainsRune(chart, e) {
			events = append(events, string(e))
		}
	}
	beginning, first, _, _ := Play(chart, "")
	numbers := map[string]int{first: 0}
	lists := []string{""}
	written := map[string]int{}
	table := strings.Join(events, "") + ";" + beginning + ";"
	for i := 0; i < len(lists); i++ {
		before, _, _, _ := Play(chart, lists[i])
		cells := []string{}
		for _, e := range events {
			after, status, _, _ := Play(chart, lists[i]+e)
			if _, ok := numbers[status]; !ok {
				numbers[status] = len(lists)
				lists = append(lists, lists[i]+e)
			}
			cells = append(cells, strconv.Itoa(numbers[status])+":"+after[len(before)+1:])
		}
		if len(lists) > rows || len(lists) > 99 || rows < 1 {
			return ""
		}
		row := strings.Join(cells, ",")
		if same, ok := written[row]; ok {
			row = "=" + strconv.Itoa(same)
		} else {
			written[row] = i
		}
		table += row + ";"
	}
	return table
}

// A sketch is a state of a random chart, yet without its place in it.
type sketch struct {
	name, actions, transitions string
	brackets                   string
	inner                      []*sketch
}

func (s *sketch) text() string {
	text := s.name + s.actions
	if s.brackets == "" {
		return text + s.transitions
	}
	text += s.brackets[:1]
	for _, i := range s.inner {
		text += i.text()
	}
	return text + s.brackets[1:] + s.transitions
}

// grow makes a tree of the names, which become fewer.
func grow(r *rand.Rand, names *[]string, depth int, all *[]*sketch) *sketch {
	s := &sketch{name: (*names)[0]}
	*names = (*names)[1:]
	*all = append(*all, s)
	for n := r.Intn(4); depth < 6 && n > 0 && len(*names) > 0; n-- {
		s.inner = append(s.inner, grow(r, names, depth+1, all))
	}
	if len(s.inner) > 0 {
		s.brackets = "()"
	}
	if len(s.inner) > 1 && r.Intn(5) < 2 {
		s.brackets = "[]"
	}
	if r.Intn(6) == 0 {
		s.actions += "+" + strconv.Itoa(r.Intn(30))
	}
	if r.Intn(6) == 0 {
		s.actions += "-" + strconv.Itoa(r.Intn(30))
	}
	return s
}

func randomTransition(r *rand.Rand, all []*sketch) string {
	text := "/" + "abcz"[r.Intn(4):][:1]
	for r.Intn(6) == 0 {
		text += "&!"[r.Intn(2):][:1] + all[r.Intn(len(all))].name
	}
	target := all[r.Intn(len(all))]
	text += ">" + target.name
	if target.brackets == "()" && r.Intn(2) == 0 {
		text += "~*"[r.Intn(2):][:1]
	}
	return text + strings.Repeat(strconv.Itoa(r.Intn(10)), r.Intn(2))
}

// randomChart answers a chart at which Check answers OK.
func randomChart(r *rand.Rand) string {
	names := strings.Split("ABCDEFGHIJKLMNOPQRSTUVWXYZ", "")
	r.Shuffle(len(names), func(i, j int) { names[i], names[j] = names[j], names[i] })
	names = names[:1+r.Intn(25)]
	all := []*sketch{}
	root := grow(r, &names, 1, &all)
	text := root.text()
	for i := r.Intn(30); i > 0; i-- {
		all[r.Intn(len(all))].transitions += randomTransition(r, all)
		if longer := root.text(); len(longer) <= maxChart {
			text = longer
		}
	}
	return text
}

func TestCompileRandomCharts(t *testing.T) {
	r := rand.New(rand.NewSource(6))
	large, great := 0, 0
	for i := 0; i < 4000; i++ {
		chart := randomChart(r)
		if e, place := Check(chart); e != OK {
			t.Fatalf("P2: Check(%q) = %d, %d", chart, e, place)
		}
		rows := []int{99, 99, 99, 98, 100, 1000, r.Intn(20)}[r.Intn(7)]
		table := expectTable(chart, rows)
		if table == "" {
			large++
			runCompileCases(t, []compileCase{{chart, rows, "", ErrLarge, 0}})
			continue
		}
		if strings.Count(table, ";") > 10 {
			great++
		}
		runCompileCases(t, []compileCase{{chart, rows, table, OK, 0}})
	}
	if large < 100 || great < 100 {
		t.Errorf("of the charts tried %d have too many statuses, %d have many", large, great)
	}
}

// eventLists answers lists of events: every short one, and some long ones.
func eventLists(r *rand.Rand, events string) []string {
	lists := []string{""}
	for i := 0; i < 300; i++ {
		lists = append(lists, lists[i/len(events)]+string(events[i%len(events)]))
	}
	for i := 0; i < 100; i++ {
		list := make([]byte, r.Intn(maxEvents+1))
		for j := range list {
			list[j] = events[r.Intn(len(events))]
		}
		lists = append(lists, string(list))
	}
	return lists
}

func mustDoTheSame(t *testing.T, r *rand.Rand, chart, table string) {
	t.Helper()
	if e, place := Load(table); e != OK || place != 0 {
		t.Fatalf("P7: Load(%q) = %d, %d, and it is the table of %q", table, e, place, chart)
	}
	rowOf := map[string]int{}
	statusOf := map[int]string{}
	for _, list := range eventLists(r, strings.SplitN(table, ";", 2)[0]+"y") {
		out, status, _, _ := Play(chart, list)
		runOut, row, _, _ := Run(table, list)
		if out != runOut {
			t.Fatalf("P7: %q at %q puts out %q, its table %q", chart, list, out, runOut)
		}
		if known, ok := rowOf[status]; ok && known != row {
			t.Fatalf("P7: %q at %q: rows %d and %d for status %q", chart, list, known, row, status)
		}
		if known, ok := statusOf[row]; ok && known != status {
			t.Fatalf("P7: %q at %q: statuses %q and %q for row %d", chart, list, known, status, row)
		}
		rowOf[status] = row
		statusOf[row] = status
	}
}

// reachedRows goes from row to row along the cells.
func reachedRows(table string) []int {
	rows := []int{0}
	lists := []string{""}
	for i := 0; i < len(lists); i++ {
		for _, e := range strings.SplitN(table, ";", 2)[0] {
			_, row, _, _ := Run(table, lists[i]+string(e))
			known := false
			for _, other := range rows {
				known = known || other == row
			}
			if !known {
				rows = append(rows, row)
				lists = append(lists, lists[i]+string(e))
			}
		}
	}
	sort.Ints(rows)
	return rows
}

func TestCompileKeepsWhatTheChartDoes(t *testing.T) {
	r := rand.New(rand.NewSource(7))
	charts := append([]string{rings(11, 9), rings(2, 7, 7), rings(3, 3, 3, 3)}, sampleCharts...)
	for i := 0; i < 300; i++ {
		charts = append(charts, randomChart(r))
	}
	for _, chart := range charts {
		table, e, _ := Compile(chart, 99)
		if e != OK {
			continue
		}
		mustDoTheSame(t, r, chart, table)
		reached := reachedRows(table)
		if count := strings.Count(table, ";") - 2; len(reached) != count || reached[len(reached)-1] != count-1 {
			t.Errorf("P7: of the %d rows of the table of %q these are reached: %v", count, chart, reached)
		}
	}
}
