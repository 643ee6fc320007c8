package chart

import (
	"math/rand"
	"strings"
	"testing"
)

type answers struct {
	check        Errno
	checkPlace   int
	out, status  string
	play         Errno
	playPlace    int
	table        string
	compile      Errno
	compilePlace int
	load         Errno
	loadPlace    int
	runOut       string
	row          int
	run          Errno
	runPlace     int
}

func callAll(text, events string, rows int) answers {
	a := answers{}
	a.check, a.checkPlace = Check(text)
	a.out, a.status, a.play, a.playPlace = Play(text, events)
	a.table, a.compile, a.compilePlace = Compile(text, rows)
	a.load, a.loadPlace = Load(text)
	a.runOut, a.row, a.run, a.runPlace = Run(text, events)
	return a
}

func mustBeOrderly(t *testing.T, text, events string, rows int) {
	t.Helper()
	a := callAll(text, events, rows)
	if a.play != OK && (a.out != "" || a.status != "") {
		t.Errorf("P1: Play(%q, %q) = %q, %q beside error %d", text, events, a.out, a.status, a.play)
	}
	if a.compile != OK && a.table != "" {
		t.Errorf("P1: Compile(%q, %d) = %q beside error %d", text, rows, a.table, a.compile)
	}
	if a.run != OK && (a.runOut != "" || a.row != 0) {
		t.Errorf("P1: Run(%q, %q) = %q, %d beside error %d", text, events, a.runOut, a.row, a.run)
	}
	if a.check == OK && a.checkPlace != 0 || a.play == OK && a.playPlace != 0 {
		t.Errorf("P1: %q, %q: the place beside OK is %d, %d", text, events, a.checkPlace, a.playPlace)
	}
	if a.checkPlace < 0 || a.checkPlace > len(text) {
		t.Errorf("P1: Check(%q): the place is %d", text, a.checkPlace)
	}
	if a.load == OK && a.loadPlace != 0 || a.run == OK && a.runPlace != 0 {
		t.Errorf("P1: %q, %q: the place beside OK is %d, %d", text, events, a.loadPlace, a.runPlace)
	}
	if a.loadPlace < 0 || a.loadPlace > len(text) {
		t.Errorf("P1: Load(%q): the place is %d", text, a.loadPlace)
	}
	if len(events) <= maxEvents && (a.run != a.load || a.runPlace != a.loadPlace) {
		t.Errorf("P6: Run(%q, %q) answers %d, %d, and Load %d, %d", text, events, a.run, a.runPlace, a.load, a.loadPlace)
	}
	if len(events) <= maxEvents && (a.play != a.check || a.playPlace != a.checkPlace) {
		t.Errorf("P3: Play(%q, %q) answers %d, %d, and Check %d, %d", text, events, a.play, a.playPlace, a.check, a.checkPlace)
	}
	if a.compile == ErrLarge && (a.check != OK || a.compilePlace != 0) || a.compile != ErrLarge && (a.compile != a.check || a.compilePlace != a.checkPlace) {
		t.Errorf("P4: Compile(%q, %d) answers %d, %d, and Check %d, %d", text, rows, a.compile, a.compilePlace, a.check, a.checkPlace)
	}
	if e, place := Load(a.table); a.compile == OK && (e != OK || place != 0 || rows < 1) {
		t.Errorf("P7: Compile(%q, %d) = %q, and Load of it %d, %d", text, rows, a.table, e, place)
	}
	if out, _, _, _ := Run(a.table, events); a.compile == OK && out != a.out {
		t.Errorf("P7: %q at %q puts out %q, its table %q", text, events, a.out, out)
	}
	callAll("A(B/a>CC/a>A~)", "aaa", 3)
	callAll("a;1;1:2;0:3;", "aaa", 3)
	if again := callAll(text, events, rows); again != a {
		t.Errorf("P1: %q, %q, %d: %v, and then %v", text, events, rows, a, again)
	}
}

func TestAlwaysExtremes(t *testing.T) {
	texts := []string{"", "\x00", "\xff", "A", "A(", ";", ";;;", "a;;0:;", strings.Repeat("A(", 80), strings.Repeat("A[", 80),
		strings.Repeat("(", 161), strings.Repeat("0", 600001), strings.Repeat(";", 600000), strings.Repeat("A", 1000000)}
	for _, text := range texts {
		for _, events := range []string{"", "a", "\x00\xff", strings.Repeat("a", 400), strings.Repeat("a", 401), strings.Repeat("a", 1000000)} {
			for _, rows := range []int{-1 << 63, -1, 0, 1, 99, 100, 1<<63 - 1} {
				mustBeOrderly(t, text, events, rows)
			}
		}
	}
}

const (
	chartBytes = "ABCDEFGZaabcz01199++--(()))[[]]//&!>>~*** \x00\xff"
	tableBytes = "abcz0123459;;;;,,,::::== A\x00\xff"
)

// edit changes one place of a text, with one of some bytes.
func edit(r *rand.Rand, text string, bytes string) string {
	at := r.Intn(len(text) + 1)
	piece := string(bytes[r.Intn(len(bytes))])
	switch kind := r.Intn(3); {
	case kind == 0 || at == len(text):
		return text[:at] + piece + text[at:]
	case kind == 1:
		return text[:at] + piece + text[at+1:]
	}
	return text[:at] + text[at+1:]
}

func TestAlwaysChangedCharts(t *testing.T) {
	r := rand.New(rand.NewSource(1))
	seen := [9]int{}
	for i := 0; i < 30000; i++ {
		text := sampleCharts[i%len(sampleCharts)]
		for n := r.Intn(4); n >= 0; n-- {
			text = edit(r, text, chartBytes)
		}
		mustBeOrderly(t, text, "abcdeabcdeabcde"[r.Intn(15):], r.Intn(200)-50)
		problem, _ := Check(text)
		seen[problem]++
	}
	for _, problem := range []Errno{OK, ErrText, ErrTwice, ErrName, ErrMemory} {
		if seen[problem] == 0 {
			t.Errorf("no text was tried at which Check answers %d", problem)
		}
	}
}

func TestAlwaysChangedTables(t *testing.T) {
	r := rand.New(rand.NewSource(5))
	seen := [9]int{}
	for i := 0; i < 30000; i++ {
		text := sampleTables[i%len(sampleTables)]
		for n := r.Intn(4); n >= 0; n-- {
			text = edit(r, text, tableBytes)
		}
		mustBeOrderly(t, text, "abczabczabczabcz"[r.Intn(16):], r.Intn(200)-50)
		problem, _ := Load(text)
		seen[problem]++
	}
	if seen[OK] == 0 || seen[ErrTable] == 0 {
		t.Errorf("of the texts tried %d are tables, %d are not", seen[OK], seen[ErrTable])
	}
}

func TestAlwaysAnyBytes(t *testing.T) {
	r := rand.New(rand.NewSource(2))
	for i := 0; i < 5000; i++ {
		text := make([]byte, r.Intn(200))
		r.Read(text)
		events := make([]byte, r.Intn(500))
		r.Read(events)
		mustBeOrderly(t, string(text), string(events), int(r.Uint64()))
	}
}
