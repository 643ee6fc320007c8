package chart

import (
	"regexp"
	"strings"
	"testing"
)

type checkCase struct {
	text  string
	want  Errno
	place int
}

func runCheckCases(t *testing.T, cases []checkCase) {
	t.Helper()
	for _, c := range cases {
		got, place := Check(c.text)
		if got != c.want || place != c.place {
			t.Errorf("P2: Check(%.60q) = %d, %d, want %d, %d", c.text, got, place, c.want, c.place)
		}
	}
}

func TestCheckTakesCharts(t *testing.T) {
	for _, text := range sampleCharts {
		runCheckCases(t, []checkCase{{text, OK, 0}})
	}
	runCheckCases(t, []checkCase{
		{"A", OK, 0}, {"Z", OK, 0}, {"A+0", OK, 0}, {"A-9", OK, 0}, {"A+0123456789-9876543210", OK, 0},
		{"A(B)", OK, 0}, {"A[BC]", OK, 0}, {"A[BCD]", OK, 0}, {"A+1(B-2)", OK, 0},
		{"A/a>A", OK, 0}, {"A/z>A/z>A/z>A", OK, 0}, {"A/a&A!A&A>A0", OK, 0}, {"A(B)/a>B12/b>A~3/c>A*4", OK, 0},
		{"A(B(C(D(E(F)))))", OK, 0}, {"A[B[C[D[E[FG]H]I]J]K]", OK, 0},
		{"A(BCDEFGHIJKLMNOPQRSTUVWXYZ)", OK, 0},
	})
}

func TestCheckLong(t *testing.T) {
	runCheckCases(t, []checkCase{
		{"A-" + strings.Repeat("7", maxChart-2), OK, 0},
		{"A-" + strings.Repeat("7", maxChart-1), ErrLong, 0},
		{strings.Repeat(" ", maxChart), ErrText, 0},
		{strings.Repeat(" ", maxChart+1), ErrLong, 0},
		{strings.Repeat("A(", maxChart/2), ErrText, maxChart},
		{strings.Repeat("A(", maxChart), ErrLong, 0},
	})
}

func TestCheckText(t *testing.T) {
	runCheckCases(t, []checkCase{
		// the text ends too soon
		{"", ErrText, 0}, {"A+", ErrText, 2}, {"A+1-", ErrText, 4}, {"A(", ErrText, 2}, {"A(B", ErrText, 3},
		{"A[", ErrText, 2}, {"A[B", ErrText, 3}, {"A[BC", ErrText, 4}, {"A/", ErrText, 2}, {"A/a", ErrText, 3},
		{"A/a&", ErrText, 4}, {"A/a!", ErrText, 4}, {"A/a&A", ErrText, 5}, {"A/a>", ErrText, 4}, {"A(B/a>A", ErrText, 7},
		// a byte that cannot stand where it stands
		{"a", ErrText, 0}, {"1", ErrText, 0}, {"(", ErrText, 0}, {" A", ErrText, 0}, {"A ", ErrText, 1},
		{"A\n", ErrText, 1}, {"A\x00", ErrText, 1}, {"A\xff", ErrText, 1}, {"Ä", ErrText, 0}, {"@", ErrText, 0}, {"[", ErrText, 0},
		{"AB", ErrText, 1}, {"Aa", ErrText, 1}, {"A5", ErrText, 1}, {"A)", ErrText, 1}, {"A~", ErrText, 1},
		{"A++", ErrText, 2}, {"A+a", ErrText, 2}, {"A+1+", ErrText, 3}, {"A-1-", ErrText, 3}, {"A-1+2", ErrText, 3},
		{"A+:", ErrText, 2}, {"A+/", ErrText, 2}, {"A+1A", ErrText, 3},
		{"A()", ErrText, 2}, {"A(/a>A)", ErrText, 2}, {"A(b)", ErrText, 2}, {"A(B]", ErrText, 3}, {"A((B))", ErrText, 2},
		{"A[]", ErrText, 2}, {"A[B]", ErrText, 3}, {"A[B/a>B]", ErrText, 7}, {"A[B(C)]", ErrText, 6}, {"A[BC)", ErrText, 4},
		{"A(B)(C)", ErrText, 4}, {"A(B)[CD]", ErrText, 4}, {"A(B)+1", ErrText, 4}, {"A(B)-1", ErrText, 4}, {"A(B)C", ErrText, 4},
		{"A(B))", ErrText, 4}, {"A/A", ErrText, 2}, {"A/>", ErrText, 2}, {"A/{>A", ErrText, 2}, {"A/`>A", ErrText, 2},
		{"A/ab>A", ErrText, 3}, {"A/aA", ErrText, 3}, {"A/a&a", ErrText, 4}, {"A/a&&A", ErrText, 4}, {"A/a&A1", ErrText, 5},
		{"A/a&A~>A", ErrText, 5}, {"A/a>a", ErrText, 4}, {"A/a>~", ErrText, 4}, {"A/a>1", ErrText, 4}, {"A/a>>A", ErrText, 4},
		{"A/a>AB", ErrText, 5}, {"A/a>A&B", ErrText, 5}, {"A/a>A1~", ErrText, 6}, {"A/a>A**", ErrText, 6}, {"A/a>A~*", ErrText, 6},
		{"A/a>A+1", ErrText, 5}, {"A/a>A(B)", ErrText, 5}, {"A/a>A1(B)", ErrText, 6}, {"A/a>A1b", ErrText, 6},
	})
}

func TestCheckBeyondText(t *testing.T) {
	runCheckCases(t, []checkCase{
		// depth
		{"A(B(C(D(E(F(G))))))", ErrDeep, 12}, {"A[B[C[D[E[F[GH]I]J]K]L]M]", ErrDeep, 12},
		{"A(B(C(D(E(F)))))", OK, 0}, {"A(B+1(C-22(D(E(F)G(H(I(J))K)))))", ErrDeep, 21},
		{strings.Repeat("A(", 52) + "A" + strings.Repeat(")", 52), ErrDeep, 12},
		// twice
		{"A(A)", ErrTwice, 2}, {"A(BCB)", ErrTwice, 4}, {"A(B(C)D(EC)B)", ErrTwice, 9}, {"A[BB]/a>B", ErrTwice, 3},
		{"A(B/a>C/a>CC/a>B)", OK, 0}, {"A+1(BBB)", ErrTwice, 5},
		// names
		{"A/a>B", ErrName, 4}, {"A/a&B>A", ErrName, 4}, {"A/a!B>A", ErrName, 4}, {"A/a&A!B>C", ErrName, 6}, {"A/a&A!A>C", ErrName, 8},
		{"A(B/a>CD/a>E)", ErrName, 6}, {"A(B/a>A)/a>X", ErrName, 11}, {"A(B(C/a>Y)/a>X)", ErrName, 8}, {"A/a>Z*", ErrName, 4},
		// memory
		{"A/a>A~", ErrMemory, 5}, {"A/a>A*", ErrMemory, 5}, {"A[BC]/a>A*", ErrMemory, 9}, {"A(B/a>B~)", ErrMemory, 7},
		{"A(B/a>A~/b>B*)", ErrMemory, 12}, {"A(B(C/a>D*D)/a>C~)", ErrMemory, 9}, {"A(B)/a&A!B>A~1/a>B~", ErrMemory, 18},
		// the first of several errors
		{"A(A(B(C(D(E(F/a>Y*))))))", ErrDeep, 12}, {"A(A(B(C(D(E(F))))))", ErrDeep, 12}, {"A(A(B(C(D(E(F)))))", ErrText, 18},
		{"A/a>B(AA)", ErrText, 5}, {"A(B/a>X/b>B~B)", ErrTwice, 12}, {"A(B/a>B~/b>X)", ErrName, 11}, {"A(AA", ErrText, 4},
	})
}

const (
	transitionForm = `/[a-z]([&!][A-Z])*>[A-Z][~*]?[0-9]*`
	// the dot stands for brackets whose content has been found right
	stateForm = `[A-Z](\+[0-9]+)?(-[0-9]+)?\.?(` + transitionForm + `)*`
)

var (
	innermost  = regexp.MustCompile(`\((` + stateForm + `)+\)|\[(` + stateForm + `)(` + stateForm + `)+\]`)
	wholeState = regexp.MustCompile(`^` + stateForm + `$`)
)

// hasForm tells whether a text is a chart, brackets from the inside out.
func hasForm(text string) bool {
	if strings.Contains(text, ".") {
		return false
	}
	for {
		shorter := innermost.ReplaceAllString(text, ".")
		if shorter == text {
			return wholeState.MatchString(text)
		}
		text = shorter
	}
}

// canClose tries all ways to close what is open.
func canClose(text string, open int) bool {
	if hasForm(text) {
		return true
	}
	if open <= 0 {
		return false
	}
	return canClose(text+")", open-1) || canClose(text+"]", open-1) || canClose(text+"A]", open-1)
}

func canBegin(text string) bool {
	open := strings.Count(text, "(") + strings.Count(text, "[") - strings.Count(text, ")") - strings.Count(text, "]")
	for _, more := range []string{"", "1", "A", ">A", "A>A", "a>A"} {
		if canClose(text+more, open) {
			return true
		}
	}
	return false
}

// Every text that a chart can begin with, up to some length, with one byte more.
func TestCheckPlaceOfEveryShortText(t *testing.T) {
	begins := []string{""}
	tried := 0
	for length := 1; length <= 9; length++ {
		longer := []string{}
		for _, begin := range begins {
			for _, b := range []byte("A1a+-()[]/&!>~* ") {
				text := begin + string(b)
				want := len(begin)
				if canBegin(text) {
					longer = append(longer, text)
					want = len(text)
				}
				got, place := Check(text)
				tried++
				if hasForm(text) {
					if got == ErrText {
						t.Fatalf("P2: Check(%q) = %d, %d, but it is a chart", text, got, place)
					}
				} else if got != ErrText || place != want {
					t.Fatalf("P2: Check(%q) = %d, %d, want %d, %d", text, got, place, ErrText, want)
				}
			}
		}
		begins = longer
	}
	if tried < 10000 {
		t.Errorf("only %d texts were tried", tried)
	}
}
