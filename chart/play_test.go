package chart

import (
	"strings"
	"testing"
)

const shownChart = "A(B/a>C1C+2-3[D(E/b>FF/b>E)G(H/b>I4I)]/a>B/c>J5J/a>D*)"

var sampleCharts = []string{
	"A", "A+1-2/a>A3", shownChart,
	"A(B/a>A~12C)/z>A*",
	"A[B(C/a>D1D)E(F/a&C>G2G)]/b!C>A",
	"A(B(C[D(E/a>FF)G(H/b>II)]J)/c>KK/d>B*/e>B~)",
	"A+1-2(B+3-4(C+5-6[D+7-8E+9-0]/a>F)F/b>D)/c>B~",
	"K(A[B(C/a>D1D)E(F/a>L2)H(I/a>J3J/a>I)]/b>LL/a>E/b>A)",
	"Z(Y(X/a>WW)V(U/a>TT)/b>Y*)/c>V~/d>Z*/e>Y",
}

type playCase struct{ chart, events, out, status string }

func runPlayCases(t *testing.T, cases []playCase) {
	t.Helper()
	for _, c := range cases {
		out, status, problem, place := Play(c.chart, c.events)
		if out != c.out || status != c.status || problem != OK || place != 0 {
			t.Errorf("P3: Play(%q, %q) = %q, %q, %d, %d, want %q, %q", c.chart, c.events, out, status, problem, place, c.out, c.status)
		}
	}
}

func TestPlayShownChart(t *testing.T) {
	runPlayCases(t, []playCase{
		{shownChart, "", "", "AB"},
		{shownChart, "a", ".12", "ACDEGH"},
		{shownChart, "ab", ".12.4", "ACDFGI"},
		{shownChart, "abc", ".12.4.35", "AJ/DF"},
		{shownChart, "abca", ".12.4.35.2", "ACDFGH/DF"},
	})
}

func TestPlayFirstStatus(t *testing.T) {
	runPlayCases(t, []playCase{
		{"A", "", "", "A"}, {"Q+12-3", "", "12", "Q"},
		{"A+1(B+2C+3)", "", "12", "AB"}, {"A+1[B+2C+3]", "", "123", "ABC"},
		{"Z+1[Y+2(X+3W+4)V+5[U+6T+7]]", "", "123567", "ZYXVUT"},
		{"A(B(C)D)/a>B~/b>B*", "", "", "ABC"},
	})
}

func TestPlayNothingHappens(t *testing.T) {
	runPlayCases(t, []playCase{
		{"A", "abz", "...", "A"}, {"A+1-2", "A1", "1..", "A"},
		{shownChart, "a\x00\xff.A~b", ".12......4", "ACDFGI"},
		{"A(B/a&C>CC)", "a", ".", "AB"}, {"A(B/a!B>CC)", "a", ".", "AB"}, {"A(BC/a>B)", "aa", "..", "AB"},
	})
}

func TestPlayWhichTransitionIsCalled(t *testing.T) {
	runPlayCases(t, []playCase{
		// inner ones ahead of outer ones, the first of several
		{"A(B(C/a>D1D)/a>E2E)", "aa", ".1.2", "AE"},
		{"A(B/a>C1/a>D2CD)", "a", ".1", "AC"},
		{"A(B/b>C1/a>D2CD)", "a", ".2", "AD"},
		// conditions pass over one
		{"A(B/a&C>C1/a!C>D2CD)", "a", ".2", "AD"},
		{"A(B(C/a&D>D1D)/a>E2E)", "a", ".2", "AE"},
		{"A(B/a&A&B!C>C1C)", "a", ".1", "AC"},
		{"A(B/a&A&C!C>C1/a&B!A>C2C)", "a", ".", "AB"},
		// one that two leaves call is taken once
		{"A(B[CD]/a>B1)", "a", ".1", "ABCD"},
		{"A+1-2[B+3-4C+5-6]/a>A7", "a", "135.6427135", "ABC"},
	})
}

func TestPlaySideBySide(t *testing.T) {
	runPlayCases(t, []playCase{
		{"A[B(C/a>D1D)E(F/a>G2G)H(I/a>J3J)]", "a", ".123", "ABDEGHJ"},
		// conditions are judged ahead of the step
		{"A[B(C/a>D1D)E(F/a&C>G2G)]", "a", ".12", "ABDEG"},
		{"A[B(C/a>D1D)E(F/a&D>G2G)]", "a", ".1", "ABDEF"},
		{"A[B(C/a>D1D)E(F/a!D>G2G)]", "a", ".12", "ABDEG"},
		// what was left already keeps others from being taken, whichever is the inner one
		{"A(B[C(D/a>E1E)F]/a>I2I)", "a", ".1", "ABCEF"},
		{"A(B[FC(D/a>E1E)]/a>I2I)", "a", ".2", "AI"},
		{"K(A[B(C/a>D1D)E(F/a>L2)H(I/a>J3J)]L)", "a", ".13", "KABDEFHJ"},
		{"K(A[E(F/a>L2)B(C/a>D1D)H(I/a>J3J)]L)", "a", ".2", "KL"},
		{"A(B[C(D/a>I1)F(G/a>J2)]IJ)", "a", ".1", "AI"},
		// regions within a region
		{"A[B(C[D(E/a>F1F)G(H/a>I2I)])J(K/a>L3L)]", "a", ".123", "ABCDFGIJL"},
		// one that was not taken keeps nothing from being taken
		{"A[B(C[D(E/a>F1F)G(H/a>M2)]M)J(K/a>L3L)]", "a", ".13", "ABCDFGHJL"},
	})
}

func TestPlayScopeAndOrder(t *testing.T) {
	runPlayCases(t, []playCase{
		// to oneself, outward, inward
		{"A+8-9(B+1-2/a>B3)", "a", "81.231", "AB"},
		{"A(B+1-2(C+3-4/a>B5D))", "a", "13.42513", "ABC"},
		{"A(B+1-2(C+3-4D+5-6)/a>D7)", "a", "13.42715", "ABD"},
		{"A+8-9(B(C+3-4/a>D7D+5-6))", "a", "83.475", "ABD"},
		// without a scope everything is left
		{"A+1-2(B+3-4/a>A5)", "a", "13.42513", "AB"},
		{"A+1-2(B+3-4C+5)/a>C6", "a", "13.42615", "AC"},
		{"A+1-2[B+3-4/a>C5C+6-7]", "a", "136.7425136", "ABC"},
		{"A+1-2[B(D/a>F3E)C(FG/a>E4)]/b>G/c>A", "b", "1.21", "ABDCG"},
		{"A+1-2[B(D/a>G3E)C(FG/a>E4)]", "aa", "1.231.231", "ABDCG"},
		// from one region into another: the and-state is no scope
		{"A+1-2(B+3-4[C(D/a>H5E)F(G+6H+7)])", "a", "136.4537", "ABCDFH"},
		// left in reverse text order, entered in text order
		{"A(B-1[C-2(D-3)E-4]/a>FF+5[G+6H+7(I+8)])", "a", ".4321" + "5678", "AFGHI"},
		{"Z(Y-1[X-2W-3]/a>VV+4[U+5T+6])", "a", ".321456", "ZVUT"},
		// towards a target other regions begin anew
		{"A(B/a>GC[D(EF)H(IG)J(KL)])", "a", ".", "ACDEHGJK"},
	})
}

func TestPlayMemory(t *testing.T) {
	const deep = "A(B(C[D(E/a>FF)G(H/b>II)]J)/c>KK/d>B*/e>B~)"
	const two = "A(B(C(D/a>EE)/b>FF)/c>GG/d>B*/e>C~)"
	runPlayCases(t, []playCase{
		// all of it, through an and-state, or the inner state alone
		{deep, "abc", "...", "AK/BCDFGI"}, {deep, "abcd", "....", "ABCDFGI/BCDFGI"}, {deep, "abce", "....", "ABCDEGH/BCDFGI"},
		{deep, "cd", "..", "ABCDEGH/BCDEGH"}, {deep, "abcecd", "......", "ABCDEGH/BCDEGH"},
		// with `~` alone in the chart, only the inner state is in memory
		{"A(B(C(D/a>EE))/b>FF/c>B~)", "ab", "..", "AF/BC"}, {"A(B(C(D/a>EE))/b>FF/c>B~)", "abc", "...", "ABCD/BC"},
		{"A(B(C(D/a>EE))/b>FF/c>B*)", "abc", "...", "ABCE/BCE"},
		// nothing in memory: the first one
		{"A(FB(CD)/a>B~)/a>B*", "a", ".", "ABC"},
		{"A(F/a>B~B(CD))", "a", ".", "ABC"}, {"A(F/a>B*B(C(DE)G))", "a", ".", "ABCD"},
		// several memories, the target below another one
		{two, "abc", "...", "AG/BF/CE"}, {two, "abce", "....", "ABCE/BF/CE"}, {two, "abcd", "....", "ABF/BF/CE"}, {two, "acd", "...", "ABCE/BCE/CE"},
		// the memory of what is left now is there on entering
		{"A(B(C/a>DD)/b>B~/c>B)", "ab", "..", "ABD/BD"}, {"A(B(C/a>DD)/b>B~/c>B)", "ac", "..", "ABC/BD"}, {"A(B(C/a>DD)/b>B~/c>B)", "acb", "...", "ABC/BC"},
		// the scope is not left
		{"A(B/a>CC/b>A~)", "a", ".", "AC"}, {"A(B/a>CC/b>A~)", "ab", "..", "AC/AC"},
		// a target without a mark does not go back
		{"A(B(C/a>DD)/b>EE/c>B/d>B~)", "abc", "...", "ABC/BD"}, {"A(B(C/a>DD)/b>EE/c>B/d>B~)", "abd", "...", "ABD/BD"},
		// memories in text order, not that of the alphabet
		{"Z(Y(X/a>WW)/b>VV(U/a>TT)/b>Y~/c>V~)", "abab", "....", "ZYW/YW/VT"},
		// actions on the way back
		{"A(B+1(C+2(D+3/a>EE+4))/b>FF/c>B*)", "abc", "123.4..124", "ABCE/BCE"},
	})
}

func TestPlayErrors(t *testing.T) {
	for _, c := range []struct {
		chart, events string
		want          Errno
		place         int
	}{
		{"", "", ErrText, 0}, {"A(B", "abc", ErrText, 3}, {"A(B(C(D(E(F(G))))))", "a", ErrDeep, 12}, {"A(BB)", "", ErrTwice, 3},
		{"A/a>B", "a", ErrName, 4}, {"A/a>A~", "a", ErrMemory, 5},
		{"A", strings.Repeat("a", maxEvents+1), ErrLong, 0}, {"A(B", strings.Repeat("a", maxEvents+1), ErrLong, 0},
		{"A+" + strings.Repeat("1", maxChart-1), "", ErrLong, 0}, {strings.Repeat("(", maxChart+1), "a", ErrLong, 0},
	} {
		out, status, problem, place := Play(c.chart, c.events)
		if out != "" || status != "" || problem != c.want || place != c.place {
			t.Errorf("P3: Play(%.40q, %.40q) = %q, %q, %d, %d, want %d, %d", c.chart, c.events, out, status, problem, place, c.want, c.place)
		}
	}
}

func TestPlayLongest(t *testing.T) {
	actions := strings.Repeat("7", maxChart-6)
	runPlayCases(t, []playCase{
		{"A/a>A" + actions + "0", strings.Repeat("a", maxEvents), strings.Repeat("."+actions+"0", maxEvents), "A"},
		{"A(B/a>CC/a>B1)", strings.Repeat("a", maxEvents), strings.Repeat("..1", maxEvents/2), "AB"},
		{"A", strings.Repeat("\x80", maxEvents), strings.Repeat(".", maxEvents), "A"},
	})
}

// mustBeLegal tells what is wrong with the active states: an or-state has one
// active inner state, an and-state all of them, and others have none.
func mustBeLegal(t *testing.T, chart, events, status string) {
	t.Helper()
	p, _, _ := understand(chart)
	active := strings.Split(status, "/")[0]
	isActive := func(i int) bool { return strings.IndexByte(active, p.states[i].name) >= 0 }
	for i, s := range p.states {
		all, some := 0, 0
		for j := range p.states {
			if p.states[j].outer == i {
				all++
				if isActive(j) {
					some++
				}
			}
		}
		want := 0
		if isActive(i) && s.kind == orState {
			want = 1
		} else if isActive(i) && s.kind == andState {
			want = all
		}
		if some != want {
			t.Errorf("P3: Play(%q, %q): status %q: below %c", chart, events, status, s.name)
		}
	}
}

// After every short list of events the status is a legal one, and what was put
// out earlier stays.
func TestPlayEveryShortList(t *testing.T) {
	for _, chart := range sampleCharts {
		lists := []string{""}
		for length := 0; length < 5; length++ {
			longer := []string{}
			for _, list := range lists {
				before, status, _, _ := Play(chart, list)
				mustBeLegal(t, chart, list, status)
				for _, event := range "abcdez" {
					next := list + string(event)
					longer = append(longer, next)
					after, _, problem, _ := Play(chart, next)
					if problem != OK || !strings.HasPrefix(after, before+".") {
						t.Fatalf("P3: Play(%q, %q) puts out %q, and before %q", chart, next, after, before)
					}
				}
			}
			lists = longer
		}
	}
}
