package secrets_test

import (
	"math"
	"strings"
	"testing"
)

// runRow is a program under abcHead: what it does with 5, 6 from p, 7, 8 from s and 9, 10 from t, and in how many steps.
type runRow struct {
	statements string
	steps      int
	want       string
}

// runRows have programs of every form.
var runRows = []runRow{
	{"", 0, "Done"},
	{"l=1;", 1, "Done"}, {"l=1;l=2;l=3;", 3, "Done"}, {"put o l;l=3;put o l;", 3, "Put 0 0; Put 0 3; Done"}, {"put o 1;put u 2;put w 3;", 3, "Put 0 1; Put 1 2; Put 2 3; Done"},
	{"get p l;put o l;get p l;put o l;", 4, "ask 0; Got 0 5; Put 0 5; ask 0; Got 0 6; Put 0 6; Done"}, {"get s h;get t x;put w h*100+x;", 3, "ask 1; Got 1 7; ask 2; Got 2 9; Put 2 709; Done"},
	{"get s h;free l=h*2 {} by a;put o l;put u h;", 4, "ask 1; Got 1 7; Freed 0 14; Put 0 14; Put 1 7; Done"}, {"free l=3 {};put o l;", 2, "Freed 0 3; Put 0 3; Done"}, {"get s x;free h=x {a:} by b;put u h;", 3, "ask 1; Got 1 7; Freed 1 7; Put 1 7; Done"},
	{"get p l;get p l;get p l;put o 1;", 3, "ask 0; Got 0 5; ask 0; Got 0 6; ask 0; Input"},
	// if: a step, and those of the part that is done.
	{"if 1 {put o 1;}put o 2;", 3, "Put 0 1; Put 0 2; Done"}, {"if 0 {put o 1;}put o 2;", 2, "Put 0 2; Done"}, {"if 0 {put o 1;put o 2;} else {put o 3;}", 2, "Put 0 3; Done"}, {"if 0-1 {put o 1;put o 2;} else {put o 3;}", 3, "Put 0 1; Put 0 2; Done"}, {"if 1 {} else {put o 3;}", 1, "Done"}, {"if 0 {put o 3;} else {}", 1, "Done"},
	{"get p l;if l<6 {if l==5 {put o 1;} else {put o 2;}put o 3;} else {put o 4;}", 5, "ask 0; Got 0 5; Put 0 1; Put 0 3; Done"}, {"get s h;if h==7 {h=1;} else {h=2;}put u h;", 4, "ask 1; Got 1 7; Put 1 1; Done"},
	// while: a step each time that it is tested, the last one too.
	{"while 0 {put o 1;}put o 2;", 2, "Put 0 2; Done"}, {"l=3;while l {put o l;l=l-1;}put o 9;", 1 + 4 + 6 + 1, "Put 0 3; Put 0 2; Put 0 1; Put 0 9; Done"}, {"l=3;while l {l=l-1;}", 1 + 4 + 3, "Done"}, {"while l<3 {l=l+1;}put o l;", 4 + 3 + 1, "Put 0 3; Done"},
	{"l=2;while l {l=l-1;h=2;while h {h=h-1;}put o l;}", 1 + 3 + 2*(2+3+2+1), "Put 0 1; Put 0 0; Done"}, {"l=2;while l {if l==1 {put o 7;} else {put o 8;put o 9;}l=l-1;}", 1 + 3 + 2 + 3 + 2, "Put 0 8; Put 0 9; Put 0 7; Done"}, {"get s h;while 5<h {h=h-1;}put u h;", 1 + 3 + 2 + 1, "ask 1; Got 1 7; Put 1 5; Done"}, {"while l==0 {get p l;put o l;}", 1 + 2 + 1, "ask 0; Got 0 5; Put 0 5; Done"}, {"while 1 {get p l;}", 3 + 3, "ask 0; Got 0 5; ask 0; Got 0 6; ask 0; Input"},
	// What is calculated.
	{"put o 7/2;put o 0-7/2;put o (0-7)/2;put o 7/(0-2);put o 2-3-4;put o 2-(3-4);put o 2+3*4;put o (2+3)*4;", 8, "Put 0 3; Put 0 -3; Put 0 -3; Put 0 -3; Put 0 -5; Put 0 3; Put 0 14; Put 0 20; Done"}, {"put o 1<2;put o 2<1;put o 2<2;put o 2==2;put o 1==2;put o (1<2)==1;put o 0-1<0;", 7, "Put 0 1; Put 0 0; Put 0 0; Put 0 1; Put 0 0; Put 0 1; Put 0 1; Done"}, {"put o 100/10/5;put o 100/(10/5);put o 999999999*999999999;put o 000000012;", 4, "Put 0 2; Put 0 50; Put 0 999999998000000001; Put 0 12; Done"},
	{"put o 1;put o 5/0;put o 2;", 2, "Put 0 1; Divide"}, {"l=1/l;", 1, "Divide"}, {"if 1/0 {} else {}", 1, "Divide"}, {"while 5/l {}", 1, "Divide"}, {"free l=0/0 {};", 1, "Divide"}, {"l=2;while 6/l {put o l;l=l-1;}", 1 + 3 + 4, "Put 0 2; Put 0 1; Divide"}, {"put o 0*(1/0)+1;", 1, "Divide"}, {"if 0 {l=1/0;} else {put o 0/5;}", 2, "Put 0 0; Done"},
	// Numbers go around: 2^62 + 2^62 is the lowest.
	{"l=536870912*8;l=l*536870912*2;put o l;put o l+l;put o l+l-1;put o (l+l)/(0-1);put o l*4;put o l+l<0;", 8, "Put 0 4611686018427387904; Put 0 -9223372036854775808; Put 0 9223372036854775807; Put 0 -9223372036854775808; Put 0 0; Put 0 1; Done"},
}

func abcInputs() [][]int { return [][]int{{5, 6}, {7, 8}, {9, 10}} }

// P12: a run does what the statements say, with just as many steps as are needed, and with more.
func TestRunsOfPrograms(t *testing.T) {
	for _, r := range runRows {
		c := codeOf(t, abcHead+"do {"+r.statements+"}")
		for _, fuel := range []int{r.steps, r.steps + 1, math.MaxInt} {
			if got := ran(c, abcInputs(), fuel, 0); got != r.want {
				t.Errorf("%s with fuel %d: %s, want %s", r.statements, fuel, got, r.want)
			}
		}
	}
}

// P12: with less fuel a run does the first part of it, and ends for want of fuel.
func TestStepsOfPrograms(t *testing.T) {
	for _, r := range runRows {
		c := codeOf(t, abcHead+"do {"+r.statements+"}")
		before := ""
		for fuel := range r.steps {
			part, found := strings.CutSuffix(ran(c, abcInputs(), fuel, 0), "Fuel")
			if !found || !strings.HasPrefix(r.want, part) || !strings.HasPrefix(part, before) {
				t.Errorf("%s with fuel %d: %s, want a part of %s", r.statements, fuel, part, r.want)
			}
			before = part
		}
		for _, fuel := range []int{-1, math.MinInt} {
			if got := ran(c, abcInputs(), fuel, 0); r.steps > 0 && got != "Fuel" {
				t.Errorf("%s with fuel %d: %s", r.statements, fuel, got)
			}
		}
	}
}

// P12: which step it is that does something.
func TestStepByStep(t *testing.T) {
	const text = "get p l;if l {put o 1;}while l<7 {l=l+1;put o l;}free l=9 {};"
	want := []string{
		"Fuel", "ask 0; Got 0 5; Fuel", "ask 0; Got 0 5; Fuel", "ask 0; Got 0 5; Put 0 1; Fuel", // get, if, put
		"ask 0; Got 0 5; Put 0 1; Fuel", "ask 0; Got 0 5; Put 0 1; Fuel", "ask 0; Got 0 5; Put 0 1; Put 0 6; Fuel", // while, =, put
		"ask 0; Got 0 5; Put 0 1; Put 0 6; Fuel", "ask 0; Got 0 5; Put 0 1; Put 0 6; Fuel", "ask 0; Got 0 5; Put 0 1; Put 0 6; Put 0 7; Fuel",
		"ask 0; Got 0 5; Put 0 1; Put 0 6; Put 0 7; Fuel", "ask 0; Got 0 5; Put 0 1; Put 0 6; Put 0 7; Freed 0 9; Done", // while, free
	}
	c := codeOf(t, abcHead+"do {"+text+"}")
	for fuel, w := range want {
		if got := ran(c, abcInputs(), fuel, 0); got != w {
			t.Errorf("fuel %d: %s, want %s", fuel, got, w)
		}
	}
}

// P12: a no to any event ends the run behind it.
func TestCutsOfPrograms(t *testing.T) {
	for _, r := range runRows {
		c := codeOf(t, abcHead+"do {"+r.statements+"}")
		events := 0
		part := ""
		for _, one := range strings.Split(r.want, "; ") {
			part += one + "; "
			if !strings.HasPrefix(one, "Got") && !strings.HasPrefix(one, "Put") && !strings.HasPrefix(one, "Freed") {
				continue
			}
			events++
			if got := ran(c, abcInputs(), r.steps, events); got != part+"Cut" {
				t.Errorf("%s with a no to event %d: %s, want %sCut", r.statements, events, got, part)
			}
		}
		if got := ran(c, abcInputs(), r.steps, events+1); got != r.want {
			t.Errorf("%s with a no to no event: %s, want %s", r.statements, got, r.want)
		}
	}
}
