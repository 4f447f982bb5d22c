package secrets_test

import (
	"math"
	"slices"
	"strings"
	"testing"

	"secrets/api"
	"secrets/secrets"
)

// does: the instructions in a code of abc's, with fuel for all steps, do that.
func does(t *testing.T, words string, inputs [][]int, want string) {
	t.Helper()
	if got := ran(loaded(t, abc(words)), inputs, 1000, 0); got != want {
		t.Errorf("%s: %s, want %s", words, got, want)
	}
}

// doesAll: each with 5, 6 from p, 7, 8 from s and 9, 10 from t.
func doesAll(t *testing.T, rows [][2]string) {
	t.Helper()
	for _, r := range rows {
		does(t, r[0], [][]int{{5, 6}, {7, 8}, {9, 10}}, r[1])
	}
}

// The document's example, as bytes and as a program.
func TestDocumentsRun(t *testing.T) {
	s := sheet{
		above:  []int{5, 2, 4},
		labels: [][]api.Policy{label(0, 5), nil},
		ins:    []int{0, 1}, outs: []int{1, 1}, vars: []int{0, 1},
		does: "Step Get 0 0 Step Load 0 Free 1 1 4 Step Load 1 Put 0",
	}
	compiled := codeOf(t, head+"do {get s h;free l=h {} by c;put o l;}")
	for _, r := range []struct {
		in   [][]int
		fuel int
		want string
	}{
		{[][]int{{7}}, 9, "ask 0; Got 0 7; Freed 1 7; Put 0 7; Done"},
		{[][]int{{7}}, 3, "ask 0; Got 0 7; Freed 1 7; Put 0 7; Done"},
		{[][]int{{7}}, 2, "ask 0; Got 0 7; Freed 1 7; Fuel"},
		{nil, 9, "ask 0; Input"},
	} {
		for _, c := range []*secrets.Code{loaded(t, s), compiled} {
			if got := ran(c, r.in, r.fuel, 0); got != r.want {
				t.Errorf("fuel %d: %s, want %s", r.fuel, got, r.want)
			}
		}
	}
}

// P10: Step, with fuel below 0, 0, too little, just enough.
func TestFuel(t *testing.T) {
	for _, r := range []struct {
		words string
		fuel  int
		want  string
	}{
		{"", math.MinInt, "Done"}, {"", 0, "Done"}, {"Push 1 Put o", -1, "Put 0 1; Done"},
		{"Step", math.MinInt, "Fuel"}, {"Step", -1, "Fuel"}, {"Step", 0, "Fuel"}, {"Step", 1, "Done"}, {"Step", math.MaxInt, "Done"},
		{"Step Step", 1, "Fuel"}, {"Step Step", 2, "Done"},
		{"Push 1 Put o Step Push 2 Put o", 0, "Put 0 1; Fuel"},
		{"Step Push 1 Put o Step Push 2 Put o Step Push 3 Put o", 2, "Put 0 1; Put 0 2; Fuel"},
		{"Step Push 1 Put o Step Push 2 Put o Step Push 3 Put o", 3, "Put 0 1; Put 0 2; Put 0 3; Done"},
		{"Push 0 If Step Step Step Else Step End", 1, "Done"}, {"Push 1 If Step Step Step Else Step End", 2, "Fuel"},
		{"Loop Step Push 1 Test End", 5, "Fuel"}, {"Loop Step Push 1 Test End", 100000, "Fuel"}, {"Loop Step Push 0 Test End", 0, "Fuel"}, {"Loop Step Push 0 Test End", 1, "Done"},
		{"Loop Step Push 7 Put o Push 1 Test End", 3, "Put 0 7; Put 0 7; Put 0 7; Fuel"},
		{"Loop Step Push 1 Test Push 7 Put o Step End", 3, "Put 0 7; Put 0 7; Fuel"},
	} {
		if got := ran(loaded(t, abc(r.words)), nil, r.fuel, 0); got != r.want {
			t.Errorf("%s, fuel %d: %s, want %s", r.words, r.fuel, got, r.want)
		}
	}
}

// P10: Push, Load and Store; variables begin at 0.
func TestPushLoadStore(t *testing.T) {
	doesAll(t, [][2]string{
		{"Push 0 Put o", "Put 0 0; Done"}, {"Push 1 Put o", "Put 0 1; Done"}, {"Push 255 Put o", "Put 0 255; Done"}, {"Push 256 Put o", "Put 0 256; Done"}, {"Push 16909060 Put o", "Put 0 16909060; Done"},
		{"Push 2147483647 Put o", "Put 0 2147483647; Done"}, {"Push 2147483648 Put o", "Put 0 2147483648; Done"}, {"Push 4294967295 Put o", "Put 0 4294967295; Done"},
		{"Push #1 #2 #3 #4 Put o", "Put 0 16909060; Done"}, {"Push #255 #0 #0 #0 Put o", "Put 0 4278190080; Done"},
		{"Load l Put o Load h Put u Load k Put w Load x Put w", "Put 0 0; Put 1 0; Put 2 0; Put 2 0; Done"},
		{"Push 3 Store l Load l Put o Push 4 Store l Load l Put o", "Put 0 3; Put 0 4; Done"},
		{"Push 1 Store l Push 2 Store h Push 3 Store k Push 4 Store x Load x Put w Load k Put w Load h Put w Load l Put w", "Put 2 4; Put 2 3; Put 2 2; Put 2 1; Done"},
		{"Get s h Load h Store x Load x Put w Load h Put u", "ask 1; Got 1 7; Put 2 7; Put 1 7; Done"},
		// What is stored has the variable's label from then on, not the number's.
		{"Push 1 Store h Load h Put o", "Stopped"}, {"Load l Store h Load h Put o", "Stopped"},
		{"Push 1 Store l Load h Store l", "Stopped"}, {"Load h Store k", "Stopped"}, {"Load x Store h", "Stopped"}, {"Load x Store k", "Stopped"}, {"Load k Store x Load h Store x Load l Store h Load l Store k", "Done"},
	})
}

// P10: what is calculated, of numbers that go around.
func TestCalculation(t *testing.T) {
	big, low := math.MaxInt, math.MinInt
	for _, r := range []struct {
		op         string
		a, b, want int
	}{
		{"Add", 2, 3, 5}, {"Add", -2, 1, -1}, {"Add", big, 1, low}, {"Add", low, -1, big}, {"Add", low, low, 0}, {"Add", big, big, -2}, {"Add", 1 << 62, 1 << 62, low},
		{"Sub", 2, 3, -1}, {"Sub", 3, 2, 1}, {"Sub", low, 1, big}, {"Sub", big, -1, low}, {"Sub", 0, low, low},
		{"Mul", 6, 7, 42}, {"Mul", -6, 7, -42}, {"Mul", big, 2, -2}, {"Mul", low, -1, low}, {"Mul", low, 2, 0}, {"Mul", 1 << 32, 1 << 32, 0}, {"Mul", 1 << 31, 1 << 32, low}, {"Mul", 4294967295, 4294967295, -8589934591},
		{"Div", 7, 2, 3}, {"Div", -7, 2, -3}, {"Div", 7, -2, -3}, {"Div", -7, -2, 3}, {"Div", 1, 2, 0}, {"Div", -1, 2, 0}, {"Div", 0, 5, 0}, {"Div", low, -1, low}, {"Div", low, 1, low}, {"Div", low, low, 1}, {"Div", big, low, 0}, {"Div", 2, 7, 0},
		{"Less", 1, 2, 1}, {"Less", 2, 1, 0}, {"Less", 2, 2, 0}, {"Less", -1, 0, 1}, {"Less", 0, -1, 0}, {"Less", low, big, 1}, {"Less", big, low, 0}, {"Less", low, low, 0},
		{"Same", 1, 2, 0}, {"Same", 2, 1, 0}, {"Same", 2, 2, 1}, {"Same", low, low, 1}, {"Same", low, big, 0}, {"Same", 1 << 32, 0, 0}, {"Same", -1, 4294967295, 0},
	} {
		c := loaded(t, abc("Get p l Get p k Load l Load k "+r.op+" Put w"))
		var got int
		in := []int{r.a, r.b}
		end := c.Run(func(int) (int, bool) { n := in[0]; in = in[1:]; return n, true }, 0, func(e api.Event) bool { got = e.N; return true })
		if got != r.want || end != api.Done {
			t.Errorf("%d %s %d: %d and outcome %d, want %d", r.a, r.op, r.b, got, end, r.want)
		}
	}
	doesAll(t, [][2]string{
		{"Push 1 Push 2 Push 3 Add Sub Put o", "Put 0 -4; Done"}, {"Push 1 Push 2 Sub Push 3 Sub Put o", "Put 0 -4; Done"}, {"Push 100 Push 7 Push 2 Mul Div Put o", "Put 0 7; Done"},
		{"Push 0 Push 0 Less Push 0 Same Put o", "Put 0 1; Done"},
		{"Push 1 Put o Push 5 Push 0 Div Put o", "Put 0 1; Divide"}, {"Push 0 Push 0 Div Put o", "Divide"}, {"Push 0 Push 5 Div Put o", "Put 0 0; Done"}, {"Push 5 Push 5 Load l Div Add Put o", "Divide"}, {"Load h Load h Div Store l", "Divide"},
		{"Push 1 If Push 1 Push 0 Div Put o Else Push 2 Put o End", "Divide"}, {"Push 0 If Push 1 Push 0 Div Put o Else Push 2 Put o End", "Put 0 2; Done"},
	})
}

// P10: what is calculated has the labels of both numbers.
func TestLabelsOfNumbers(t *testing.T) {
	for _, op := range []string{"Add", "Sub", "Mul", "Less", "Same"} {
		doesAll(t, [][2]string{
			{"Load l Push 1 " + op + " Store l", "Done"}, {"Load h Push 1 " + op + " Store l", "Stopped"}, {"Push 1 Load h " + op + " Store l", "Stopped"}, {"Push 1 Load h " + op + " Store h", "Done"}, {"Load h Load h " + op + " Store h", "Done"},
			{"Load h Load k " + op + " Store h", "Stopped"}, {"Load h Load k " + op + " Store k", "Stopped"}, {"Load h Load k " + op + " Store x", "Done"}, {"Load l Load h " + op + " Push 1 " + op + " Load l " + op + " Put o", "Stopped"}, {"Load k Load h " + op + " Push 1 " + op + " Put u", "Stopped"},
		})
	}
	doesAll(t, [][2]string{{"Load h Push 1 Div Store l", "Stopped"}, {"Get s h Push 1 Load h Div Store l", "ask 1; Got 1 7; Stopped"}, {"Get s h Push 1 Load h Div Store h", "ask 1; Got 1 7; Done"}, {"Get s h Load k Load h Div Put u", "ask 1; Got 1 7; Stopped"}, {"Load k Load h Add Push 1 Add Put w", "Put 2 1; Done"}})
}

// P10: Get. What may not flow is stopped ahead of asking.
func TestGet(t *testing.T) {
	doesAll(t, [][2]string{
		{"Get p l Load l Put o", "ask 0; Got 0 5; Put 0 5; Done"},
		{"Get p l Get p l Load l Put o", "ask 0; Got 0 5; ask 0; Got 0 6; Put 0 6; Done"},
		{"Get p h Get p k Get p x", "ask 0; Got 0 5; ask 0; Got 0 6; ask 0; Input"},
		{"Get s h Get s x Get t k Get t x Load x Put w", "ask 1; Got 1 7; ask 1; Got 1 8; ask 2; Got 2 9; ask 2; Got 2 10; Put 2 10; Done"},
		{"Get s l", "Stopped"}, {"Get s k", "Stopped"}, {"Get t h", "Stopped"}, {"Get t l", "Stopped"},
		// What the way tells must flow to the input.
		{"Load h If Else Get p x End", "Stopped"}, {"Load h If Else Get t x End", "Stopped"}, {"Load x If Else Get s x End", "Stopped"}, {"Load h If Else Get s x End", "ask 1; Got 1 7; Done"}, {"Load h If Else Get s h End", "ask 1; Got 1 7; Done"}, {"Load h If Else Get s l End", "Stopped"}, {"Load k If Else Get s x End", "Stopped"},
		{"Load h If Else End Get p l", "ask 0; Got 0 5; Done"},
	})
	does(t, "Get p l Load l Put o", nil, "ask 0; Input")
	does(t, "Push 1 Put o Get t x Push 2 Put o", [][]int{{1}, {2}}, "Put 0 1; ask 2; Input")
	does(t, "Get p l Get p l", [][]int{{1}}, "ask 0; Got 0 1; ask 0; Input")
	does(t, "Get s l", nil, "Stopped")
	does(t, "Get p l Load l Put o", [][]int{{math.MinInt}}, "ask 0; Got 0 -9223372036854775808; Put 0 -9223372036854775808; Done")
	does(t, "Get p l Load l Put o", [][]int{{math.MaxInt}}, "ask 0; Got 0 9223372036854775807; Put 0 9223372036854775807; Done")
}

// P10: Put.
func TestPut(t *testing.T) {
	doesAll(t, [][2]string{
		{"Push 1 Put o Push 2 Put u Push 3 Put w", "Put 0 1; Put 1 2; Put 2 3; Done"},
		{"Load h Put o", "Stopped"}, {"Load k Put u", "Stopped"}, {"Load x Put u", "Stopped"}, {"Load k Put o", "Stopped"}, {"Load h Put u Load h Put w Load k Put w Load x Put w", "Put 1 0; Put 2 0; Put 2 0; Put 2 0; Done"},
		{"Push 1 Put o Load h Put o Push 2 Put o", "Put 0 1; Stopped"},
		{"Load h If Else Push 1 Put o End", "Stopped"}, {"Load h If Else Push 1 Put u End", "Put 1 1; Done"}, {"Load h If Else Load k Put u End", "Stopped"}, {"Load k If Else Load h Put u End", "Stopped"}, {"Load k If Else Load h Put w End", "Put 2 0; Done"},
	})
}

// P10: If, both ways, with and without Else; its parts know what was tested, and nothing behind does.
func TestIf(t *testing.T) {
	doesAll(t, [][2]string{
		{"Push 1 If Push 1 Put o End Push 2 Put o", "Put 0 1; Put 0 2; Done"}, {"Push 0 If Push 1 Put o End Push 2 Put o", "Put 0 2; Done"},
		{"Push 1 If Push 1 Put o Else Push 2 Put o End Push 3 Put o", "Put 0 1; Put 0 3; Done"}, {"Push 0 If Push 1 Put o Else Push 2 Put o End Push 3 Put o", "Put 0 2; Put 0 3; Done"},
		{"Push 0 Push 1 Sub If Push 1 Put o Else Push 2 Put o End", "Put 0 1; Done"}, {"Push 4294967295 Push 1 Add If Push 1 Put o Else Push 2 Put o End", "Put 0 1; Done"},
		{"Push 1 If End Push 0 If End Push 1 If Else End Push 0 If Else End Push 1 Put o", "Put 0 1; Done"},
		{"Push 1 If Push 0 If Push 1 Put o Else Push 2 Put o End Push 3 Put o Else Push 4 Put o End", "Put 0 2; Put 0 3; Done"},
		{"Push 0 If Push 1 If Push 1 Put o Else Push 2 Put o End Else Push 1 If Push 3 Put o Else Push 4 Put o End End", "Put 0 3; Done"},
		{"Push 0 If Push 1 Put o Else Push 0 If Push 2 Put o End Push 3 Put o End Push 4 Put o", "Put 0 3; Put 0 4; Done"},
		// Both parts tell of h, whichever is done, and only these.
		{"Get s h Load h If Push 1 Store l End", "ask 1; Got 1 7; Stopped"}, {"Get s h Load h If Else Push 1 Store l End", "ask 1; Got 1 7; Done"}, {"Load h If Else Push 1 Store l End", "Stopped"}, {"Load h If Push 1 Store l End Push 1 Store l", "Done"},
		{"Get s h Load h If Push 1 Store h End Push 1 Store l Push 1 Put o", "ask 1; Got 1 7; Put 0 1; Done"}, {"Get s h Load h If Else End Push 1 Store l", "ask 1; Got 1 7; Done"},
		{"Load h Push 1 Add If Push 1 Put o End", "Stopped"}, {"Load h Load k Add If Else Push 1 Put u End", "Stopped"}, {"Load h Load k Add If Else Push 1 Put w End", "Put 2 1; Done"},
		// Within one another the labels come together, and go one by one.
		{"Load h If Else Load k If Else Push 1 Put w Push 1 Put u End End", "Put 2 1; Stopped"}, {"Load h If Else Load k If Else Push 1 Put w End Push 1 Put u End Push 1 Put o", "Put 2 1; Put 1 1; Put 0 1; Done"}, {"Load k If Else Load l If Else Push 1 Put u End End", "Stopped"}, {"Load h If Else Push 1 If Push 1 If Push 1 Put o End End End", "Stopped"}, {"Load h If Else Push 1 If End Push 1 Put o End", "Stopped"},
		{"Load h If Else Load k If Else End End Load h If Else Push 1 Put u End", "Put 1 1; Done"},
		// What was tested tells by its label then, not by what the variable is now.
		{"Load h If Else Push 1 Store h End Load l If Else Push 3 Put o End", "Put 0 3; Done"},
		{"Push 1 If Load h If Else End Push 1 Put o End", "Put 0 1; Done"}, {"Push 1 If Load h If Push 2 Put u Else Push 1 Put u End Push 1 Put o Else Push 2 Put o End", "Put 1 1; Put 0 1; Done"},
	})
}

// P10: Loop and Test.
func TestLoop(t *testing.T) {
	doesAll(t, [][2]string{
		{"Loop Step Push 0 Test Push 1 Put o End Push 2 Put o", "Put 0 2; Done"},
		{"Push 3 Store l Loop Step Load l Test Load l Put o Load l Push 1 Sub Store l End Push 9 Put o", "Put 0 3; Put 0 2; Put 0 1; Put 0 9; Done"},
		{"Push 2 Store l Loop Step Load l Push 1 Sub Store l Load l Put o Load l Test Push 7 Put o End", "Put 0 1; Put 0 7; Put 0 0; Done"},
		{"Push 0 Push 2 Sub Store l Loop Step Load l Test Load l Push 1 Add Store l Load l Put o End", "Put 0 -1; Put 0 0; Done"},
		{"Push 2 Store l Loop Step Load l Test Load l Push 1 Sub Store l Push 2 Store h Loop Step Load h Test Load h Push 1 Sub Store h Load h Put u End Load l Put o End", "Put 1 1; Put 1 0; Put 0 1; Put 1 1; Put 1 0; Put 0 0; Done"},
		{"Push 2 Store l Loop Step Load l Test Load l Push 1 Same If Push 5 Put o Else Push 6 Put o End Load l Push 1 Sub Store l End", "Put 0 6; Put 0 5; Done"},
	})
}

// P10: what stands in a loop knows all that its Test took since it was entered: till the first nothing; from the second time on what stands ahead of Test knows it, too; what stands behind End does not.
func TestWhatLoopsTell(t *testing.T) {
	const down = "Load h Push 1 Sub Store h "
	doesAll(t, [][2]string{
		{"Loop Step Push 1 Put o Load h Test End", "Put 0 1; Done"},
		{"Loop Step Push 1 Put o Load h Test Push 2 Put o End Push 3 Put o", "Put 0 1; Put 0 3; Done"},
		{"Push 1 Store h Loop Step Push 1 Put o Load h Test Push 0 Store h End", "Put 0 1; Stopped"},
		{"Push 1 Store h Loop Step Push 1 Put u Load h Test Push 0 Store h End Push 1 Put o", "Put 1 1; Put 1 1; Put 0 1; Done"},
		{"Push 1 Store h Loop Step Load h Test Push 1 Put o End", "Stopped"},
		{"Push 1 Store h Loop Step Load h Test Push 1 Store l End", "Stopped"},
		{"Push 1 Store h Loop Step Load h Test Get p h End", "Stopped"},
		{"Push 2 Store h Loop Step Load h Test " + down + "Get s x Push 1 Put u End Get p l", "ask 1; Got 1 7; Put 1 1; ask 1; Got 1 8; Put 1 1; ask 0; Got 0 5; Done"},
		// A number that is made of several has the labels of all.
		{"Push 1 Store h Loop Step Push 1 Put o Load h Load k Add Test Push 1 Put w Push 1 Put u End", "Put 0 1; Put 2 1; Stopped"},
		{"Push 1 Store x Loop Step Load x Load l Add Test Push 1 Put w Push 0 Store x End Push 1 Put o", "Put 2 1; Put 0 1; Done"}, {"Push 1 Store h Loop Step Load h Load k Add Test " + down + "End", "Stopped"},
		// A loop that is entered anew has forgotten what it was told, but for what the loop around it tells.
		{"Push 2 Store l Loop Step Load l Test Load l Push 1 Sub Store l Loop Step Push 1 Put o Load h Test End End", "Put 0 1; Put 0 1; Done"},
		{"Push 2 Store l Loop Step Load l Test Load l Push 1 Sub Store l Push 1 Store h Loop Step Push 1 Put u Load h Test " + down + "End Push 1 Put o End", "Put 1 1; Put 1 1; Put 0 1; Put 1 1; Put 1 1; Put 0 1; Done"},
		{"Push 1 Store h Loop Step Load h Test " + down + "Loop Step Push 1 Put u Push 0 Test End Loop Step Push 1 Put o Push 0 Test End End", "Put 1 1; Stopped"},
		{"Push 2 Store h Loop Step Loop Step Push 1 Put o Push 0 Test End Load h Test " + down + "End", "Put 0 1; Stopped"},
		{"Push 2 Store l Loop Step Loop Step Push 1 Put o Load h Test End Load l Test Load l Push 1 Sub Store l End", "Put 0 1; Put 0 1; Put 0 1; Done"},
		// If in a loop, and a loop in an If.
		{"Push 2 Store l Loop Step Load l Test Load h If Else Push 1 Put u End Push 1 Put o Load l Push 1 Sub Store l End", "Put 1 1; Put 0 1; Put 1 1; Put 0 1; Done"},
		{"Load h If Else Loop Step Push 1 Put o Push 0 Test End End", "Stopped"}, {"Load h If Else Loop Step Push 0 Test End Push 1 Put o End", "Stopped"}, {"Load h If Else Loop Step Load k Test End Push 1 Put u End Push 1 Put o", "Put 1 1; Put 0 1; Done"}, {"Load h If Else Loop Step Push 1 Put u Load k Test End End", "Put 1 1; Done"},
		{"Push 1 Store k Load h If Else Loop Step Load k Test Push 1 Put w Push 1 Put u End End", "Put 2 1; Stopped"},
	})
}

// P10: Free.
func TestFree(t *testing.T) {
	doesAll(t, [][2]string{
		{"Push 3 Free l {} - Load l Put o", "Freed 0 3; Put 0 3; Done"},
		{"Get s h Load h Free l {} a Load l Put o Load h Put u", "ask 1; Got 1 7; Freed 0 7; Put 0 7; Put 1 7; Done"},
		{"Load h Free l {} -", "Stopped"}, {"Load h Free l {} b", "Stopped"}, {"Load h Free l {} bc", "Stopped"}, {"Load h Free l {} ab", "Freed 0 0; Done"}, {"Load h Free l {} abc", "Freed 0 0; Done"}, {"Load h Free l {} ac", "Freed 0 0; Done"},
		{"Load x Free l {} a", "Stopped"}, {"Load x Free l {} b", "Stopped"}, {"Load x Free l {} ab", "Freed 0 0; Done"}, {"Load x Free h {a} a", "Stopped"}, {"Load x Free h {a} b", "Freed 1 0; Done"}, {"Load x Free k {b} a", "Freed 2 0; Done"}, {"Load x Free x {ab} -", "Freed 3 0; Done"}, {"Load h Free h {a} -", "Freed 1 0; Done"},
		{"Load h Load k Add Free l {} a", "Stopped"}, {"Load h Load k Add Free h {a} b", "Freed 1 0; Done"},
		// The label must flow to the variable's, whoever stands behind it.
		{"Push 1 Free l {a} -", "Stopped"}, {"Load h Free l {a} a", "Stopped"}, {"Push 1 Free h {b} -", "Stopped"}, {"Push 1 Free h {ab} abc", "Stopped"}, {"Push 1 Free x {b} -", "Freed 3 1; Done"}, {"Push 1 Free x {} - Load x Put w", "Freed 3 1; Put 2 1; Done"}, {"Load h Free x {} a Load x Put u", "Freed 3 0; Stopped"},
		// And the way, too: nobody can free that.
		{"Load h If Else Push 1 Free l {} a End", "Stopped"}, {"Load h If Else Push 1 Free h {} - End", "Freed 1 1; Done"}, {"Load h If Else Load k Free x {} b End", "Freed 3 0; Done"}, {"Load k If Else Load h Free h {a} b End", "Stopped"}, {"Load h If Else End Load h Free l {} a", "Freed 0 0; Done"},
		{"Push 1 Store h Loop Step Load h Test Push 1 Free l {} abc End", "Stopped"}, {"Loop Step Push 1 Free l {} - Load h Test End", "Freed 0 1; Done"},
		{"Push 1 Put o Load h Free l {} - Push 2 Put o", "Put 0 1; Stopped"},
	})
	// Who acts for the owner may free what is the owner's, but not the other way round: 2 acts for 1, and 1 for 0.
	for does, want := range map[string]string{
		"Load 1 Free 0 0 1": "Freed 0 0; Done", "Load 1 Free 0 0 2": "Freed 0 0; Done", "Load 1 Free 0 0 4": "Freed 0 0; Done", "Load 1 Free 0 0 8": "Stopped",
		"Load 2 Free 0 0 1": "Stopped", "Load 2 Free 0 0 2": "Freed 0 0; Done", "Load 2 Free 0 0 4": "Freed 0 0; Done", "Load 2 Free 1 1 1": "Stopped", "Load 2 Free 1 1 2": "Freed 1 0; Done",
	} {
		s := sheet{above: []int{7, 6, 4, 8}, labels: [][]api.Policy{nil, label(0, 7), label(1, 6)}, vars: []int{0, 1, 2}, does: does}
		if got := ran(loaded(t, s), nil, 0, 0); got != want {
			t.Errorf("%s: %s, want %s", does, got, want)
		}
	}
	// A policy under by lets nobody else read: a label that a lets b read is freed by a alone.
	s := sheet{above: []int{1, 2, 4}, labels: [][]api.Policy{nil, label(0, 3), label(0, 1)}, vars: []int{0, 1, 2}}
	for does, want := range map[string]string{"Load 1 Free 0 0 1": "Freed 0 0; Done", "Load 1 Free 0 0 2": "Stopped", "Load 2 Free 1 1 0": "Stopped", "Load 2 Free 1 1 1": "Freed 1 0; Done", "Load 1 Free 2 2 0": "Freed 2 0; Done"} {
		s.does = does
		if got := ran(loaded(t, s), nil, 0, 0); got != want {
			t.Errorf("%s: %s, want %s", does, got, want)
		}
	}
}

// P10: who sees the events may say no to each of them; nothing is done behind it.
func TestCut(t *testing.T) {
	c := loaded(t, abc("Step Get p l Step Load l Put o Step Load l Free l {} - Step Get s h Load h Push 0 Div Put u"))
	whole := []string{"Got 0 5", "Put 0 5", "Freed 0 5", "Got 1 7"}
	for most := range 6 {
		want := "ask 0; Got 0 5; Put 0 5; Freed 0 5; ask 1; Got 1 7; Divide"
		if most > 0 && most <= 4 {
			want = want[:strings.Index(want, whole[most-1])] + whole[most-1] + "; Cut"
		}
		if got := ran(c, [][]int{{5}, {7}}, 9, most); got != want {
			t.Errorf("no at event %d: %s, want %s", most, got, want)
		}
	}
	if got := ran(loaded(t, abc("Push 1 Put o")), nil, 0, 1); got != "Put 0 1; Cut" {
		t.Errorf("no at the last instruction: %s", got)
	}
}

// P10: with one actor alone, and with none, nothing is stopped.
func TestNothingToKeep(t *testing.T) {
	for _, above := range [][]int{nil, {1}, {3, 3}} {
		s := sheet{above: above, labels: [][]api.Policy{nil}, ins: []int{0}, outs: []int{0}, vars: []int{0, 0}, does: "Get 0 0 Load 0 If Get 0 1 Load 0 Put 0 Load 1 Free 0 0 0 Load 0 Store 1 Load 1 Put 0 End"}
		if got := ran(loaded(t, s), [][]int{{4, 5}}, 0, 0); got != "ask 0; Got 0 4; ask 0; Got 0 5; Put 0 4; Freed 0 5; Put 0 5; Done" {
			t.Errorf("%v: %s", above, got)
		}
	}
}

// P2, P10: a run leaves nothing behind in the code, however it ended, not even when another runs within it.
func TestRunsAgain(t *testing.T) {
	s := abc("Get p l Load l Put o Load h If Else Push 1 Store h End Step Load l Push 1 Add Store l Load l Put o Load h Put u")
	c := loaded(t, s)
	const want = "ask 0; Got 0 5; Put 0 5; Put 0 6; Put 1 1; Done"
	for most := range 6 {
		for fuel := range 3 {
			ran(c, [][]int{{9}}, fuel, most)
			ran(c, nil, fuel, most)
			if got := ran(c, [][]int{{5}}, 1, 0); got != want {
				t.Fatalf("run again: %s, want %s", got, want)
			}
		}
	}
	outer := &world{inputs: [][]int{{5}}}
	end := c.Run(func(k int) (int, bool) {
		ran(c, [][]int{{8}}, 1, 0)
		return outer.input(k)
	}, 1, func(e api.Event) bool {
		if got := ran(c, [][]int{{5}}, 1, 0); got != want {
			t.Errorf("within a run: %s, want %s", got, want)
		}
		return outer.see(e)
	})
	if got := outer.ends(end); got != want {
		t.Errorf("a run with others within it: %s, want %s", got, want)
	}
	if c.Bytes() != s.bytes() {
		t.Error("runs changed the code")
	}
}

// P1: where no function is handed in, there is no input, and nobody says no.
func TestRunWithoutFunctions(t *testing.T) {
	w := &world{inputs: [][]int{{1}}}
	c := loaded(t, abc("Push 1 Put o Push 1 Free l {} - Get p l"))
	if got := w.ends(c.Run(nil, 0, w.see)); got != "Put 0 1; Freed 0 1; Input" {
		t.Error(got)
	}
	w = &world{inputs: [][]int{{1}}}
	if got := w.ends(c.Run(w.input, 0, nil)); got != "ask 0; Done" {
		t.Error(got)
	}
	if got := c.Run(nil, 0, nil); got != api.Input {
		t.Error(got)
	}
}

// P1: no run panics, at all numbers.
func TestRunsAtAllNumbers(t *testing.T) {
	for _, op := range []string{"Add", "Sub", "Mul", "Div", "Less", "Same"} {
		c := loaded(t, abc("Step Get p l Get p k Load l Load k "+op+" Put w Load l If Step Else Step End"))
		for _, fuel := range wild {
			for _, a := range wild {
				for _, b := range wild {
					ran(c, [][]int{{a, b}}, fuel, 0)
				}
			}
		}
	}
}

// The numbers of events and outcomes are the document's.
func TestNumbersOfEvents(t *testing.T) {
	if !slices.Equal([]int{api.Got, api.Put, api.Freed}, []int{1, 2, 3}) || !slices.Equal([]api.Outcome{api.Done, api.Fuel, api.Divide, api.Input, api.Stopped, api.Cut}, []api.Outcome{0, 1, 2, 3, 4, 5}) {
		t.Error("numbers of package api")
	}
	var e []api.Event
	c := loaded(t, abc("Get s h Load h Put u Load h Free k {} ab"))
	end := c.Run(func(k int) (int, bool) { return 40 + k, true }, 0, func(x api.Event) bool { e = append(e, x); return true })
	if want := []api.Event{{Kind: 1, What: 1, N: 41}, {Kind: 2, What: 1, N: 41}, {Kind: 3, What: 2, N: 41}}; !slices.Equal(e, want) || end != 0 {
		t.Errorf("%v and %d, want %v", e, end, want)
	}
}
