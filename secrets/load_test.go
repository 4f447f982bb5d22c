package secrets_test

import (
	"slices"
	"strings"
	"testing"

	"secrets/api"
	"secrets/secrets"
)

// small: two actors, a label of nobody's and one of the first's.
func small(does string) sheet {
	return sheet{above: []int{1, 2}, labels: [][]api.Policy{nil, label(0, 1)}, ins: []int{0}, outs: []int{1}, vars: []int{0, 1}, does: does}
}

// P11: 4,096 bytes at the most, whatever they are.
func TestLengthOfCodes(t *testing.T) {
	for _, head := range []string{sheet{}.bytes(), small("").bytes(), abc("").bytes()} {
		for n, want := range map[int]api.Errno{4095: api.OK, 4096: api.OK, 4097: api.ErrLong, 4098: api.ErrLong, 8192: api.ErrLong} {
			if got := loadFault(t, head+strings.Repeat("\x00", n-len(head))); got != want {
				t.Errorf("%d bytes: %v, want %v", n, got, want)
			}
		}
	}
	for n, want := range map[int]api.Errno{0: api.ErrCode, 1: api.ErrCode, 4096: api.ErrCode, 4097: api.ErrLong, 100000: api.ErrLong} {
		for _, b := range []string{"\x00", "S", "\xff"} {
			if got := loadFault(t, strings.Repeat(b, n)); got != want {
				t.Errorf("%d bytes %x: %v, want %v", n, b, got, want)
			}
		}
	}
}

// P11: the first four bytes, each of them wrong alone, or missing.
func TestFirstBytesOfCodes(t *testing.T) {
	good := small("Step").bytes()
	if e := loadFault(t, good); e != api.OK {
		t.Fatal(e)
	}
	for k := range 4 {
		for b := range 256 {
			bad := good[:k] + string([]byte{byte(b)}) + good[k+1:]
			if e := loadFault(t, bad); (e == api.OK) != (bad == good) {
				t.Errorf("%q: %v", bad[:4], e)
			}
		}
		for _, bad := range []string{good[:k], good[:k] + good[k+1:], good[k+1:], "\x00" + good} {
			if e := loadFault(t, bad); e != api.ErrCode {
				t.Errorf("%q: %v", bad, e)
			}
		}
	}
}

// P11: what is asked of the parts ahead of the instructions, each broken alone: of each row the first is a code, the second is none.
func TestHeadsOfCodes(t *testing.T) {
	labels := func(l ...[]api.Policy) [][]api.Policy { return l }
	six, seven := []int{1, 2, 4, 8, 16, 32}, []int{1, 2, 4, 8, 16, 32, 64}
	two, three := []int{1, 2}, []int{1, 2, 4}
	own, none := labels(label(0, 1)), labels(nil)
	in := []int{0}
	for _, c := range []struct {
		name      string
		good, bad sheet
	}{
		{"seven actors", sheet{above: six}, sheet{above: seven}},
		{"actors without number", sheet{above: six}, sheet{above: make([]int, 255)}},
		{"four inputs", sheet{labels: none, ins: []int{0, 0, 0}}, sheet{labels: none, ins: []int{0, 0, 0, 0}}},
		{"four outputs", sheet{labels: none, outs: []int{0, 0, 0}}, sheet{labels: none, outs: []int{0, 0, 0, 0}}},
		{"nine variables", sheet{labels: none, vars: make([]int, 8)}, sheet{labels: none, vars: make([]int, 9)}},

		{"an actor above that there is not", sheet{above: []int{3, 2}}, sheet{above: []int{5, 2}}},
		{"an actor above that there is not, beside one", sheet{above: []int{1, 3}}, sheet{above: []int{1, 7}}},
		{"an actor above far away", sheet{above: []int{1}}, sheet{above: []int{129}}},
		{"does not act for itself", sheet{above: two}, sheet{above: []int{1, 0}}},
		{"the first does not act for itself", sheet{above: []int{3, 2}}, sheet{above: []int{2, 2}}},
		{"who acts for one that acts for a third", sheet{above: []int{7, 6, 4}}, sheet{above: []int{3, 6, 4}}},
		{"the same from behind", sheet{above: []int{1, 3, 7}}, sheet{above: []int{1, 3, 6}}},
		{"over three", sheet{above: []int{15, 14, 12, 8}}, sheet{above: []int{7, 14, 12, 8}}},
		{"alike, and one above", sheet{above: []int{7, 7, 4}}, sheet{above: []int{7, 3, 4}}},

		{"a policy that lets all read", sheet{above: two, labels: own, ins: in}, sheet{above: two, labels: labels(label(0, 3)), ins: in}},
		{"one actor alone", sheet{above: []int{1}, labels: none, ins: in}, sheet{above: []int{1}, labels: own, ins: in}},
		{"the owner not among the readers", sheet{above: two, labels: own, ins: in}, sheet{above: two, labels: labels(label(0, 0)), ins: in}},
		{"another among the readers", sheet{above: three, labels: labels(label(0, 3)), ins: in}, sheet{above: three, labels: labels(label(0, 2)), ins: in}},
		{"readers that there are not", sheet{above: two, labels: own, ins: in}, sheet{above: two, labels: labels(label(0, 5)), ins: in}},
		{"readers far away", sheet{above: two, labels: own, ins: in}, sheet{above: two, labels: labels(label(0, 129)), ins: in}},
		{"an owner that there is not", sheet{above: two, labels: labels(label(1, 2)), ins: in}, sheet{above: two, labels: labels(label(2, 2)), ins: in}},
		{"an owner far away", sheet{above: two, labels: labels(label(1, 2)), ins: in}, sheet{above: two, labels: labels(label(255, 2)), ins: in}},
		{"owners not rising", sheet{above: two, labels: labels(label(0, 1, 1, 2)), ins: in}, sheet{above: two, labels: labels(label(1, 2, 0, 1)), ins: in}},
		{"an owner twice", sheet{above: two, labels: own, ins: in}, sheet{above: two, labels: labels(label(0, 1, 0, 1)), ins: in}},
		{"an owner twice, apart", sheet{above: three, labels: labels(label(0, 1)), ins: in}, sheet{above: three, labels: labels(label(0, 3, 0, 5)), ins: in}},
		{"a policy too many", sheet{above: two, labels: own, ins: in}, sheet{above: two, labels: labels(label(0, 1, 1, 3)), ins: in}},
		{"who acts for the owner reads", sheet{above: []int{5, 2, 4}, labels: labels(label(0, 5)), ins: in}, sheet{above: []int{5, 2, 4}, labels: labels(label(0, 1)), ins: in}},
		{"who acts for a reader reads", sheet{above: []int{1, 6, 4, 8}, labels: labels(label(0, 7)), ins: in}, sheet{above: []int{1, 6, 4, 8}, labels: labels(label(0, 3)), ins: in}},
		{"said by an owner above", sheet{above: []int{3, 2, 4}, labels: labels(label(1, 2)), ins: in}, sheet{above: []int{3, 2, 4}, labels: labels(label(0, 2, 1, 2)), ins: in}},
		{"an owner above says less", sheet{above: []int{3, 2, 4}, labels: labels(label(0, 2, 1, 6)), ins: in}, sheet{above: []int{3, 2, 4}, labels: labels(label(0, 6, 1, 6)), ins: in}},
		{"not the first of those alike", sheet{above: []int{3, 3, 4}, labels: labels(label(0, 3)), ins: in}, sheet{above: []int{3, 3, 4}, labels: labels(label(1, 3)), ins: in}},
		{"both of those alike", sheet{above: []int{3, 3, 4}, labels: labels(label(0, 3)), ins: in}, sheet{above: []int{3, 3, 4}, labels: labels(label(0, 3, 1, 3)), ins: in}},

		{"two labels that are the same", sheet{above: two, labels: labels(nil, label(0, 1)), ins: []int{0, 1}}, sheet{above: two, labels: labels(label(0, 1), label(0, 1)), ins: []int{0, 1}}},
		{"two that have no policy", sheet{above: two, labels: labels(nil, label(0, 1)), ins: []int{0, 1}}, sheet{above: two, labels: labels(nil, nil), ins: []int{0, 1}}},
		{"two that are the same, apart", sheet{above: two, labels: labels(nil, label(0, 1), label(1, 2)), vars: []int{0, 1, 2}}, sheet{above: two, labels: labels(nil, label(0, 1), nil), vars: []int{0, 1, 2}}},
		{"a label that is not used", sheet{above: two, labels: none, ins: in}, sheet{above: two, labels: labels(nil, label(0, 1)), ins: in}},
		{"the only one is not used", sheet{}, sheet{labels: none}},
		{"the first is not used", sheet{above: two, labels: own, ins: in}, sheet{above: two, labels: labels(nil, label(0, 1)), ins: []int{1}}},

		{"inputs out of order", sheet{above: two, labels: labels(nil, label(0, 1)), ins: []int{0, 1}}, sheet{above: two, labels: labels(nil, label(0, 1)), ins: []int{1, 0}}},
		{"outputs out of order", sheet{above: two, labels: labels(nil, label(0, 1)), outs: []int{0, 0, 1}}, sheet{above: two, labels: labels(nil, label(0, 1)), outs: []int{1, 0, 1}}},
		{"variables out of order", sheet{above: two, labels: labels(nil, label(0, 1), label(1, 2)), vars: []int{0, 1, 0, 2}}, sheet{above: two, labels: labels(nil, label(0, 1), label(1, 2)), vars: []int{0, 2, 0, 1}}},
		{"outputs ahead of inputs", sheet{above: two, labels: labels(nil, label(0, 1)), ins: []int{0}, outs: []int{1}}, sheet{above: two, labels: labels(nil, label(0, 1)), ins: []int{1}, outs: []int{0}}},
		{"variables ahead of outputs", sheet{above: two, labels: labels(nil, label(0, 1)), outs: []int{0}, vars: []int{1, 0}}, sheet{above: two, labels: labels(nil, label(0, 1)), outs: []int{1}, vars: []int{0, 1}}},
		{"variables ahead of inputs", sheet{above: two, labels: labels(nil, label(0, 1)), ins: []int{0}, vars: []int{1}}, sheet{above: two, labels: labels(nil, label(0, 1)), ins: []int{1}, vars: []int{0}}},

		{"a place of an input that there is not", sheet{labels: none, ins: []int{0, 0}}, sheet{labels: none, ins: []int{0, 1}}},
		{"a place of an output that there is not", sheet{labels: none, outs: []int{0, 0}}, sheet{labels: none, outs: []int{0, 1}}},
		{"a place of a variable that there is not", sheet{labels: none, vars: []int{0, 0}}, sheet{labels: none, vars: []int{0, 255}}},
		{"a place where there is no label", sheet{}, sheet{vars: []int{0}}},
	} {
		if e := loadFault(t, c.good.bytes()); e != api.OK {
			t.Errorf("%s: the code is refused: %v", c.name, e)
		}
		if e := loadFault(t, c.bad.bytes()); e != api.ErrCode {
			t.Errorf("%s: %v", c.name, e)
		}
	}
}

// P11: labels that only Free instructions use come behind all others, in the order of these.
func TestLabelsOfFrees(t *testing.T) {
	s := sheet{above: []int{1, 2, 4}, labels: [][]api.Policy{nil, label(0, 1), label(1, 2), label(2, 4)}, ins: []int{0}, vars: []int{0, 1}}
	for does, want := range map[string]api.Errno{
		"Push 1 Free 0 2 0 Push 1 Free 0 3 0":                           api.OK,
		"Push 1 Free 0 0 0 Push 1 Free 0 2 0 Push 1 Free 0 3 0":         api.OK,
		"Push 1 Free 0 2 0 Push 1 Free 0 2 0 Push 1 Free 0 3 0":         api.OK,
		"Push 1 If Push 1 Free 0 2 0 Else Push 1 Free 0 3 0 End":        api.OK,
		"Loop Step Push 1 Free 0 2 0 Push 0 Test Push 1 Free 0 3 0 End": api.OK,
		"Push 1 Free 0 3 0 Push 1 Free 0 2 0":                           api.ErrCode,
		"Push 1 Free 0 0 0 Push 1 Free 0 3 0 Push 1 Free 0 2 0":         api.ErrCode,
		"Push 1 If Push 1 Free 0 3 0 Else Push 1 Free 0 2 0 End":        api.ErrCode,
		"Push 1 Free 0 2 0":                                       api.ErrCode,
		"Push 1 Free 0 3 0":                                       api.ErrCode,
		"Push 1 Free 0 2 0 Push 1 Free 0 4 0":                     api.ErrCode,
		"Push 1 Free 0 2 0 Push 1 Free 0 3 0 Push 1 Free 0 4 0":   api.ErrCode,
		"Push 1 Free 0 2 0 Push 1 Free 0 3 0 Push 1 Free 0 255 0": api.ErrCode,
		"": api.ErrCode,
	} {
		s.does = does
		if e := loadFault(t, s.bytes()); e != want {
			t.Errorf("%s: %v, want %v", does, e, want)
		}
	}
}

// P11: what stands behind an instruction is there; each a code with the greatest that can be, and none with one more.
func TestWhatStandsBehind(t *testing.T) {
	for good, bad := range map[string]string{
		"Load 3 Store 3":                  "Load 4 Store 3",
		"Load 3 Store 2":                  "Load 3 Store 4",
		"Get 2 3":                         "Get 3 3",
		"Get 2 2":                         "Get 2 4",
		"Push 1 Put 2":                    "Push 1 Put 3",
		"Push 1 Free 3 3 7":               "Push 1 Free 4 3 7",
		"Push 1 Free 2 3 7":               "Push 1 Free 2 4 7",
		"Push 1 Free 3 3 0":               "Push 1 Free 3 3 8",
		"Push 1 Free 3 0 1":               "Push 1 Free 3 0 9",
		"Push 4294967295 Put 0":           "Push 1 Put 255",
		"Push 1 Free 0 0 6":               "Push 1 Free 0 0 255",
		"Step":                            "#18",
		"Step Step":                       "Step #19",
		"Step Step Step":                  "Step #255 Step",
		"Push 1 #1 #0 #0 #0 #2 Add Put 0": "Push 1 #18 #0 #0 #0 #2 Add Put 0",
	} {
		if e := loadFault(t, abc(good).bytes()); e != api.OK {
			t.Errorf("%s: %v", good, e)
		}
		if e := loadFault(t, abc(bad).bytes()); e != api.ErrCode {
			t.Errorf("%s: %v", bad, e)
		}
	}
	bare := sheet{above: []int{1}}
	for _, does := range []string{"Push 1 Store 0", "Load 0", "Get 0 0", "Push 1 Put 0", "Push 1 Free 0 0 0"} {
		bare.does = does
		if e := loadFault(t, bare.bytes()); e != api.ErrCode {
			t.Errorf("%s, where there is nothing: %v", does, e)
		}
	}
}

// P11: a code that is cut off is one just where an instruction ends and nothing is open.
func TestCutCodes(t *testing.T) {
	s := abc("Step Get s h Push 65537 Store l Load l Push 2 Div Put o Push 1 Free x {} ab")
	ends := map[int]bool{}
	for _, does := range []string{"", "Step", "Step Get s h", "Step Get s h Push 65537 Store l", "Step Get s h Push 65537 Store l Load l Push 2 Div Put o", s.does} {
		ends[len(abc(does).bytes())] = true
	}
	whole := s.bytes()
	for k := range len(whole) + 1 {
		if e := loadFault(t, whole[:k]); (e == api.OK) != ends[k] {
			t.Errorf("%d of %d bytes: %v", k, len(whole), e)
		}
	}
}

// P11: If, Else, Loop, Test, End and Step stand where they may, and nowhere else.
func TestPartsOfCodes(t *testing.T) {
	for _, does := range []string{
		"", "Step", "Step Step",
		"Push 1 If End", "Push 1 If Else End", "Push 1 If Step Else Step End", "Push 1 If Push 1 If End End", "Push 1 If Else Push 1 If Else End End", "Push 1 If Push 1 If Else End Else Push 1 If End End Push 1 If End",
		"Loop Step Push 0 Test End", "Loop Step Step Push 0 Test Step End Step", "Loop Step Push 1 Store l Push 0 Test End", "Loop Step Loop Step Push 0 Test End Push 0 Test Loop Step Push 0 Test End End",
		"Push 1 If Loop Step Push 0 Test End Else Loop Step Push 0 Test End End", "Loop Step Push 1 If Else End Push 0 Test Push 1 If End End", "Loop Step Push 1 Test Push 1 If Else Loop Step Push 0 Test End End End",
	} {
		if e := loadFault(t, abc(does).bytes()); e != api.OK {
			t.Errorf("%q: %v", does, e)
		}
	}
	for _, does := range []string{
		"Else", "End", "Push 1 Test", "Push 1 If", "Push 1 If Else", "Push 1 If End End", "Push 1 If Else Else End", "Push 1 If Else Step Else End", "Else Push 1 If End", "Push 1 If End Else", "End Push 1 If", "Push 1 If Push 1 If End", "Push 1 If Push 1 If Else End", "Push 1 If Push 1 Test End",
		"Push 1 If Else Push 1 Test End", "Push 1 If Push 1 Test Else End",
		"Loop", "Loop Step", "Loop Step End", "Loop Step Push 0 Test", "Loop Step Push 0 Test Push 0 Test End", "Loop Step Push 0 Test End End", "Loop Step Push 0 Test Else End", "Loop Step Else Push 0 Test End", "Loop Step End Push 0 Test", "Loop Step End Push 0 Test End", "Push 0 Test Loop Step End",
		"Loop Step Push 1 If Push 0 Test End", "Loop Step Push 1 If Push 0 Test End End", "Loop Step Push 1 If Push 0 Test Else End End", "Loop Step Push 1 If End", "Loop Step Push 1 If Push 0 Test End Push 0 Test End", "Push 1 If Loop Step Push 0 Test Else End", "Push 1 If Loop Step Else Push 0 Test End End", "Push 1 If Loop Step End Push 0 Test End", "Loop Step Push 0 Test Push 1 If End",
		"Loop Step Loop Step Push 0 Test End End", "Loop Step Loop Step Push 0 Test Push 0 Test End End", "Loop Step Push 0 Test Loop Step End End",
		"Loop Push 0 Test End", "Loop Loop Step Push 0 Test End Push 0 Test End", "Step Loop Push 0 Test Step End", "Loop Push 1 Store l Step Push 0 Test End", "Loop Get p l Step Push 0 Test End", "Loop Push 1 If End Push 0 Test End", "Step Loop", "Loop Step Push 0 Test Loop End",
	} {
		if e := loadFault(t, abc(does).bytes()); e != api.ErrCode {
			t.Errorf("%q: %v", does, e)
		}
	}
}

// P11: parts may stand in one another as deep as there is room for.
func TestDeepCodes(t *testing.T) {
	deep := func(n int, opens, closes string) string {
		return strings.Repeat(wordBytes(opens), n) + strings.Repeat(wordBytes(closes), n)
	}
	head := abc("").bytes()
	for _, s := range []string{deep(1000, "Load l If", "End"), deep(800, "Load l If", "Else End"), deep(600, "Loop Step", "Load l Test End"), deep(600, "Loop Step Load l Test", "End")} {
		c, err := secrets.Load(head + s)
		if err != nil {
			t.Fatalf("%d bytes: %v", len(head+s), err)
		}
		if got := ran(c, nil, 10, 0); got != "Done" && got != "Fuel" {
			t.Errorf("%d bytes: %s", len(head+s), got)
		}
		if e := loadFault(t, head+s[:len(s)-1]); e != api.ErrCode {
			t.Errorf("the last End is missing: %v", e)
		}
	}
}

// P11: an instruction finds the numbers that it takes, none is left where none may be, and there are 32 at the most.
func TestStacksOfCodes(t *testing.T) {
	adds := func(n int) string { return strings.Repeat("Push 1 ", n) + strings.Repeat("Add ", n-1) }
	loads := func(n int) string { return strings.Repeat("Load l ", n) + strings.Repeat("Same ", n-1) }
	for _, does := range []string{adds(2) + "Put o", adds(31) + "Put o", adds(32) + "Put o", adds(32) + "Push 1 Sub Store l", loads(32) + "If End", strings.Repeat("Push 1 ", 31) + "Load l " + strings.Repeat("Less ", 31) + "Put o " + adds(32) + "Put o"} {
		if e := loadFault(t, abc(does).bytes()); e != api.OK {
			t.Errorf("%q: %v", does, e)
		}
	}
	bad := []string{adds(33) + "Put o", loads(33) + "If End", strings.Repeat("Push 1 ", 32) + "Load l " + strings.Repeat("Less ", 32) + "Put o", adds(40) + "Put o", strings.Repeat("Push 1 ", 32) + "Add Push 1 Push 1 " + strings.Repeat("Add ", 32) + "Put o"}
	takes := []string{"Store l", "Put o", "If End", "Free l {} -"}
	for _, does := range takes {
		bad = append(bad, does, "Push 1 Push 1 "+does, "Load l Load l "+does, "Push 1 Push 1 Push 1 Add "+does, "Push 1 "+does+" "+does)
	}
	for _, op := range []string{"Add", "Sub", "Mul", "Div", "Less", "Same"} {
		bad = append(bad, op, op+" Put o", "Push 1 "+op, "Push 1 "+op+" Put o", "Load l "+op+" Store l", "Push 1 Push 1 "+op, "Push 1 Push 1 "+op+" "+op+" Put o")
	}
	for _, does := range []string{"Step", "Get p l", "Loop Step Push 0 Test End", "Push 1 Store l", "Push 1 Put o", "Push 1 If End", "Push 1 Free l {} -"} {
		bad = append(bad, "Push 1 "+does, "Load l "+does+" Store l", "Push 1 "+does+" Put o")
	}
	bad = append(bad,
		"Push 1", "Load l", "Push 1 Push 1", "Step Push 1", "Push 1 Push 1 Add",
		"Push 1 If Push 1 End", "Push 1 If Push 1 End Put o", "Push 1 If Push 1 Else Push 1 End Put o", "Push 1 If Push 1 Else End", "Push 1 If Else Push 1 End", "Push 1 If Else Push 1 End Put o", "Push 1 Push 1 If Put o End", "Push 1 Push 1 If Put o Else Put o End",
		"Loop Step Test End", "Loop Step Push 1 Push 1 Test End", "Loop Step Push 1 Push 1 Test Put o End", "Loop Step Push 1 Test Push 1 End", "Loop Step Push 1 Test Push 1 End Put o", "Push 1 Loop Step Test End", "Push 1 Loop Step Push 1 Test Put o End",
	)
	for _, does := range bad {
		if e := loadFault(t, abc(does).bytes()); e != api.ErrCode {
			t.Errorf("%q: %v", does, e)
		}
	}
}

// P10: what a code tells of itself.
func TestWhatCodesTell(t *testing.T) {
	s := sheet{above: []int{5, 2, 4}, labels: [][]api.Policy{label(0, 5), nil, label(0, 4, 2, 6), label(1, 2)}, ins: []int{0, 1, 0}, outs: []int{2, 0}, vars: []int{1, 0, 2}, does: "Push 1 Free 0 3 0 Push 1 If Push 1 Free 0 0 1 Else Push 1 Free 0 1 2 End"}
	c := loaded(t, s)
	if got := overs(c.Order()); got != "20 " || c.Order().Actors() != 3 {
		t.Errorf("Order: %d, %s", c.Order().Actors(), got)
	}
	isLabels(t, "Ins", c.Ins(), s.labels[0], nil, s.labels[0])
	isLabels(t, "Outs", c.Outs(), s.labels[2], s.labels[0])
	if c.Frees() != 3 {
		t.Errorf("Frees: %d", c.Frees())
	}
	for does, want := range map[string]int{"": 0, "Step": 0, "Push 17 Put 0": 0, "Push 1 Free 0 0 0": 1, "Push 0 If Push 1 Free 0 0 0 End": 1, "Loop Step Push 0 Test Push 1 Free 0 0 0 Push 1 Free 0 0 0 End": 2} {
		if got := loaded(t, abc(does)).Frees(); got != want {
			t.Errorf("%s: Frees: %d, want %d", does, got, want)
		}
	}
	e := loaded(t, sheet{})
	if e.Order().Actors() != 0 || len(e.Ins()) != 0 || len(e.Outs()) != 0 || e.Frees() != 0 {
		t.Error("a code of nobody's tells of somebody")
	}
}

func isLabels(t *testing.T, name string, got [][]api.Policy, want ...[]api.Policy) {
	t.Helper()
	if !slices.EqualFunc(got, want, slices.Equal) {
		t.Errorf("%s: %v, want %v", name, got, want)
	}
}

// P2: lists that a code tells are the caller's, with their spare room, and share nothing.
func TestListsOfCodesAreFresh(t *testing.T) {
	s := sheet{above: []int{1, 2, 4}, labels: [][]api.Policy{label(0, 1), label(0, 1, 1, 2, 2, 4)}, ins: []int{0, 1, 0}, outs: []int{0, 0, 1}, vars: []int{1}, does: "Get 0 0 Load 0 Put 2"}
	c := loaded(t, s)
	other := loaded(t, s)
	for _, ask := range []func() [][]api.Policy{c.Ins, c.Outs} {
		kept, whole := ask(), ask()
		for k := range whole {
			one := ask()
			scribble(one[k])
			for j := range one {
				if j != k && !slices.Equal(one[j], kept[j]) {
					t.Errorf("lists %d and %d of one answer share memory", k, j)
				}
			}
			scribble(whole[k])
		}
		whole = whole[:cap(whole)]
		for k := range whole {
			whole[k] = nil
		}
	}
	for _, x := range []*secrets.Code{c, other} {
		isLabels(t, "Ins", x.Ins(), s.labels[0], s.labels[1], s.labels[0])
		isLabels(t, "Outs", x.Outs(), s.labels[0], s.labels[0], s.labels[1])
		if x.Bytes() != s.bytes() {
			t.Error("what was written into lists that came out is now in the code")
		}
		if got := ran(x, [][]int{{5}}, 0, 0); got != "ask 0; Got 0 5; Put 2 5; Done" {
			t.Error(got)
		}
	}
}

// P1: a code that Load did not make is the one that does nothing.
func TestCodesOfNobody(t *testing.T) {
	for _, c := range []*secrets.Code{nil, {}} {
		if c.Bytes() != (sheet{}).bytes() || c.Order().Actors() != 0 || len(c.Ins()) != 0 || len(c.Outs()) != 0 || c.Frees() != 0 || ran(c, nil, 0, 0) != "Done" {
			t.Error("a code of nobody does something")
		}
	}
}
