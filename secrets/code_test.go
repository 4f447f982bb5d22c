package secrets_test

import (
	"fmt"
	"strings"
	"testing"

	"secrets/api"
	"secrets/secrets"
)

// abcHead declares what abc has.
const abcHead = "actor a;actor b;actor c;in p {};in s {a:};in t {b:};out o {};out u {a:};out w {a:;b:};var l {};var h {a:};var k {b:};var x {a:;b:};"

// codeOf is the code of a text that must be a program. What must hold for each of them is held against it here: asked twice it is the same, and so it is of the printed program; Load takes it, and what comes of that is the same; it is a code as the words say it.
func codeOf(t *testing.T, text string) *secrets.Code {
	t.Helper()
	p := compiled(t, text)
	c := p.Code()
	if c == nil {
		t.Fatalf("%q: no code", text)
	}
	s := c.Bytes()
	if again := p.Code().Bytes(); again != s {
		t.Fatalf("%q: %x, and asked again %x", text, s, again)
	}
	if printed := p.Print(); len(printed) <= api.MaxText {
		if again := compiled(t, printed).Code().Bytes(); again != s {
			t.Fatalf("%q: %x, and of the printed program %x", text, s, again)
		}
	}
	if e := loadFault(t, s); e != api.OK {
		t.Fatalf("%q: its code %x is no code: %v", text, s, e)
	}
	back, _ := secrets.Load(s)
	if said := mustSpec(t, s); !tells(c, said) || !tells(back, said) {
		t.Fatalf("%q: tells %d %v %v %d, and loaded %d %v %v %d", text, c.Order().Actors(), c.Ins(), c.Outs(), c.Frees(), back.Order().Actors(), back.Ins(), back.Outs(), back.Frees())
	}
	return c
}

// isCode: the text is compiled to just that.
func isCode(t *testing.T, text string, want sheet) {
	t.Helper()
	if got := codeOf(t, text).Bytes(); got != want.bytes() {
		t.Errorf("%q: %x, want %x", text, got, want.bytes())
	}
}

// areCodes: statements under abcHead are compiled to these instructions.
func areCodes(t *testing.T, rows [][2]string) {
	t.Helper()
	for _, r := range rows {
		isCode(t, abcHead+"do {"+r[0]+"}", abc(r[1]))
	}
}

// P12, byte by byte, without the tests' own words for bytes.
func TestCodeToTheByte(t *testing.T) {
	for _, r := range [][2]string{
		{"do {}", "SCR1\x00\x00\x00\x00\x00"},
		{"actor a;actor b;over b a;do {}", "SCR1\x02\x03\x02\x00\x00\x00\x00"},
		{"var v;do {v=16909060;}", "SCR1\x00\x01\x00\x00\x00\x01\x00" + "\x00\x01\x01\x02\x03\x04\x03\x00"},
		{"var v;var w;do {w=(v+1-2)*w/3<4;}", "SCR1\x00\x01\x00\x00\x00\x02\x00\x00" + "\x00\x02\x00\x01\x00\x00\x00\x01\x04\x01\x00\x00\x00\x02\x05\x02\x01\x06\x01\x00\x00\x00\x03\x07\x01\x00\x00\x00\x04\x08\x03\x01"},
		{"do {if 1==0 {} while 0 {} if 2 {} else {}}", "SCR1\x00\x00\x00\x00\x00" + "\x00\x01\x00\x00\x00\x01\x01\x00\x00\x00\x00\x09\x0c\x0e" + "\x0f\x00\x01\x00\x00\x00\x00\x10\x0e" + "\x00\x01\x00\x00\x00\x02\x0c\x0d\x0e"},
		{head + "do {get s h;free l=h {} by c;put o l;}", "SCR1\x03\x05\x02\x04\x02\x01\x00\x05\x00\x02\x00\x01\x02\x01\x01\x02\x00\x01" + "\x00\x0a\x00\x00" + "\x00\x02\x00\x11\x01\x01\x04" + "\x00\x02\x01\x0b\x00"},
	} {
		if got := codeOf(t, r[0]).Bytes(); got != r[1] {
			t.Errorf("%s: %x, want %x", r[0], got, r[1])
		}
	}
}

// P12: statements that stand alone.
func TestCodeOfStatements(t *testing.T) {
	areCodes(t, [][2]string{
		{"", ""},
		{"l=1;", "Step Push 1 Store l"}, {"h=l;", "Step Load l Store h"}, {"x=x;", "Step Load x Store x"}, {"k=k+1;", "Step Load k Push 1 Add Store k"},
		{"get p l;", "Step Get p l"}, {"get p x;", "Step Get p x"}, {"get s h;", "Step Get s h"}, {"get t k;", "Step Get t k"}, {"get t x;", "Step Get t x"},
		{"put o 7;", "Step Push 7 Put o"}, {"put o l;", "Step Load l Put o"}, {"put u h;", "Step Load h Put u"}, {"put w x*2;", "Step Load x Push 2 Mul Put w"},
		{"l=1;h=2;k=3;x=4;", "Step Push 1 Store l Step Push 2 Store h Step Push 3 Store k Step Push 4 Store x"},
		{"get p l;put o l;l=l;", "Step Get p l Step Load l Put o Step Load l Store l"}, {"put o 1;put o 1;", "Step Push 1 Put o Step Push 1 Put o"},
		// free, with and without by; whoever stands there more than once is one bit.
		{"free l=1 {};", "Step Push 1 Free l {} -"}, {"free l=h {} by a;", "Step Load h Free l {} a"}, {"free l=h {} by a b;", "Step Load h Free l {} ab"}, {"free l=h {} by b a;", "Step Load h Free l {} ab"}, {"free l=h {} by a a a;", "Step Load h Free l {} a"}, {"free l=x+1 {} by c b a c;", "Step Load x Push 1 Add Free l {} abc"},
		{"free h=1 {a:};", "Step Push 1 Free h {a} -"}, {"free h=x {a:} by b;", "Step Load x Free h {a} b"}, {"free x=k {b:};", "Step Load k Free x {b} -"}, {"free x=h {b:} by a c;", "Step Load h Free x {b} ac"}, {"free x=x {a:;b:};", "Step Load x Free x {ab} -"}, {"free x=x {b: b;a: a;b:};", "Step Load x Free x {ab} -"}, {"free k=0 {} by c;", "Step Push 0 Free k {} c"},
	})
}

// P12: if, else and while.
func TestCodeOfBlocks(t *testing.T) {
	areCodes(t, [][2]string{
		{"if l {}", "Step Load l If End"}, {"if l {} else {}", "Step Load l If Else End"}, {"if 1 {l=2;}", "Step Push 1 If Step Push 2 Store l End"}, {"if 1 {} else {l=3;}", "Step Push 1 If Else Step Push 3 Store l End"}, {"if 1 {l=2;} else {}", "Step Push 1 If Step Push 2 Store l Else End"}, {"if 1 {l=2;} else {l=3;}", "Step Push 1 If Step Push 2 Store l Else Step Push 3 Store l End"},
		{"if l<2 {l=2;put o 5;} else {l=3;put o 6;get p l;} put o 7;", "Step Load l Push 2 Less If Step Push 2 Store l Step Push 5 Put o Else Step Push 3 Store l Step Push 6 Put o Step Get p l End Step Push 7 Put o"},
		{"while l {}", "Loop Step Load l Test End"}, {"while 1 {l=2;}", "Loop Step Push 1 Test Step Push 2 Store l End"}, {"while l==3 {l=l+1;put o l;} l=4;", "Loop Step Load l Push 3 Same Test Step Load l Push 1 Add Store l Step Load l Put o End Step Push 4 Store l"}, {"while 0 {} while 0 {}", "Loop Step Push 0 Test End Loop Step Push 0 Test End"},
		{"if h {free h=k {} by b;}", "Step Load h If Step Load k Free h {} b End"}, {"while h {get s h;}", "Loop Step Load h Test Step Get s h End"},
		// Within one another.
		{"if 1 {if 2 {} else {}}", "Step Push 1 If Step Push 2 If Else End End"}, {"if 1 {if 2 {}} else {}", "Step Push 1 If Step Push 2 If End Else End"}, {"if 1 {} else {if 2 {} else {}}", "Step Push 1 If Else Step Push 2 If Else End End"}, {"if 1 {if 2 {} else {}} else {if 3 {}}", "Step Push 1 If Step Push 2 If Else End Else Step Push 3 If End End"},
		{"while 1 {while 2 {} while 3 {}}", "Loop Step Push 1 Test Loop Step Push 2 Test End Loop Step Push 3 Test End End"}, {"if 1 {while 2 {}} else {while 3 {}}", "Step Push 1 If Loop Step Push 2 Test End Else Loop Step Push 3 Test End End"}, {"while 1 {if 2 {} else {}}", "Loop Step Push 1 Test Step Push 2 If Else End End"},
		{nested("while 1 {", 5, "l=2;", "}"), nested("Loop Step Push 1 Test ", 5, "Step Push 2 Store l ", "End ")}, {nested("if 1 {", 5, "l=2;", "}"), nested("Step Push 1 If ", 5, "Step Push 2 Store l ", "End ")}, {nested("if 1 {} else {", 5, "l=2;", "}"), nested("Step Push 1 If Else ", 5, "Step Push 2 Store l ", "End ")}, {nested("if 1 {l=3;", 5, "l=2;", "} else {put o 4;}"), nested("Step Push 1 If Step Push 3 Store l ", 5, "Step Push 2 Store l ", "Else Step Push 4 Put o End ")},
		{"while 1 {if 2 {while 3 {if 4 {while 5 {l=6;}l=7;}}}else{l=8;}}", "Loop Step Push 1 Test Step Push 2 If Loop Step Push 3 Test Step Push 4 If Loop Step Push 5 Test Step Push 6 Store l End Step Push 7 Store l End End Else Step Push 8 Store l End End"},
	})
}

// P12: expressions.
func TestCodeOfExpressions(t *testing.T) {
	for _, r := range [][2]string{
		{"0", "Push 0"}, {"1", "Push 1"}, {"000", "Push 0"}, {"007", "Push 7"}, {"255", "Push 255"}, {"256", "Push 256"}, {"65536", "Push 65536"}, {"16777216", "Push 16777216"}, {"999999999", "Push #59 #154 #201 #255"}, {"000000010", "Push 10"}, {"123456789", "Push #7 #91 #205 #21"},
		{"l", "Load l"}, {"h", "Load h"}, {"k", "Load k"}, {"x", "Load x"}, {"(l)", "Load l"}, {"((((((3))))))", "Push 3"},
		{"1+2", "Push 1 Push 2 Add"}, {"1-2", "Push 1 Push 2 Sub"}, {"1*2", "Push 1 Push 2 Mul"}, {"1/2", "Push 1 Push 2 Div"}, {"1<2", "Push 1 Push 2 Less"}, {"1==2", "Push 1 Push 2 Same"}, {"h+x", "Load h Load x Add"}, {"x/h", "Load x Load h Div"},
		{"1-2-3", "Push 1 Push 2 Sub Push 3 Sub"}, {"1-(2-3)", "Push 1 Push 2 Push 3 Sub Sub"}, {"8/4/2", "Push 8 Push 4 Div Push 2 Div"}, {"8/(4/2)", "Push 8 Push 4 Push 2 Div Div"}, {"1+2*3", "Push 1 Push 2 Push 3 Mul Add"}, {"1*2+3", "Push 1 Push 2 Mul Push 3 Add"}, {"(1+2)*3", "Push 1 Push 2 Add Push 3 Mul"}, {"1*(2+3)", "Push 1 Push 2 Push 3 Add Mul"}, {"1+2-3+4", "Push 1 Push 2 Add Push 3 Sub Push 4 Add"}, {"1/2*3/4", "Push 1 Push 2 Div Push 3 Mul Push 4 Div"},
		{"1+2<3*4", "Push 1 Push 2 Add Push 3 Push 4 Mul Less"}, {"1==2-3", "Push 1 Push 2 Push 3 Sub Same"}, {"(1<2)==(3<4)", "Push 1 Push 2 Less Push 3 Push 4 Less Same"}, {"1<(2<3)", "Push 1 Push 2 Push 3 Less Less"}, {"(1<2)<3", "Push 1 Push 2 Less Push 3 Less"}, {"(1==2)+3", "Push 1 Push 2 Same Push 3 Add"},
		{nested("(1+", 6, "2", ")"), nested("Push 1 ", 6, "Push 2 ", "Add ")}, {nested("(", 6, "2", "-1)"), nested("", 6, "Push 2 ", "Push 1 Sub ")}, {nested("1<2-3*(", 6, "4<5-6*7", ")"), nested("Push 1 Push 2 Push 3 ", 6, "Push 4 Push 5 Push 6 Push 7 Mul Sub Less ", "Mul Sub Less ")},
	} {
		areCodes(t, [][2]string{
			{"x=" + r[0] + ";", "Step " + r[1] + " Store x"}, {"put w " + r[0] + ";", "Step " + r[1] + " Put w"}, {"free x=" + r[0] + " {} by a b;", "Step " + r[1] + " Free x {} ab"}, {"if " + r[0] + " {x=1;}", "Step " + r[1] + " If Step Push 1 Store x End"}, {"while " + r[0] + " {}", "Loop Step " + r[1] + " Test End"},
		})
	}
}

// P12: actors, inputs, outputs and variables as declared, whatever stands between them, and labels as P11 has them.
func TestCodeOfDeclarations(t *testing.T) {
	own, other := label(0, 1), label(1, 2)
	for _, r := range []struct {
		text string
		want sheet
	}{
		{"do {}", sheet{}},
		{"var v;do {v=v;}", sheet{labels: [][]api.Policy{nil}, vars: []int{0}, does: "Step Load 0 Store 0"}},
		{"in s {};out o {};do {put o 1;}", sheet{labels: [][]api.Policy{nil}, ins: []int{0}, outs: []int{0}, does: "Step Push 1 Put 0"}},
		{"actor a;do {if 1 {}}", sheet{above: []int{1}, does: "Step Push 1 If End"}},
		{"actor a;in s {a:};var v {a: a};do {}", sheet{above: []int{1}, labels: [][]api.Policy{nil}, ins: []int{0}, vars: []int{0}}},
		{"actor a;actor b;over a b;over b a;in s {b:};do {}", sheet{above: []int{3, 3}, labels: [][]api.Policy{nil}, ins: []int{0}}},
		{"actor a;actor b;actor c;over a b;over b c;do {}", sheet{above: []int{1, 3, 7}}},
		{"actor f;actor e;actor d;actor c;actor b;actor a;over a f;do {}", sheet{above: []int{33, 2, 4, 8, 16, 32}}},
		// First uses count by inputs, outputs, variables, not by where they are declared.
		{"actor a;actor b;var v {a:};out o {b:};in s {};do {}", sheet{above: []int{1, 2}, labels: [][]api.Policy{nil, other, own}, ins: []int{0}, outs: []int{1}, vars: []int{2}}},
		{"actor a;actor b;out o {a:};in s {b:};var v {a:};in t {a:};var w {b:};out q {};do {}", sheet{above: []int{1, 2}, labels: [][]api.Policy{other, own, nil}, ins: []int{0, 1}, outs: []int{1, 2}, vars: []int{1, 0}}},
		// The order of all over counts, even behind a label: a alone is who acts for a and c.
		{"actor a;actor b;actor c;in s {a:};over c a;do {}", sheet{above: []int{5, 2, 4}, labels: [][]api.Policy{label(0, 5)}, ins: []int{0}}},
		// Labels that are written otherwise and are the same stand there once.
		{"actor a;actor b;in s {a:};in t {a: a};in u {a: b;a:;};out o {b: a;};var v {b: b a;};do {}", sheet{above: []int{1, 2}, labels: [][]api.Policy{own, nil}, ins: []int{0, 0, 0}, outs: []int{1}, vars: []int{1}}},
		{"actor a;actor b;in s {a:;b:};out o {b:;a:};do {}", sheet{above: []int{1, 2}, labels: [][]api.Policy{label(0, 1, 1, 2)}, ins: []int{0}, outs: []int{0}}},
		// Labels that are worked out.
		{"actor a;actor b;in s {a:};in t {b:};var v;var w;var x;do {get s v;get t w;x=v+w;}", sheet{above: []int{1, 2}, labels: [][]api.Policy{own, other, label(0, 1, 1, 2)}, ins: []int{0, 1}, vars: []int{0, 1, 2}, does: "Step Get 0 0 Step Get 1 1 Step Load 0 Load 1 Add Store 2"}},
		{"actor a;actor b;var v;var w;var h {a:};do {if h {w=1;}v=w;}", sheet{above: []int{1, 2}, labels: [][]api.Policy{own}, vars: []int{0, 0, 0}, does: "Step Load 2 If Step Push 1 Store 1 End Step Load 1 Store 0"}},
		{"actor a;actor b;var v;do {free v=1 {b:};}", sheet{above: []int{1, 2}, labels: [][]api.Policy{other}, vars: []int{0}, does: "Step Push 1 Free 0 0 0"}},
		// Labels of free: those that nothing else has come last, as the instructions stand.
		{"actor a;actor b;var v {a:;b:};do {free v=1 {b:};free v=1 {};free v=v {a:} by b;free v=v {a:;b:};free v=2 {b: b;};}", sheet{above: []int{1, 2}, labels: [][]api.Policy{label(0, 1, 1, 2), other, nil, own}, vars: []int{0}, does: "Step Push 1 Free 0 1 0 Step Push 1 Free 0 2 0 Step Load 0 Free 0 3 2 Step Load 0 Free 0 0 0 Step Push 2 Free 0 1 0"}},
		{"actor a;actor b;var v {a:;b:};do {if 1 {free v=1 {a:};} else {free v=1 {b:};} while 0 {free v=1 {};}}", sheet{above: []int{1, 2}, labels: [][]api.Policy{label(0, 1, 1, 2), own, other, nil}, vars: []int{0}, does: "Step Push 1 If Step Push 1 Free 0 1 0 Else Step Push 1 Free 0 2 0 End Loop Step Push 0 Test Step Push 1 Free 0 3 0 End"}},
		// By b, who acts for c.
		{"actor a;actor b;actor c;over b c;var l {};var h {c:};do {free l=h {} by b;}", sheet{above: []int{1, 2, 6}, labels: [][]api.Policy{nil, label(2, 6)}, vars: []int{0, 1}, does: "Step Load 1 Free 0 0 2"}},
	} {
		isCode(t, r.text, r.want)
	}
}

// P12: a program as great as can be has a code that Load takes, too.
func TestCodesOfGreatPrograms(t *testing.T) {
	all := func(format string, n int) string {
		s := ""
		for k := range n {
			s += fmt.Sprintf(format, k)
		}
		return s
	}
	six := all("actor a%d;", 6)
	for _, text := range []string{
		"var v;do {v=" + strings.Repeat("1+", 440) + "1;}",
		"do {if " + strings.Repeat("1*", 440) + "1 {}}",
		"var v;do {" + strings.Repeat("v=1<1+1*1;", 40) + "}",
		"do {" + strings.Repeat("while 1+1+1 {}", 40) + "}",
		"do {" + strings.Repeat("if 1 {} else {}", 40) + "}",
		"out o {};do {put o " + nested("1<1+1*(", 6, "1<1+1*1", ")") + ";}",
		six + all("in s%d {a0:;a1:;a2:;a3:;a4:;a5:};", 3) + all("var v%d;", 8) + "do {" + all("get s0 v%d;", 8) + "}",
		six + "var v {a0:;a1:;a2:;a3:;a4:;a5:};do {" + all("free v=1 {a%d:};", 6) + all("free v=1 {a%d:;a0:};", 6) + all("free v=1 {a%d:;a1:};", 6) + all("free v=1 {a%d:;a2:};", 6) + all("free v=1 {a%d: a0 a1};", 6) + "}",
	} {
		if c := codeOf(t, text); len(c.Bytes()) > api.MaxCode {
			t.Errorf("%q: a code of %d bytes", text, len(c.Bytes()))
		}
	}
}

// P1, P12: a program that Compile did not make has the code that does nothing.
func TestCodeOfNobody(t *testing.T) {
	for _, p := range []*secrets.Program{nil, {}} {
		c := p.Code()
		if c == nil || c.Bytes() != (sheet{}).bytes() || ran(c, nil, 0, 0) != "Done" {
			t.Error("the code of no program does something")
		}
	}
}

// P2: what is done with a code, or with what it tells, is not seen in it, in its program or in that program's other codes.
func TestCodesOfProgramsStay(t *testing.T) {
	const text = "actor a;actor b;actor c;in s {a:;b:};in r {a:};out o {a:;b:};out q {c:};var h;var l {};do {get s h;put o h;free l=h {} by a b;while l {l=l-1;put q l;}}"
	p := compiled(t, text)
	c, kept := p.Code(), p.Code()
	s, printed, labels := c.Bytes(), p.Print(), labelsOf(p)
	const does = "ask 0; Got 0 2; Put 0 2; Freed 1 2; Put 1 1; Put 1 0; Done"
	for _, lists := range [][][]api.Policy{c.Ins(), c.Outs()} {
		for k := range lists {
			scribble(lists[k])
		}
		for k := range lists[:cap(lists)] {
			lists[:cap(lists)][k] = nil
		}
	}
	for _, l := range p.Labels() {
		scribble(l)
	}
	for fuel := range 9 {
		ran(c, [][]int{{2}}, fuel, fuel/2)
		compiled(t, "actor z;in s {};out o {};var v;do {get s v;while v {put o v;}}").Code()
		for _, one := range []*secrets.Code{c, kept, p.Code()} {
			if got := ran(one, [][]int{{2}}, 99, 0); one.Bytes() != s || got != does {
				t.Fatalf("now %x, which does %s", one.Bytes(), got)
			}
		}
	}
	if p.Print() != printed || labelsOf(p) != labels {
		t.Errorf("now %q, %q", p.Print(), labelsOf(p))
	}
	isLabels(t, "Ins", c.Ins(), label(0, 1, 1, 2), label(0, 1))
	isLabels(t, "Outs", c.Outs(), label(0, 1, 1, 2), label(2, 4))
}
