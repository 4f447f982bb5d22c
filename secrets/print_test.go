package secrets_test

import (
	"strings"
	"testing"

	"secrets/api"
	"secrets/secrets"
)

// printsAs: the text is printed so, and that again.
func printsAs(t *testing.T, text, want string) {
	t.Helper()
	if got := compiled(t, text).Print(); got != want {
		t.Errorf("%q: %q, want %q", text, got, want)
	}
	if len(want) <= api.MaxText {
		if got := compiled(t, want).Print(); got != want {
			t.Errorf("%q, printed again: %q", want, got)
		}
	}
}

// P7: declarations, each on a line of its own, as they stand in the text.
func TestPrintDeclarations(t *testing.T) {
	for _, c := range [][2]string{
		{"actor a;", "actor a;\n"},
		{"actor a;actor b;over a b;", "actor a;\nactor b;\nover a b;\n"},
		{"actor a;over a a;over a a;", "actor a;\nover a a;\nover a a;\n"},
		{"in s{};", "in s {};\n"},
		{"out o  { } ;", "out o {};\n"},
		{"var v;", "var v;\n"},
		{"var v{};", "var v {};\n"},
		{"actor a;var v{a:};", "actor a;\nvar v {a:};\n"},
		{"actor a;var v{a:;};", "actor a;\nvar v {a:};\n"},
		{"actor a;actor b;actor c;in s {a:b c;b:};", "actor a;\nactor b;\nactor c;\nin s {a: b c; b:};\n"},
		{"actor a;actor b;in s {b :\nb b a ;a\n:b;a:;};", "actor a;\nactor b;\nin s {b: b b a; a: b; a:};\n"},
		{"var v;out o {};actor a;in s {a:a};actor b;var w {b:a};over b a;", "var v;\nout o {};\nactor a;\nin s {a: a};\nactor b;\nvar w {b: a};\nover b a;\n"},
		{"", ""},
	} {
		printsAs(t, c[0]+"do{}", c[1]+"do {\n}\n")
	}
}

// P7: statements, two blanks a block further in.
func TestPrintStatements(t *testing.T) {
	const given = "actor a;\nactor b;\nin s {};\nout o {};\nvar v;\ndo {\n"
	for _, c := range [][2]string{
		{"v=1;", "  v = 1;\n"},
		{"v=v;v=2;", "  v = v;\n  v = 2;\n"},
		{"get  s\nv ;", "  get s v;\n"},
		{"put o(v);", "  put o v;\n"},
		{"put o v+1;", "  put o v + 1;\n"},
		{"free v=v{};", "  free v = v {};\n"},
		{"free v=1<v{a:}by a b;", "  free v = 1 < v {a:} by a b;\n"},
		{"free v=(1){a:b a;b:;}by b b a;", "  free v = 1 {a: b a; b:} by b b a;\n"},
		{"if v{}", "  if v {\n  }\n"},
		{"if v{}else{}", "  if v {\n  } else {\n  }\n"},
		{"if(v<1){v=1;}", "  if v < 1 {\n    v = 1;\n  }\n"},
		{"if 1{v=1;put o 2;}else{v=3;}v=4;", "  if 1 {\n    v = 1;\n    put o 2;\n  } else {\n    v = 3;\n  }\n  v = 4;\n"},
		{"if 1{}else{if 2{}else{if 3{}}}", "  if 1 {\n  } else {\n    if 2 {\n    } else {\n      if 3 {\n      }\n    }\n  }\n"},
		{"while v{}", "  while v {\n  }\n"},
		{"while v==1{get s v;}", "  while v == 1 {\n    get s v;\n  }\n"},
		{"while 1{if 2{while 3{if 4{while 5{v=6;}v=7;}}}else{v=8;}}", "  while 1 {\n    if 2 {\n      while 3 {\n        if 4 {\n          while 5 {\n            v = 6;\n          }\n          v = 7;\n        }\n      }\n    } else {\n      v = 8;\n    }\n  }\n"},
		{"", ""},
	} {
		printsAs(t, given+c[0]+"}", given+c[1]+"}\n")
	}
}

// P7: numbers without noughts ahead, and parentheses just where they are needed.
func TestPrintExpressions(t *testing.T) {
	for _, c := range [][2]string{
		{"000", "0"}, {"010", "10"}, {"((((((7))))))", "7"}, {"(v)", "v"},
		{"(1+2)+3", "1 + 2 + 3"}, {"1+(2+3)", "1 + (2 + 3)"}, {"1-(2-3)-(4-5-6)", "1 - (2 - 3) - (4 - 5 - 6)"}, {"(1-2)-(3)", "1 - 2 - 3"},
		{"(1*2)*3", "1 * 2 * 3"}, {"1*(2*3)", "1 * (2 * 3)"}, {"2/(3*4)/(5/6)", "2 / (3 * 4) / (5 / 6)"},
		{"(1+2)*3", "(1 + 2) * 3"}, {"1*(2+3)", "1 * (2 + 3)"}, {"(1*2)+3", "1 * 2 + 3"}, {"1+(2*3)", "1 + 2 * 3"}, {"1-(2/3)", "1 - 2 / 3"}, {"(1-2)/3", "(1 - 2) / 3"},
		{"(1<2)<3", "(1 < 2) < 3"}, {"1<(2<3)", "1 < (2 < 3)"}, {"(1==2)<3", "(1 == 2) < 3"}, {"1==(2<3)", "1 == (2 < 3)"}, {"(1+2)<(3*4)", "1 + 2 < 3 * 4"}, {"(1<2)+3", "(1 < 2) + 3"}, {"1*(2==3)", "1 * (2 == 3)"},
		{"((1+(2)))*((v))", "(1 + 2) * v"}, {"1+2*3-4/5<6-7", "1 + 2 * 3 - 4 / 5 < 6 - 7"}, {"(((1*2)+(3/4))-((5)))==((6))", "1 * 2 + 3 / 4 - 5 == 6"}, {"(1<2)", "1 < 2"}, {"((1+2))", "1 + 2"},
	} {
		printsAs(t, "var v;do {v="+c[0]+";}", "var v;\ndo {\n  v = "+c[1]+";\n}\n")
	}
}

// branch is an expression; one without op is a leaf.
type branch struct {
	text, op    string
	left, right *branch
}

func (d *dice) branch(deep int) *branch {
	if deep == 0 || d.below(4) == 0 {
		return &branch{text: []string{"v", "w", "1", "0", "20"}[d.below(5)]}
	}
	op := []string{"+", "-", "*", "/", "<", "=="}[d.below(6)]
	return &branch{op: op, left: d.branch(deep - 1), right: d.branch(deep - 1)}
}

// whole has parentheses around each operator.
func (b *branch) whole() string {
	if b.op == "" {
		return b.text
	}
	return "(" + b.left.whole() + " " + b.op + " " + b.right.whole() + ")"
}

// parsed is the expression of words by the rule of thumb: the last of the weakest operators that stand outside of parentheses is done last.
func parsed(words []string) *branch {
	for _, ops := range []string{"< ==", "+ -", "* /"} {
		depth := 0
		for k := len(words) - 1; k >= 0; k-- {
			switch words[k] {
			case ")":
				depth++
			case "(":
				depth--
			}
			for _, op := range strings.Fields(ops) {
				if depth == 0 && words[k] == op {
					return &branch{op: op, left: parsed(words[:k]), right: parsed(words[k+1:])}
				}
			}
		}
	}
	if words[0] == "(" {
		return parsed(words[1 : len(words)-1])
	}
	return &branch{text: words[0]}
}

func apart(text string) []string {
	return strings.Fields(strings.NewReplacer("(", " ( ", ")", " ) ").Replace(text))
}

// line is how an expression is printed.
func line(t *testing.T, text string) string {
	t.Helper()
	printed := compiled(t, "var v;var w;do {v="+text+";}").Print()
	return strings.TrimSuffix(strings.TrimPrefix(printed, "var v;\nvar w;\ndo {\n  v = "), ";\n}\n")
}

// P7: what is printed is the same expression, and without any one pair of its parentheses it would be another, or none.
func TestPrintedExpressionsAreTheSame(t *testing.T) {
	d := dice(71)
	for range 4000 {
		b := d.branch(1 + d.below(4))
		printed := line(t, b.whole())
		if got := parsed(apart(printed)).whole(); got != b.whole() {
			t.Fatalf("%s is printed as %s, which is %s", b.whole(), printed, got)
		}
		if again := line(t, printed); again != printed {
			t.Fatalf("%s is printed as %s", printed, again)
		}
		for _, less := range withoutOnePair(printed) {
			p, err := secrets.Compile("var v;var w;do {v=" + less + ";}")
			if err == nil && p.Print() == compiled(t, "var v;var w;do {v="+printed+";}").Print() {
				t.Fatalf("%s has parentheses too many: %s", printed, less)
			}
		}
	}
}

// withoutOnePair: the text without one pair of parentheses, each in turn.
func withoutOnePair(text string) []string {
	var list []string
	for k := range text {
		if text[k] != '(' {
			continue
		}
		depth, end := 0, k
		for ; end < len(text); end++ {
			switch text[end] {
			case '(':
				depth++
			case ')':
				depth--
			}
			if depth == 0 {
				break
			}
		}
		list = append(list, text[:k]+text[k+1:end]+text[end+1:])
	}
	return list
}

// P7: a printed text has just these blanks: none at a line's end, no two but ahead of a line, one line feed a line.
func TestPrintedBlanks(t *testing.T) {
	text := compiled(t, head+"do {get s h;free l=h {} by c;if l<(1) {free h=h {a: b;} by c;} else {while h {h=h-(1+2)*3;}}put q l;}").Print()
	for _, l := range strings.Split(strings.TrimSuffix(text, "\n"), "\n") {
		if body := strings.TrimLeft(l, " "); body == "" || strings.HasSuffix(l, " ") || strings.Contains(body, "  ") || (len(l)-len(body))%2 != 0 {
			t.Errorf("the line %q", l)
		}
	}
}
