package secrets_test

import (
	"strings"
	"testing"

	"secrets/api"
	"secrets/secrets"
)

// written is the words as a text, and the byte at which each begins; behind the last that of the text's end.
func written(d *dice, words []string) (string, []int) {
	text := ""
	var at []int
	for k, w := range words {
		if k > 0 && (joins(words[k-1], w) || d.below(3) == 0) {
			text += []string{" ", "\n", "  "}[d.below(3)]
		}
		at = append(at, len(text))
		text += w
	}
	return text, append(at, len(text))
}

// joins: without a blank between them the two would be one word, or other words.
func joins(a, b string) bool {
	plain := func(c byte) bool { return c >= 'a' && c <= 'z' || c >= '0' && c <= '9' }
	last, first := a[len(a)-1], b[0]
	return plain(last) && plain(first) || last == '=' && first == '='
}

// bent changes a word or two.
func bent(d *dice, words []string) []string {
	others := strings.Fields("actor over in out var do get put if else while free by ; : { } ( ) + - * / < = == a v 1")
	list := append([]string(nil), words...)
	for range 1 + d.below(2) {
		k := d.below(len(list))
		switch d.below(5) {
		case 0:
			list = append(list[:k], list[k+1:]...)
		case 1:
			list[k] = others[d.below(len(others))]
		case 2:
			list = append(list[:k], append([]string{others[d.below(len(others))]}, list[k:]...)...)
		case 3:
			j := d.below(len(list))
			list[k], list[j] = list[j], list[k]
		case 4:
			list = list[:k]
		}
		if len(list) == 0 {
			return list
		}
	}
	return list
}

// P6: where the form can't go on, held against the document's grammar itself.
func TestFormAsSaid(t *testing.T) {
	g, d := formGrammar(), dice(61)
	right, wrong := 0, 0
	for range 6000 {
		budget := 10 + d.below(120)
		words := g.thrown(&d, "program", &budget)
		if d.below(4) > 0 {
			words = bent(&d, words)
		}
		text, at := written(&d, words)
		if len(text) > api.MaxText {
			continue
		}
		e, gotAt := faultOf(t, text)
		if e == api.ErrDepth {
			continue
		}
		k := g.stuck(words)
		if k < 0 {
			right++
			if e != api.OK && e < api.ErrTwice {
				t.Fatalf("%q: %v at %d, but the form is right", text, e, gotAt)
			}
			continue
		}
		wrong++
		if e != api.ErrSyntax || gotAt != at[k] {
			t.Fatalf("%q: %v at %d, want ErrSyntax at %d", text, e, gotAt, at[k])
		}
	}
	if right < 1000 || wrong < 1000 {
		t.Errorf("only %d right and %d wrong texts", right, wrong)
	}
}

// P6: each rule, and the word at which it can't go on.
func TestForm(t *testing.T) {
	for _, marked := range []string{
		// program
		"@", "  \n  @", "@;", "@x", "@1", "@{}", "@else", "@}", "do@", "do  @", "do @do", "do @x {}", "do @;", "do {@", "do { @", "do {} @{", "do {}@}", "do {} @do {}", "do {} @var v;", "do {} @1", "do {}@;",
		"actor a@", "actor a @do {}", "actor a;@;do {}", "actor a;@x;do {}", "actor a; @", "do {} @actor a;", "actor a@:do {}",
		// declaration
		"actor@", "actor @;", "actor @1;", "actor @{", "actor a @b;", "actor a @{};do {}", "actor a@=", "over@", "over @;", "over a@", "over a@;", "over a @1;", "over a b@", "over a b @c;", "over a b @{};",
		"in@", "in @{};", "in s@", "in s@;", "in s @a", "in s @(", "in s {} @{}", "in s {}@", "out@", "out @{};", "out o@;", "out o @a", "out o {} @o;", "var@", "var @;", "var @{};", "var v @w;", "var v @(", "var v {} @{};", "var v@",
		"var v@=1;do {}", "var v @1;do {}", "@get s v;", "@v=1;do {}", "@if 1 {}", "@label",
		// label and policy
		"in s {@", "in s {@;};", "in s {@:};", "in s {@1:};", "in s {@{};", "in s {a@", "in s {a@};", "in s {a@;};", "in s {a @b:};", "in s {a:@", "in s {a:@:};", "in s {a:@1};", "in s {a: b@", "in s {a: b @: c};", "in s {a: b@:};",
		"in s {a: b;@", "in s {a:;@;};", "in s {a:;b:;@;};", "in s {a:; b@};", "in s {a: @{};", "in s {a: @in};", "in s {a:}@}", "in s {a:@(", "var v {@;};do {}", "out o {a: b; @1};", "in s {a:b@)",
		// block
		"do {@;}", "do {@{}}", "do {@1}", "do {@)}", "do {@do {}}", "do {@else {}}", "do {@by}", "do {@in}", "do {@var v;}", "do {@(}", "do {@==}",
		// statements
		"do {v@}", "do {v@;}", "do {v @1;}", "do {v @v=1;}", "do {v@==1;}", "do {v@(1);}", "do {v=@;}", "do {v=@}", "do {v=@{};}", "do {v=1@}", "do {v=1@", "do {v=1 @v=2;}", "do {v=1;@;}", "do {v=@get;}", "do {v=1@=2;}",
		"do {get@}", "do {get@;}", "do {get @1 v;}", "do {get s@;}", "do {get s @1;}", "do {get s @=1;}", "do {get s v@}", "do {get s v @w;}", "do {get s v@+1;}", "do {get @(s) v;}",
		"do {put@}", "do {put@;}", "do {put @1 v;}", "do {put o@;}", "do {put o@}", "do {put o @=1;}", "do {put o 1@}", "do {put o 1 @1;}", "do {put o 1@{};}", "do {put @(o) v;}", "do {put o v @w;}",
		"do {free@}", "do {free@;}", "do {free @1=1 {};}", "do {free v@;}", "do {free v @{};}", "do {free v@==1 {};}", "do {free v=@{};}", "do {free v=1@;}", "do {free v=1@}", "do {free v=1 @by a;}", "do {free v=1 {}@}",
		"do {free v=1 {} @{};}", "do {free v=1 {} @a;}", "do {free v=1 {} by@;}", "do {free v=1 {} by@}", "do {free v=1 {} by @1;}", "do {free v=1 {} by a@}", "do {free v=1 {} by a @1;}", "do {free v=1 {} by a @by b;}", "do {free v=1 {} by a@:;}",
		"do {free v=1 {} by @{a};}", "do {free @get s v;}",
		"do {if@}", "do {if @{}}", "do {if 1@}", "do {if 1@;}", "do {if 1 @v=1;}", "do {if 1 {@", "do {if 1 {}@;}", "do {if 1 {} else@}", "do {if 1 {} else @if 1 {}}", "do {if 1 {} else @v=1;}", "do {if 1 {} else {} @else {}}", "do {if 1 {} @{}}",
		"do {if 1 {} else {@", "do {if 1 @else {}}", "do {if @;}", "do {if 1 {} else {}@;}", "do {if (1 @{}}",
		"do {while@}", "do {while @{}}", "do {while 1@}", "do {while 1@;}", "do {while 1 {} @else {}}", "do {while 1 {@", "do {while 1 {}@;}", "do {while 1 @do {}}",
		// expressions
		"do {v=1+@;}", "do {v=1+@+2;}", "do {v=1+@*2;}", "do {v=@+1;}", "do {v=@-1;}", "do {v=@*1;}", "do {v=@<1;}", "do {v=1*@;}", "do {v=1/@/2;}", "do {v=1-@-2;}", "do {v=1<@;}", "do {v=1<2@<3;}", "do {v=1<2@==3;}", "do {v=1==2@==3;}", "do {v=1==2@<3;}",
		"do {v=1 @2;}", "do {v=v @v;}", "do {v=1 @v;}", "do {v=1@(2);}", "do {v=v@(1);}", "do {v=(@);}", "do {v=(1@;}", "do {v=(1+@);}", "do {v=(1@", "do {v=1@);}", "do {v=(1)@);}", "do {v=(1)@(2);}", "do {v=(1 @2);}", "do {v=(1<2@<3);}", "do {v=((1)@;}",
		"do {v=(@{1});}", "do {v=1+2 @3;}", "do {v=1+2@:}", "do {v=1*2 @3;}", "do {v=(v@=1);}", "do {v=1<2+3@<4;}",
	} {
		isFaultAt(t, api.ErrSyntax, marked)
	}
}

// P6: texts that have just the form, with each part that may be left out left out, and there.
func TestFormsThatStand(t *testing.T) {
	for _, text := range []string{
		"do {}", "actor a;do {}", "actor a;over a a;do {}", "in s {};do {}", "out o {};do {}", "var v;do {}", "var v {};do {}",
		"actor a;in s {a:};do {}", "actor a;in s {a:;};do {}", "actor a;in s {a:;a:};do {}", "actor a;in s {a:;a:;};do {}", "actor a;in s {a: a};do {}", "actor a;in s {a: a;};do {}", "actor a;in s {a: a a a;a:a};do {}",
		"actor a;out o {a: a; a:;};do {}", "actor a;var v {a: a; a:;};do {}", "var v;actor a;in s {a:};over a a;actor b;out o {b: a};do {}",
		"var v;do {v=1;}", "var v;in s {};do {get s v;}", "out o {};do {put o 1;}", "var v;do {free v=1 {};}", "actor a;var v;do {free v=1 {a:;} by a;}", "actor a;var v;do {free v=v {a: a} by a a a;}",
		"do {if 1 {}}", "do {if 1 {} else {}}", "do {if 1 {if 2 {}} else {if 3 {} else {}}}", "do {while 1 {}}", "do {while 1 {while 0 {}} if 1 {}}",
		"do {if 1<2 {}}", "do {if 1==2 {}}", "do {if 1+2-3 {}}", "do {if 1*2/3 {}}", "do {if (1) {}}", "do {if (1<2)<(3==4) {}}", "do {if 1+2*3<4*5-6 {}}", "do {if (1)+(2)*(3) {}}",
	} {
		compiled(t, text)
	}
}

// P6: a word is read when the one ahead of it has been done with, and only then what must stand there is asked.
func TestOneWordAhead(t *testing.T) {
	for _, c := range []struct {
		e      api.Errno
		marked string
	}{
		{api.ErrChar, "do @$"}, {api.ErrChar, "actor @$"}, {api.ErrChar, "actor a@$"}, {api.ErrChar, "do {}@$"}, {api.ErrChar, "do {if 1 {}@$"}, {api.ErrChar, "@$"}, {api.ErrChar, "do {v=(1)@$"}, {api.ErrChar, "do {v=1<2@$"}, {api.ErrChar, "do {free v=1 {}@$"},
		{api.ErrNumber, "var @1234567890;"}, {api.ErrNumber, "do {}@1234567890"}, {api.ErrNumber, "do {v=1 @1234567890;}"},
		{api.ErrName, "do @abcdefg"}, {api.ErrName, "do {v=1 @abcdefg;}"}, {api.ErrName, "do {} @abcdefg"}, {api.ErrName, "@abcdefg"},
		// What stands behind a word at which the form can't go on is not read.
		{api.ErrSyntax, "@x$"}, {api.ErrSyntax, "@x $"}, {api.ErrSyntax, "do @x$"}, {api.ErrSyntax, "var @;$"}, {api.ErrSyntax, "do {} @}$"}, {api.ErrSyntax, "do {v=1 @2 1234567890"}, {api.ErrSyntax, "do {v=@) abcdefg"}, {api.ErrSyntax, "@1 1234567890"},
		{api.ErrSyntax, "do {v=1 @v$"}, {api.ErrSyntax, "in s@;$"}, {api.ErrSyntax, "do {if 1 {} else @1$"}, {api.ErrSyntax, "do {get s @1$"},
	} {
		isFaultAt(t, c.e, c.marked)
	}
}

// P6: the form's first fault counts, ahead of all that names, places and flows may be at fault.
func TestFormComesFirst(t *testing.T) {
	for _, c := range []struct {
		e      api.Errno
		marked string
	}{
		{api.ErrSyntax, "var v;var v;do {x=1@}"}, {api.ErrChar, "over a b;do {x=1;@$}"}, {api.ErrName, "var v;var v;@abcdefg"}, {api.ErrNumber, "do {x=@1234567890;}"},
		{api.ErrDepth, "var v;var v;do {if ((((((@("}, {api.ErrSyntax, head + "do {put o h;get s h;}@;"}, {api.ErrSyntax, "do {v=@;}$"}, {api.ErrChar, "do {v=1@$;}{"}, {api.ErrDepth, "do {if ((((((@(1))))))) {} $"},
		{api.ErrSyntax, "do {v=@+;if (((((((1))))))) {}}"},
	} {
		isFaultAt(t, c.e, c.marked)
	}
}

// nested is what stands in the middle, with so many of left and right around it.
func nested(left string, deep int, middle, right string) string {
	return strings.Repeat(left, deep) + middle + strings.Repeat(right, deep)
}

// P6: blocks six and seven deep.
func TestDeepBlocks(t *testing.T) {
	for _, way := range [][2]string{{"if 1 {", "}"}, {"while 1 {", "}"}, {"if 1 {} else {", "}"}, {"if 1 {", "} else {}"}, {"if 1 {} while 1 {", "} if 1 {}"}} {
		compiled(t, "do {"+nested(way[0], 5, "", way[1])+"}")
		compiled(t, "do {"+nested(way[0], 4, "if 1 {} if 1 {} else {} while 1 {}", way[1])+"}")
		for _, deep := range []string{"if 1 @{", "while 1 @{"} {
			isFaultAt(t, api.ErrDepth, "do {"+nested(way[0], 5, deep+"}", way[1])+"}")
			isFaultAt(t, api.ErrDepth, "do {"+nested(way[0], 5, deep, ""))
			isFaultAt(t, api.ErrDepth, "do {"+nested(way[0], 5, deep+"$", ""))
			isFaultAt(t, api.ErrDepth, "do {"+nested(way[0], 5, deep+" 1234567890 ;", ""))
		}
	}
	compiled(t, "do {"+strings.Repeat("if 1 {if 1 {}} ", 12)+"}")
	compiled(t, "actor a;var v;do {"+nested("if 1 {", 5, "free v=1 {a:};", "}")+"}")
	isFaultAt(t, api.ErrDepth, "do {"+nested("if 1 {", 5, "if 1 @{} else {}", "}")+"}")
	isFaultAt(t, api.ErrDepth, "do {"+nested("if 1 {", 4, "if 1 {} else {if 1 @{", "}")+"}}}")
	isFaultAt(t, api.ErrSyntax, "do {"+nested("if 1 {", 5, "if 1 @;", "}")+"}")
	isFaultAt(t, api.ErrSyntax, "do {"+nested("if 1 {", 5, "if 1 @(", "}")+"}")
}

// P6: parentheses six and seven deep.
func TestDeepParentheses(t *testing.T) {
	for _, around := range [][2]string{
		{"var v;do {v=", ";}"}, {"out o {};do {put o ", ";}"}, {"do {if ", " {}}"}, {"do {while ", " {}}"}, {"var v;do {free v=", " {};}"}, {"do {if 1<", " {}}"}, {"do {if 1+(1+1)*", " {}}"}, {"do {if 2*", " {}}"},
		{"do {if 1 {if 1 {if 1 {if 1 {if ", " {}}}}}}"}, {"do {if ((((((1)))))) {}if ((((((1))))))+", "*((((((1)))))) {}}"},
	} {
		compiled(t, around[0]+nested("(", 6, "1", ")")+around[1])
		compiled(t, around[0]+nested("(", 5, "(1)+(2)", ")")+around[1])
		isFaultAt(t, api.ErrDepth, around[0]+nested("(", 6, "@(1)", ")")+around[1])
		isFaultAt(t, api.ErrDepth, around[0]+nested("(", 6, "@($", ""))
		isFaultAt(t, api.ErrDepth, around[0]+nested("(", 6, "@(", ""))
		isFaultAt(t, api.ErrDepth, around[0]+nested("(1+", 6, "@(1)", ")")+around[1])
		isFaultAt(t, api.ErrDepth, around[0]+nested("(", 5, "(1)+(@(", ""))
		isFaultAt(t, api.ErrSyntax, around[0]+nested("(", 6, "1 @(", ""))
	}
}

// P6, P1: a text that is as deep and as wide as can be.
func TestWideTexts(t *testing.T) {
	compiled(t, "var v;do {v="+strings.Repeat("v+", 440)+"v;}")
	compiled(t, "do {if "+strings.Repeat("1-", 440)+"1 {}}")
	p := compiled(t, "var v;do {v="+strings.Repeat("(v)*", 200)+"v;}")
	if want := "var v;\ndo {\n  v = " + strings.Repeat("v * ", 200) + "v;\n}\n"; p.Print() != want {
		t.Errorf("%q", p.Print())
	}
	if _, err := secrets.Compile(strings.Repeat("(", 900)); err == nil {
		t.Error("900 parentheses are no program")
	}
}
