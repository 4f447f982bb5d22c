package secrets_test

import (
	"fmt"
	"strings"
	"testing"

	"secrets/api"
)

// P7: each kind of name, and none, where each kind is asked.
func TestUses(t *testing.T) {
	const given = "actor a;in s {};out o {};var v;"
	kinds := map[string]string{"actor": "a", "input": "s", "output": "o", "variable": "v", "nothing": "x", "a name that begins so": "a1", "a name that is longer": "vv"}
	for _, c := range []struct{ wanted, marked string }{
		{"actor", "over @? a;do {}"}, {"actor", "over a @?;do {}"},
		{"actor", "in t {@?:};do {}"}, {"actor", "in t {a: @?};do {}"}, {"actor", "in t {a: a @? a; a:};do {}"}, {"actor", "in t {a: a; @?: a};do {}"},
		{"actor", "out t {@?:};do {}"}, {"actor", "out t {a: @?};do {}"}, {"actor", "var t {@?:};do {}"}, {"actor", "var t {a: a; a: @?};do {}"},
		{"variable", "do {@?=1;}"}, {"variable", "do {v=@?;}"}, {"variable", "do {v=1+@?;}"}, {"variable", "do {v=@?+1;}"}, {"variable", "do {v=2*(1-@?/3)<4;}"}, {"variable", "do {v=1==@?;}"},
		{"input", "do {get @? v;}"}, {"variable", "do {get s @?;}"},
		{"output", "do {put @? 1;}"}, {"variable", "do {put o @?;}"}, {"variable", "do {put o v-@?;}"},
		{"variable", "do {free @?=1 {};}"}, {"variable", "do {free v=@? {};}"}, {"actor", "do {free v=1 {@?:};}"}, {"actor", "do {free v=1 {a: a @?};}"}, {"actor", "do {free v=1 {} by @?;}"}, {"actor", "do {free v=1 {} by a a @? a;}"},
		{"variable", "do {if @? {}}"}, {"variable", "do {if 1 {@?=1;}}"}, {"variable", "do {if 1 {} else {@?=1;}}"}, {"variable", "do {while @? {}}"}, {"variable", "do {while 1 {if 1 {v=@?;}}}"}, {"variable", "do {if 1 {} v=@?;}"},
	} {
		for kind, name := range kinds {
			marked := given + strings.Replace(c.marked, "?", name, 1)
			if text, _ := parted(marked); kind == c.wanted {
				compiled(t, text)
			} else {
				isFaultAt(t, api.ErrUse, marked)
			}
		}
	}
}

// P7: names are used behind their declaration alone.
func TestNamesAreDeclaredAhead(t *testing.T) {
	for _, marked := range []string{
		"over @a b;actor a;actor b;do {}", "actor a;over a @b;actor b;do {}", "actor b;over @a b;actor a;do {}", "in s {@a:};actor a;do {}", "actor b;out o {b: b @a};actor a;do {}", "var v {@v:};do {}", "in s {@s:};do {}", "actor a;var a1 {a: @a1};do {}",
	} {
		isFaultAt(t, api.ErrUse, marked)
	}
	compiled(t, "actor a;in s {a:};actor b;over b a;out o {b: a};do {}")
}

// P7: a name that is declared already, as whatever.
func TestTwice(t *testing.T) {
	declared := []string{"actor %sx;", "in %sx {};", "out %sx {};", "var %sx;", "var %sx {};"}
	for _, one := range declared {
		for _, other := range declared {
			isFaultAt(t, api.ErrTwice, fmt.Sprintf(one, "")+"actor y;"+fmt.Sprintf(other, "@")+"do {}")
		}
	}
	compiled(t, "actor x;in xx {};out xxx {};var x1;do {}")
}

// many are so many declarations of names n0, n1 ..
func many(format string, n int) string {
	text := ""
	for k := range n {
		text += fmt.Sprintf(format, fmt.Sprintf("n%d", k))
	}
	return text
}

// P7: as many names as there may be of each kind, and one more.
func TestFullNames(t *testing.T) {
	for _, c := range []struct {
		format, more string
		most         int
	}{
		{"actor %s;", "actor @x;", 6}, {"in %s {};", "in @x {};", 3}, {"out %s {};", "out @x {};", 3}, {"var %s;", "var @x;", 8}, {"var %s {};", "var @x;", 8}, {"var %s;", "var @x {};", 8},
	} {
		compiled(t, many(c.format, c.most)+"do {}")
		isFaultAt(t, api.ErrFull, many(c.format, c.most)+c.more+"do {}")
		isFaultAt(t, api.ErrTwice, many(c.format, c.most)+strings.Replace(c.more, "@x", "@n0", 1)+"do {}")
		isFaultAt(t, api.ErrFull, many(c.format, c.most)+c.more+"over y y;do {z=1;}")
		isFaultAt(t, api.ErrUse, many(c.format, c.most)+"over @y y;"+strings.Replace(c.more, "@", "", 1)+"do {z=1;}")
	}
	compiled(t, "actor a;"+many("in %s {};", 3)+"out o {};out p {};out q {};var a1;var a2;var a3;var a4;var a5;var a6;var a7;var a8;actor b;actor c;actor d;actor e;actor f;do {}")
}

// P7: the order in which faults of declarations are looked for.
func TestDeclarationsFromTheLeft(t *testing.T) {
	for _, c := range []struct {
		e      api.Errno
		marked string
	}{
		{api.ErrTwice, "actor a;in @a {b:};do {}"},
		{api.ErrFull, many("in %s {};", 3) + "in @x {b:};do {}"},
		{api.ErrTwice, many("in %s {};", 3) + "in @n1 {b:};do {}"},
		{api.ErrUse, "actor a;in s {@b: c};in s {};do {}"},
		{api.ErrUse, "actor a;in s {a: @c; b:};in s {};do {}"},
		{api.ErrUse, "over @x y;var v;var v;do {}"},
		{api.ErrTwice, "var v;var @v;over x y;do {}"},
		{api.ErrTwice, "var v;var @v;do {x=1;}"},
		{api.ErrUse, "in s {@x:};do {x=1;}"},
		{api.ErrFull, many("out %s {};", 3) + "out @o {};var n0;do {x=1;}"},
		{api.ErrTwice, "actor a;actor @a;actor a;do {}"},
	} {
		isFaultAt(t, c.e, c.marked)
	}
}

// P7: the program's 41st statement, in whatever blocks it stands.
func TestFullStatements(t *testing.T) {
	v := func(n int) string { return strings.Repeat("v=1;", n) }
	for _, text := range []string{
		v(40), "if 1 {" + v(39) + "}", "if 1 {" + v(20) + "} else {" + v(19) + "}", "while 1 {" + v(39) + "}", strings.Repeat("if 1 {v=1;} else {}", 20), v(38) + "if 1 {while 1 {}}", "free v=1 {};put o 1;get s v;" + v(37),
		strings.Repeat("if 1 {} ", 40),
	} {
		compiled(t, "in s {};out o {};var v;do {"+text+"}")
		for _, more := range []string{"v=1;", "w=x;", "if v {}", "while 1 {w=1;}", "get x y;", "put x y;", "free x=1 {y:} by z;", "v=1;v=1;x=1;"} {
			isFaultAt(t, api.ErrFull, "in s {};out o {};var v;do {"+text+"@"+more+"}")
		}
	}
	for _, c := range []struct {
		e      api.Errno
		marked string
	}{
		{api.ErrFull, "if 1 {" + v(39) + "@v=1;}"}, {api.ErrFull, "if 1 {" + v(39) + "} else {@v=1;}"}, {api.ErrFull, "if 1 {" + v(39) + "@if x {v=1;}}"}, {api.ErrFull, v(39) + "while 1 {@v=1;}"}, {api.ErrFull, v(39) + "if 1 {@x=1;} v=1;"},
		{api.ErrFull, v(38) + "if 1 {if 1 {} else {@v=1;}}"},
		{api.ErrUse, v(39) + "@x=1;v=1;"}, {api.ErrUse, v(39) + "if @x {v=1;}"}, {api.ErrUse, "v=@x;" + v(40)}, {api.ErrUse, v(39) + "v=1+@x;v=1;"},
	} {
		isFaultAt(t, c.e, "in s {};out o {};var v;do {"+c.marked+"}")
	}
}

// P7: the names of statements from the left, and statements from the left.
func TestStatementsFromTheLeft(t *testing.T) {
	const given = "actor a;in s {};out o {};var v;do {"
	for _, marked := range []string{
		"@x=y;", "v=@y+z;", "v=(v+@y)*z;", "get @x y;", "get s @y;", "put @x y;", "put o @y+z;", "free @x=y {z:} by w;", "free v=@y {z:} by w;", "free v=1 {@z: w} by w;", "free v=1 {a: @w; z:} by x;", "free v=1 {a:} by @w x;", "free v=1 {a:} by a @w x;",
		"v=1;@x=1;y=1;", "if @x {y=1;} z=1;", "if 1 {@y=1;} else {z=1;} w=1;", "if 1 {} else {@z=1;} w=1;", "while @x {y=1;}", "while 1 {@y=1;} z=1;", "if 1 {while 1 {get s @s;}} x=1;", "get @v v;get x x;",
	} {
		isFaultAt(t, api.ErrUse, given+marked+"}")
	}
	isFaultAt(t, api.ErrUse, "actor a;actor b;out o {};var v {a:};do {put o v;@x=1;}")
	isFaultAt(t, api.ErrFull, "actor a;actor b;out o {};var v {a:};do {"+strings.Repeat("put o v;", 40)+"@v=1;}")
}
