package secrets_test

import (
	"strings"
	"testing"

	"secrets/api"
)

// padded is the text with blanks at its end, so many bytes in all.
func padded(text string, size int) string {
	return text + strings.Repeat(" ", size-len(text))
}

// P5: 900 bytes are a text, 901 are not, whatever they are.
func TestLongTexts(t *testing.T) {
	compiled(t, padded("do {}", 900))
	compiled(t, strings.Repeat("\n", 895)+"do {}")
	for _, text := range []string{
		padded("do {}", 901), padded("do {}", 902), padded("$", 901), padded("do {", 1000),
		strings.Repeat("x", 901), strings.Repeat("\xff", 1<<16), padded("var v;var v;do {}", 4096), padded("", 1<<20),
	} {
		isFault(t, text, api.ErrLong, 0)
	}
	isFault(t, padded("do {", 899)+"$", api.ErrChar, 899)
	isFault(t, padded("do {", 900), api.ErrSyntax, 900)
	isFault(t, strings.Repeat("x", 900), api.ErrName, 0)
	isFault(t, strings.Repeat("1", 900), api.ErrNumber, 0)
}

// P5: of all bytes, those that can't be of a word are ErrChar, wherever they stand.
func TestBytesThatAreNoSign(t *testing.T) {
	const known = " \nabcdefghijklmnopqrstuvwxyz0123456789;:{}()+-*/<="
	for k := range 256 {
		c := string([]byte{byte(k)})
		for _, marked := range []string{"@?", "var v;@?do {}", "var v@?;do {}", "do @?{}", "do {}@?", "do {} \n @?", "var v;do {v=1+@?2;}", "actor a;in s {a@?:};do {}"} {
			text, at := parted(strings.Replace(marked, "?", c, 1))
			e, gotAt := faultOf(t, text)
			if bad := !strings.Contains(known, c); bad && (e != api.ErrChar || gotAt != at) {
				t.Errorf("%q: %v at %d, want ErrChar at %d", text, e, gotAt, at)
			} else if !bad && e == api.ErrChar {
				t.Errorf("%q: ErrChar at %d", text, gotAt)
			}
		}
	}
	for _, marked := range []string{
		"do {}@é", "do {}@\u00a0", "do {}@\u2028", "@\ufeffdo {}", "var @ä;do {}", "var v@ß;do {}", "var v@V;do {}", "var v@_1;do {}",
		"@Do {}", "var @V;do {}", "do {}@\x00", "do {}\n@\r\n", "do@\t{}", "do {if 1@.5 {}}", "do {if 1@>2 {}}", "do {if 1@!=2 {}}", "do {}@#", "do {}@\"", "do {if 1@, {}}",
	} {
		isFaultAt(t, api.ErrChar, marked)
	}
}

// P5: blanks and line feeds part words, as many as there are; where words end by themselves there needn't be any.
func TestBlanks(t *testing.T) {
	want := "actor a;\nin s {a: a; a:};\nvar v {a:};\ndo {\n  get s v;\n  if 12 < v {\n    v = v - 1;\n  } else {\n  }\n  free v = v {} by a;\n}\n"
	for _, text := range []string{
		"actor a;in s{a:a;a:}; var v{a:};do{get s v;if 12<v{v=v-1;}else{}free v=v{}by a;}",
		"\n actor  a\n;\n\nin\ns\n{\na\n:\na\n;\na\n:\n}\n;\nvar\nv\n{\na\n:\n}\n;\ndo\n{\nget\ns\nv\n;\nif\n12\n<\nv\n{\nv\n=\nv\n-\n1\n;\n}\nelse\n{\n}\nfree\nv\n=\nv\n{\n}\nby\na\n;\n}\n\n",
		"   actor   a   ;   in   s   {   a   :   a   ;   a   :   }   ;   var   v   {   a   :   }   ;   do   {   get   s   v   ;   if   12   <   v   {   v   =   v   -   1   ;   }   else   {   }   free   v   =   v   {   }   by   a   ;   }   ",
		want,
	} {
		if got := compiled(t, text).Print(); got != want {
			t.Errorf("%q: %q", text, got)
		}
	}
	for _, marked := range []string{"@va r v;do {}", "@d o {}", "do {if 1 @2 {}}", "var v;do {v=1 @= =1;}", "var v;do {v= @=1;}", "@dodo {}", "var v @w;do {}"} {
		isFaultAt(t, api.ErrSyntax, marked)
	}
}

// P5: names of one to six signs, and longer ones, wherever a word may stand.
func TestNames(t *testing.T) {
	for _, name := range []string{
		"a", "z", "az", "a0", "a9", "abcdef", "a12345", "z99999", "azazaz", "actors", "over1", "in0", "outs", "vars", "do2", "dodo", "gets", "putt", "iff", "elsee",
		"whiles", "freed", "bye", "by1", "doo", "ifif", "inin", "act", "wh",
	} {
		compiled(t, "var "+name+";do {"+name+"="+name+"+1;}")
	}
	for _, name := range []string{"abcdefg", "a123456", "abcdef0", "actorab", "whiledo", "overover", "a" + strings.Repeat("0", 500), strings.Repeat("z", 800)} {
		for _, marked := range []string{"@?", "@?$", "var @?;do {}", "actor @?", "do @?", "do {@?=1;}", "do {}@?", "do {if 1@? {}}", "in a {@?:", "over a @?"} {
			isFaultAt(t, api.ErrName, strings.Replace(marked, "?", name, 1))
		}
	}
	compiled(t, "var aa;var a;var aaa;do {aa=a;aaa=aa;}")
	isFaultAt(t, api.ErrSyntax, "var @1a;do {}")
	isFaultAt(t, api.ErrSyntax, "var v;do {v=1@v;}")
	isFaultAt(t, api.ErrName, "var v;do {v=1@vvvvvvv;}")
	isFaultAt(t, api.ErrSyntax, "var a23456 @7;do {}")
}

// P5: the words that are no names stand nowhere where a name must.
func TestKeptWords(t *testing.T) {
	for _, word := range strings.Fields("actor over in out var do get put if else while free by") {
		for _, marked := range []string{
			"actor @?;do {}", "over @? a;do {}", "over a @?;do {}", "in @? {};do {}", "out @? {};do {}", "var @?;do {}", "in s {@?:};do {}", "in s {a: @?};do {}",
			"do {get @? v;}", "do {get s @?;}", "do {put @? 1;}", "do {put o @?;}", "do {free @?=1 {};}", "do {free v=1 {} by @?;}", "do {v=@?;}", "do {v=1+@?;}", "do {v=(@?);}",
			"do {if @? {}}", "do {while @? {}}",
		} {
			isFaultAt(t, api.ErrSyntax, strings.Replace(marked, "?", word, 1))
		}
	}
	for _, word := range strings.Fields("actor over in out var do else by") {
		isFaultAt(t, api.ErrSyntax, "do {@"+word+"=1;}")
	}
}

// P5: numbers of one to nine digits, and longer ones.
func TestNumbers(t *testing.T) {
	for digits, want := range map[string]string{
		"0": "0", "1": "1", "9": "9", "10": "10", "00": "0", "000000000": "0", "007": "7", "012345678": "12345678", "123456789": "123456789", "999999999": "999999999", "100000000": "100000000", "090": "90",
	} {
		if got := compiled(t, "out o {};do {put o "+digits+";}").Print(); got != "out o {};\ndo {\n  put o "+want+";\n}\n" {
			t.Errorf("%s: %q", digits, got)
		}
	}
	for _, digits := range []string{"1234567890", "0000000000", "0000000001", "1000000000", "9999999999", "18446744073709551616", strings.Repeat("0", 500)} {
		for _, marked := range []string{"@?", "@?$", "do {if @? {}}", "do {if 1+@?{", "do {}@?", "var @?;do {}", "do {if v @?"} {
			isFaultAt(t, api.ErrNumber, strings.Replace(marked, "?", digits, 1))
		}
	}
	isFaultAt(t, api.ErrSyntax, "do {if 123456789 @1 {}}")
	isFaultAt(t, api.ErrSyntax, "do {if 123456789@a {}}")
	isFaultAt(t, api.ErrSyntax, "do {if @-1 {}}")
}

// P5: of = the longest.
func TestEqualSigns(t *testing.T) {
	for text, want := range map[string]string{
		"v=1==2;": "v = 1 == 2;", "v=v==v;": "v = v == v;", "v = 1 == 2;": "v = 1 == 2;", "v=(1==2)==3;": "v = (1 == 2) == 3;",
	} {
		if got := compiled(t, "var v;do {"+text+"}").Print(); got != "var v;\ndo {\n  "+want+"\n}\n" {
			t.Errorf("%s: %q", text, got)
		}
	}
	for _, marked := range []string{
		"v@==1;", "v@===1;", "v@====1;", "v= @=1;", "v= @==1;", "v=1@=2;", "v=1 @= =2;", "v=1==@=2;", "v=1== @=2;", "v=1==@==2;", "v=1<@=2;",
		"v=1<2@==3;", "v=1==2@<3;", "free v@==1 {};", "if 1@=2 {}",
	} {
		isFaultAt(t, api.ErrSyntax, "var v;do {"+marked+"}")
	}
}
