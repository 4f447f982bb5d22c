package secrets_test

import (
	"testing"

	"secrets/api"
)

// three has an input of a's (0:1), one of b's (1:2), and one of nobody's.
const three = "actor a;actor b;actor c;in s {a:};in t {b:};in p {};out o {};out u {a:};out w {a:;b:};var x;var y;var z;"

// P8: labels that are worked out.
func TestLabelsThatAreLeftOut(t *testing.T) {
	for _, c := range [][2]string{
		{"", "x= y= z= "},
		{"x=1;y=x;z=1+2;", "x= y= z= "},
		{"get p x;", "x= y= z= "},
		{"get s x;", "x=0:1 y= z= "},
		{"get s x;get t x;", "x=0:1,1:2 y= z= "},
		{"get s x;x=0;", "x=0:1 y= z= "},
		{"get s x;y=x;", "x=0:1 y=0:1 z= "},
		{"y=x;get s x;", "x=0:1 y=0:1 z= "},
		{"z=y;y=x;get s x;", "x=0:1 y=0:1 z=0:1 "},
		{"x=z;z=y;get s y;", "x=0:1 y=0:1 z=0:1 "},
		{"get s x;get t y;z=x+y;", "x=0:1 y=1:2 z=0:1,1:2 "},
		{"get s x;get t y;z=1-(2*y-x)/3<4;", "x=0:1 y=1:2 z=0:1,1:2 "},
		{"get s x;z=x==x;", "x=0:1 y= z=0:1 "},
		{"get s x;if x {y=1;}", "x=0:1 y=0:1 z= "},
		{"get s x;if x {} else {y=1;}", "x=0:1 y=0:1 z= "},
		{"get s x;if x {y=1;} else {z=1;}", "x=0:1 y=0:1 z=0:1 "},
		{"get s x;if x {} y=1;", "x=0:1 y= z= "},
		{"get s x;if x {} else {} y=1;", "x=0:1 y= z= "},
		{"get s x;while x {} y=1;", "x=0:1 y= z= "},
		{"get s x;while x {y=1;}", "x=0:1 y=0:1 z= "},
		{"get s x;if 1<x {y=1;}", "x=0:1 y=0:1 z= "},
		{"get s x;if 1 {y=1;}", "x=0:1 y= z= "},
		{"get s x;get t y;if x {while y {z=1;}}", "x=0:1 y=1:2 z=0:1,1:2 "},
		{"get s x;get t y;while x {if y {} else {z=1;}}", "x=0:1 y=1:2 z=0:1,1:2 "},
		{"get s x;get t y;if x {if y {}z=1;}", "x=0:1 y=1:2 z=0:1 "},
		{"get s x;if x {if 1 {if 2 {z=1;}}}", "x=0:1 y= z=0:1 "},
		{"get s x;if x {get s y;}", "x=0:1 y=0:1 z= "},
		{"while x {y=1;get s x;}", "x=0:1 y=0:1 z= "},
		{"while z {z=y;y=x;get s x;}", "x=0:1 y=0:1 z=0:1 "},
		{"while x {if y {z=1;} y=x;} x=z;get s y;", "x=0:1 y=0:1 z=0:1 "},
		{"if x {y=1;} if y {z=1;} get s x;", "x=0:1 y=0:1 z=0:1 "},
		{"get s x;free y=x {} by a;", "x=0:1 y= z= "},
		{"free y=1 {b:};", "x= y=1:2 z= "},
		{"free y=1 {b: a c};", "x= y= z= "},
		{"get s x;free y=x {a: c; b:} by a;", "x=0:1 y=0:5,1:2 z= "},
		{"get s x;if x {free y=1 {b:};}", "x=0:1 y=0:1,1:2 z= "},
		{"free y=1 {b:};get s y;z=y;", "x= y=0:1,1:2 z=0:1,1:2 "},
		{"free x=x {a:};y=x;", "x=0:1 y=0:1 z= "},
	} {
		if got := labelsOf(compiled(t, three+"do {"+c[0]+"}")); got != c[1] {
			t.Errorf("%s: %s, want %s", c[0], got, c[1])
		}
	}
}

// P8: labels that are declared are in normal form, under all that is said by over, wherever it stands.
func TestDeclaredLabels(t *testing.T) {
	for _, c := range [][2]string{
		{"var v {};do {}", "v= "},
		{"actor a;var v {a:};do {}", "v= "},
		{"actor a;actor b;var v {a:};var w {b:};do {}", "v=0:1 w=1:2 "},
		{"actor a;actor b;actor c;var v {a: b; a: c};var w {c: b; a: b};do {}", "v=0:1 w=0:3,2:6 "},
		{"actor a;actor b;var v {a: b};var w {a: a};do {}", "v= w=0:1 "},
		{"actor a;actor b;over b a;var v {a:};var w {b:};var x {a:;b:};do {}", "v= w=1:2 x=1:2 "},
		{"actor a;var v {a:};actor b;over b a;do {}", "v= "},
		{"actor a;actor b;actor c;var v {a:};over b a;do {}", "v=0:3 "},
		{"actor a;actor b;actor c;over c b;var v {a:};over b a;do {}", "v= "},
		{"actor a;actor b;actor c;over b c;over c b;var v {c:};do {}", "v=1:6 "},
		{"actor a;actor b;actor c;over a b;var v {c: b};var w {b:};do {}", "v= w=1:3 "},
		{"actor c;actor b;actor a;var v {a: c};do {}", "v=2:5 "},
		{"actor a;actor b;actor c;actor d;actor e;actor f;var v {f:; a: b c d e};do {}", "v=0:31,5:32 "},
		{"actor a;actor b;actor c;in s {b: a; b:};var v;over c b;do {get s v;}", "v=1:6 "},
		{"actor a;actor b;in s {a:};var v {a:};var w;do {get s v;}", "v=0:1 w= "},
		{"actor a;actor b;in s {};var v {a:};do {get s v;}", "v=0:1 "},
	} {
		if got := labelsOf(compiled(t, c[0])); got != c[1] {
			t.Errorf("%s: %s, want %s", c[0], got, c[1])
		}
	}
}

// P9: of each kind of statement what may not flow, at the statement; l has no policy, h is of a's.
func TestFlowsOfStatements(t *testing.T) {
	const given = three + "var l {};var h {a:};var hh {a:;b:};do {"
	for _, c := range []struct {
		e      api.Errno
		marked string
	}{
		{api.ErrFlow, "@l=h;"}, {api.ErrFlow, "l=1;@l=1+h;"}, {api.ErrFlow, "@h=hh;"}, {api.ErrFlow, "if h {@l=1;}"}, {api.ErrFlow, "if h {} else {@l=1;}"}, {api.ErrFlow, "while h {@l=1;}"}, {api.ErrFlow, "if h {if 1 {while l {@l=l;}}}"},
		{api.ErrFlow, "get s x;@l=x;"}, {api.ErrFlow, "@l=x;get s x;"}, {api.ErrFlow, "if l {@h=hh;}"}, {api.ErrFlow, "if h {if hh {}@l=1;}"},
		{api.OK, "l=1;l=l+1;h=l;h=h;hh=h;hh=l;x=hh;if h {h=1;hh=l;}if l {l=1;}if h {}l=1;"},

		{api.ErrFlow, "@get s l;"}, {api.ErrFlow, "@get t h;"}, {api.ErrFlow, "if h {@get s l;}"}, {api.ErrFlow, "if h {@get p h;}"}, {api.ErrFlow, "if h {@get t hh;}"}, {api.ErrFlow, "if hh {@get s hh;}"}, {api.ErrFlow, "while h {@get p x;}"}, {api.ErrFlow, "if l {@get s l;}"},
		{api.ErrFlow, "get s x;if x {@get p y;}"}, {api.ErrFlow, "if h {} else {@get t z;}"},
		{api.OK, "get s h;get t hh;get s hh;get p l;get p h;if h {get s h;get s hh;}if l {get p l;get s h;}if h {}get p l;"},

		{api.ErrFlow, "@put o h;"}, {api.ErrFlow, "@put u hh;"}, {api.ErrFlow, "@put o l+h;"}, {api.ErrFlow, "if h {@put o 1;}"}, {api.ErrFlow, "if hh {@put u h;}"}, {api.ErrFlow, "while h {@put o l;}"}, {api.ErrFlow, "if h {} else {@put o 1;}"},
		{api.ErrFlow, "get t x;@put u x;"}, {api.ErrFlow, "@put o x;get s x;"},
		{api.OK, "put o l;put u h;put u l;put w hh;put w h;if h {put u 1;put w h;}if hh {put w l;}if h {}put o 1;"},

		{api.ErrFlow, "@free l=1 {a:};"}, {api.ErrFlow, "@free h=1 {b:};"}, {api.ErrFlow, "@free l=h {a:} by a;"}, {api.ErrFlow, "if h {@free l=1 {};}"}, {api.ErrFlow, "if h {@free l=1 {} by a b c;}"}, {api.ErrFlow, "if hh {@free h=1 {a:};}"}, {api.ErrFlow, "while h {@free l=h {} by a;}"},
		{api.OK, "free l=1 {};free h=1 {a:};free h=l {a: b};free hh=h {a:};free l=h {} by a;free hh=hh {b:} by a;if h {free h=h {} by a;}if h {free hh=hh {} by a b;}free x=hh {a: c} by b a;"},

		{api.ErrBy, "@free l=h {};"}, {api.ErrBy, "@free l=h {} by b;"}, {api.ErrBy, "@free l=h {} by b c b;"}, {api.ErrBy, "@free l=hh {} by a;"}, {api.ErrBy, "@free h=hh {a:} by a c;"}, {api.ErrBy, "@free h=h {a: b};"}, {api.ErrBy, "@free h=h {a: b} by b;"},
		{api.ErrBy, "@free l=l+hh {} by b;"}, {api.ErrBy, "@free hh=hh {a:};"}, {api.ErrBy, "get s x;@free x=x {};"}, {api.ErrBy, "get s x;@free l=x+1 {b:} by b;"},
		{api.OK, "free h=h {a: b} by a;free h=h {a:};free hh=h {a:;b:};free l=h {a: b c} by a;free x=hh {b:} by a;free x=hh {} by b a;free l=1 {};free l=l {} by c;if h {free hh=1 {};}"},

		// Of one statement by is looked at first, of two the left one.
		{api.ErrBy, "@free l=hh {a:} by c;"}, {api.ErrBy, "if h {@free l=h {} by b;}"}, {api.ErrFlow, "@l=h;free l=h {};"}, {api.ErrBy, "@free l=h {};l=h;"}, {api.ErrFlow, "if 1 {@put o h;} else {free l=h {};}l=h;"}, {api.ErrFlow, "if 1 {} else {@put o h;}free l=h {};"},
		{api.ErrFlow, "while 1 {@put o h;free l=h {};}"}, {api.ErrBy, "l=1;while 1 {if l {} else {@free l=h {};}}l=h;"},
		{api.ErrFlow, "if h {get s h;@get p h;l=1;}"},
	} {
		if c.e != api.OK {
			isFaultAt(t, c.e, given+c.marked+"}")
		} else {
			compiled(t, given+c.marked+"}")
		}
	}
}

// P9: who acts for an owner may free what is the owner's, but not the other way round; what is let read by an owner above needs the owner above.
func TestFreeByWhoActsForTheOwner(t *testing.T) {
	const given = "actor a;actor b;actor c;actor d;over c b;over b a;var l {};var h {a:};var m {b:};var n {c:};do {"
	for _, marked := range []string{"@free l=h {} by d;", "@free l=m {} by a;", "@free l=n {} by a b d;", "@free l=n+h {} by b;", "@free l=h {};", "@free l=m {a:} by a;", "@free l=n {b:} by b;"} {
		isFaultAt(t, api.ErrBy, given+marked+"}")
	}
	compiled(t, given+"free l=h {} by a;free l=h {} by b;free l=h {} by c;free l=m {} by b;free l=m {} by c;free l=n {} by c;free l=n+h+m {} by c;free h=m {a:} by b;}")
}

// P9: with nobody to keep secrets from all is just.
func TestFlowsOfOneActorAlone(t *testing.T) {
	compiled(t, "in s {};out o {};var v;do {get s v;if v {put o 1;}}")
	compiled(t, "actor a;in s {a:};out o {};var v {a:};var l {};do {get s v;l=v;put o v;if v {get s l;}free l=v {};}")
}
