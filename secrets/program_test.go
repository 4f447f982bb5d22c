package secrets_test

import (
	"errors"
	"fmt"
	"slices"
	"strconv"
	"strings"
	"testing"

	"secrets/api"
	"secrets/secrets"
)

// head is the document's H.
const head = "actor a;actor b;actor c;over c a;in s {a:};in p {};out o {};out q {a: b};var h;var l {};"

// parted takes out the mark @ that says where a fault is: the text without it, and the byte at which it stood.
func parted(marked string) (string, int) {
	before, behind, _ := strings.Cut(marked, "@")
	return before + behind, len(before)
}

// partsOf is an error's Errno, one of those that are allowed, and byte. All that an error must be is held against it here.
func partsOf(t *testing.T, what string, err api.Error, allowed ...api.Errno) (api.Errno, int) {
	t.Helper()
	e, at := err.Parts()
	for k := api.OK; k <= api.ErrCode+1; k++ {
		if errors.Is(err, k) != (k == e) {
			t.Fatalf("%s: Parts tells %d, and errors.Is of %d says %v", what, e, k, errors.Is(err, k))
		}
	}
	if !slices.Contains(allowed, e) || err.Error() == "" {
		t.Fatalf("%s: Errno %d, text %q", what, e, err.Error())
	}
	return e, at
}

// faultOf is the Errno and the byte of a text's fault; OK and 0, if it is compiled.
func faultOf(t *testing.T, text string) (api.Errno, int) {
	t.Helper()
	p, err := secrets.Compile(text)
	if err == nil {
		if p == nil {
			t.Fatalf("%q: no program and no error", text)
		}
		return api.OK, 0
	}
	if p != nil {
		t.Fatalf("%q: a program beside the error %v", text, err)
	}
	return partsOf(t, strconv.Quote(text), err, api.ErrLong, api.ErrChar, api.ErrName, api.ErrNumber, api.ErrSyntax, api.ErrDepth, api.ErrTwice, api.ErrFull, api.ErrUse, api.ErrFlow, api.ErrBy)
}

// isFault: the text has that fault at that byte.
func isFault(t *testing.T, text string, e api.Errno, at int) {
	t.Helper()
	if gotE, gotAt := faultOf(t, text); gotE != e || gotAt != at {
		t.Errorf("%q: %v at %d, want %v at %d", text, gotE, gotAt, e, at)
	}
}

// isFaultAt: the text has that fault at the mark in it.
func isFaultAt(t *testing.T, e api.Errno, marked string) {
	t.Helper()
	text, at := parted(marked)
	isFault(t, text, e, at)
}

// compiled is the program of a text that must be one.
func compiled(t *testing.T, text string) *secrets.Program {
	t.Helper()
	p, err := secrets.Compile(text)
	if err != nil || p == nil {
		t.Fatalf("%q: %v", text, err)
	}
	return p
}

// labelsOf is what Labels tells, as text: "h=0:5 l= ".
func labelsOf(p *secrets.Program) string {
	s := ""
	for name, l := range p.Labels() {
		s += name + "=" + policiesText(l) + " "
	}
	return s
}

// policiesText: "0:5,1:2" has two policies, with owners 0 and 1.
func policiesText(l []api.Policy) string {
	var texts []string
	for _, p := range l {
		texts = append(texts, fmt.Sprintf("%d:%d", p.Owner, p.Readers))
	}
	return strings.Join(texts, ",")
}

// The document's table of examples, and what it says of them.
func TestDocumentsExamples(t *testing.T) {
	isFault(t, "", api.ErrSyntax, 0)
	if got := compiled(t, "do {}").Print(); got != "do {\n}\n" {
		t.Errorf("do {}: %q", got)
	}
	isFault(t, "do {x=1;}", api.ErrUse, 4)
	if got := compiled(t, "var v;do {v=1+2*(3-4)<5;}").Print(); strings.Split(got, "\n")[2] != "  v = 1 + 2 * (3 - 4) < 5;" {
		t.Errorf("the third line of %q", got)
	}
	for _, c := range []struct {
		marked string
		e      api.Errno
		labels string
	}{
		{"do {get s h;@put q h;}", api.ErrFlow, ""},
		{"do {get p l;put o l;put q l+1;}", api.OK, "h= l= "},
		{"do {get s h;if h {@l=1;}put o l;}", api.ErrFlow, ""},
		{"do {get s h;while h {h=h-1;@get p l;}}", api.ErrFlow, ""},
		{"do {get s h;free l=h {} by c;put o l;}", api.OK, "h=0:5 l= "},
		{"do {get s h;@free l=h {} by b;}", api.ErrBy, ""},
	} {
		if c.e != api.OK {
			isFaultAt(t, c.e, head+c.marked)
		} else if got := labelsOf(compiled(t, head+c.marked)); got != c.labels {
			t.Errorf("%s: %s, want %s", c.marked, got, c.labels)
		}
	}
}

// One text of each fault: faultOf holds errors.Is, Parts and Error against it.
func TestFaultsAreErrors(t *testing.T) {
	for _, c := range []struct {
		e      api.Errno
		marked string
	}{
		{api.ErrLong, "@" + strings.Repeat(" ", 901)},
		{api.ErrChar, "do @!"},
		{api.ErrName, "var @abcdefg;do {}"},
		{api.ErrNumber, "do {if @1234567890 {}}"},
		{api.ErrSyntax, "do {}@;"},
		{api.ErrDepth, "do {if ((((((@(1))))))) {}}"},
		{api.ErrTwice, "var v;var @v;do {}"},
		{api.ErrFull, "in a {};in b {};in c {};in @d {};do {}"},
		{api.ErrUse, "do {if @v {}}"},
		{api.ErrFlow, "actor a;actor b;out o {};var v {a:};do {@put o v;}"},
		{api.ErrBy, "actor a;actor b;var l {};var v {a:};do {@free l=v {};}"},
	} {
		isFaultAt(t, c.e, c.marked)
		text, at := parted(c.marked)
		_, err := secrets.Compile(text)
		if !strings.Contains(err.Error(), c.e.Error()) || !strings.Contains(err.Error(), fmt.Sprint(at)) {
			t.Errorf("%q: the error's text is %q", text, err.Error())
		}
		var wrapped api.Errno
		if !errors.As(err, &wrapped) || wrapped != c.e {
			t.Errorf("%q: wraps %v, want %v", text, wrapped, c.e)
		}
		isFaultAt(t, c.e, c.marked)
	}
}

// P2: an error is the caller's, too: what is done to one is not seen in another.
func TestFaultsAreFresh(t *testing.T) {
	_, one := secrets.Compile("do {x=1;}")
	if f, ok := one.(*api.Fault); ok {
		f.E, f.At = api.ErrLong, 77
	}
	isFault(t, "do {x=1;}", api.ErrUse, 4)
}

// P1: a program that Compile did not make does nothing.
func TestProgramsNotMadeByCompile(t *testing.T) {
	for _, p := range []*secrets.Program{nil, {}} {
		if p.Print() != "do {\n}\n" || labelsOf(p) != "" {
			t.Errorf("%q, %q", p.Print(), labelsOf(p))
		}
	}
}

// P1: no text makes a call panic; what is compiled is printed, and its labels told.
func TestNoTextPanics(t *testing.T) {
	d := dice(51)
	pieces := strings.Split("actor |over |in |out |var |do |get |put |if |else |while |free |by |a|b|v|s|o|a1|12|0|;|:|{|}|(|)|+|-|*|/|<|=|==| |\n|$|\x00|\xff|é", "|")
	for range 20000 {
		text := ""
		for range d.below(60) {
			text += pieces[d.below(len(pieces))]
		}
		if e, at := faultOf(t, text); at < 0 || at > len(text) || e == api.OK && at != 0 {
			t.Fatalf("%q: %v at %d", text, e, at)
		}
	}
	whole := head + "do {get s h;if h<1 {free l=h {} by c;} else {while h {h=h-(1+2)*3;}}put q l;}"
	for cut := range len(whole) {
		faultOf(t, whole[:cut])
		faultOf(t, whole[cut:])
		for _, piece := range pieces {
			if p, err := secrets.Compile(whole[:cut] + piece + whole[cut+1:]); err == nil {
				p.Print()
				labelsOf(p)
			}
		}
	}
}

// P2: a program is changed by nothing.
func TestProgramsStay(t *testing.T) {
	p := compiled(t, head+"do {get s h;free l=h {} by c;}")
	text, labels := p.Print(), labelsOf(p)
	compiled(t, "var x;do {x=1;}")
	secrets.Compile("var x;do {y=1;}")
	for range p.Labels() {
		break
	}
	if p.Print() != text || labelsOf(p) != labels {
		t.Errorf("now %q, %q", p.Print(), labelsOf(p))
	}
}

// P8: Labels tells the variables as declared, whoever ranges, and as often as it is ranged over.
func TestLabelsIsRangedOver(t *testing.T) {
	p := compiled(t, "actor a;actor b;var z;in s {a:};var y {b: a};out o {};var x;do {get s x;}")
	all := p.Labels()
	for range 2 {
		var names []string
		for name := range all {
			names = append(names, name)
		}
		if !slices.Equal(names, []string{"z", "y", "x"}) {
			t.Errorf("told %v", names)
		}
	}
	if got := labelsOf(p); got != "z= y= x=0:1 " {
		t.Errorf("told %s", got)
	}
	for most := 1; most <= 4; most++ {
		calls := 0
		all(func(string, []api.Policy) bool {
			calls++
			return calls < most
		})
		if calls != min(most, 3) {
			t.Errorf("no was said at %d, and yield was called %d times", most, calls)
		}
	}
	for name := range compiled(t, "actor a;in s {};out o {};do {}").Labels() {
		t.Errorf("told %s, which is no variable", name)
	}
}

// P2: lists that Labels tells are the caller's, with their spare room.
func TestListsOfLabelsAreFresh(t *testing.T) {
	p := compiled(t, "actor a;actor b;actor c;in s {a: b; c:};var x;var y {a: b; c:};do {get s x;}")
	want := labelsOf(p)
	if want != "x=0:3,2:4 y=0:3,2:4 " {
		t.Fatalf("told %s", want)
	}
	var kept [][]api.Policy
	for _, l := range p.Labels() {
		kept = append(kept, l)
		scribble(l)
	}
	if labelsOf(p) != want {
		t.Errorf("after the lists were written into: %s", labelsOf(p))
	}
	for _, l := range p.Labels() {
		for _, old := range kept {
			scribble(old)
		}
		if policiesText(l) != "0:3,2:4" {
			t.Errorf("a list shares memory with one that was told earlier: %v", l)
		}
		kept = append(kept, l)
	}
}
