package secrets_test

import (
	"math"
	"slices"
	"testing"

	"secrets/api"
	"secrets/secrets"
)

// label: owners and readers, two by two.
func label(numbers ...int) []api.Policy {
	l := []api.Policy{}
	for k := 0; k < len(numbers); k += 2 {
		l = append(l, api.Policy{Owner: numbers[k], Readers: numbers[k+1]})
	}
	return l
}

// P4: normal forms that can be worked out by hand.
func TestNorm(t *testing.T) {
	over := func(numbers ...int) [][2]int {
		var l [][2]int
		for k := 0; k < len(numbers); k += 2 {
			l = append(l, [2]int{numbers[k], numbers[k+1]})
		}
		return l
	}
	for _, c := range []struct {
		name    string
		n       int
		over    [][2]int
		l, want []api.Policy
	}{
		{"nil", 3, nil, nil, nil},
		{"no policy", 3, nil, label(), nil},
		{"the document's", 3, over(2, 0), label(0, 0, 0, 2), label(0, 5)},
		{"one actor alone, nobody else", 1, nil, label(0, 0), nil},
		{"one actor alone, all bits", 1, nil, label(0, -1, 0, 1), nil},
		{"all may read", 3, nil, label(1, 5), nil},
		{"the owner reads", 3, nil, label(1, 0), label(1, 2)},
		{"rising, whatever the order", 3, nil, label(2, 0, 0, 2), label(0, 3, 2, 4)},
		{"several of one owner", 3, nil, label(0, 2, 0, 4), label(0, 1)},
		{"several of one owner, parted", 3, nil, label(0, 6, 1, 1, 0, 4), label(0, 5, 1, 3)},
		{"owners that are no actors", 3, nil, label(-1, 0, 3, 0, 6, 0, math.MinInt, 0, math.MaxInt, 0), nil},
		{"owners that are actors but for high bits", 3, nil, label(256, 0, 1<<32, 0, 1<<40+1, 0), nil},
		{"readers that are no actors", 3, nil, label(0, 8, 1, 1<<40, 2, math.MinInt), label(0, 1, 1, 2, 2, 4)},
		{"all bits", 3, nil, label(0, -1), nil},
		{"bits below and above", 3, nil, label(0, -8|2), label(0, 3)},
		{"who acts for a reader reads", 4, over(3, 1), label(0, 2), label(0, 11)},
		{"for whom a reader acts does not read", 4, over(3, 1), label(0, 8), label(0, 9)},
		{"an owner above says it already", 3, over(2, 0), label(0, 0, 2, 0), label(2, 4)},
		{"an owner above says less", 3, over(2, 0), label(2, 2, 0, 0), label(0, 4, 2, 6)},
		{"an owner below says less", 3, over(2, 0), label(2, 0, 0, 2), label(2, 4)},
		{"an owner above alone", 3, over(2, 0), label(2, 0), label(2, 4)},
		{"two above, nothing of its own", 3, over(1, 0, 2, 0), label(1, 0, 2, 0), label(1, 2, 2, 4)},
		{"two above, and its own is let be", 3, over(1, 0, 2, 0), label(0, 0, 1, 0, 2, 0), label(1, 2, 2, 4)},
		{"above by a chain, says it already", 4, over(3, 2, 2, 1), label(1, 0, 3, 6), label(3, 14)},
		{"above by a chain, says less", 4, over(3, 2, 2, 1), label(1, 0, 3, 1), label(1, 8, 3, 9)},
		{"alike: the first is told", 3, over(1, 2, 2, 1), label(2, 0), label(1, 6)},
		{"alike: both may read, whoever owns", 3, over(0, 2, 2, 0), label(0, 0, 2, 0), label(0, 5)},
		{"alike: policies of both", 4, over(0, 3, 3, 0), label(3, 2, 0, 4), label(0, 9)},
		{"alike: all of them", 3, over(0, 1, 1, 2, 2, 0), label(0, 0, 1, 0, 2, 0), nil},
		{"alike, and one above", 4, over(1, 2, 2, 1, 3, 2), label(2, 0, 3, 7), label(1, 14)},
		{"six", 6, nil, label(5, 0, 4, 1, 0, 62, 1, 61), label(4, 17, 5, 32)},
		{"nobody", 0, nil, label(0, 0, 1, 1), nil},
	} {
		o := secrets.NewOrder(c.n, c.over)
		if got := o.Norm(c.l); !slices.Equal(got, c.want) {
			t.Errorf("%s: %v, want %v", c.name, got, c.want)
		}
		back := slices.Clone(c.l)
		slices.Reverse(back)
		if got := o.Norm(back); !slices.Equal(got, c.want) {
			t.Errorf("%s, from behind: %v, want %v", c.name, got, c.want)
		}
		half := len(c.l) / 2
		if got := o.Join(c.l[:half], c.l[half:]); !slices.Equal(got, c.want) {
			t.Errorf("%s, joined: %v, want %v", c.name, got, c.want)
		}
	}
}

// P4: flows that can be worked out by hand. 2 acts for 0; 3 and 4 act for each other.
func TestFlows(t *testing.T) {
	o := secrets.NewOrder(5, [][2]int{{2, 0}, {3, 4}, {4, 3}})
	for _, c := range []struct {
		name        string
		a, b        []api.Policy
		there, back bool
	}{
		{"nothing", nil, label(), true, true},
		{"the document's", label(0, 2), label(0, 0), true, false},
		{"from nothing", nil, label(1, 0), true, false},
		{"owners apart", label(0, 0), label(1, 0), false, false},
		{"to both owners", label(0, 0), label(1, 0, 0, 0), true, false},
		{"to an owner above", label(0, 0), label(2, 0), true, false},
		{"to an owner above that lets more read", label(0, 0), label(2, 2), false, false},
		{"readers apart", label(0, 2), label(0, 8), false, false},
		{"a reader and who acts for it", label(1, 1), label(1, 4), true, false},
		{"who acts for the owner reads anyhow", label(0, 4), label(0, 0), true, true},
		{"alike owners", label(3, 1), label(4, 1), true, true},
		{"alike readers", label(0, 8), label(0, 16), true, true},
		{"an owner that is no actor", label(5, 0, -1, 0), nil, true, true},
		{"readers that are no actors", label(0, 2|1<<5|1<<40), label(0, 2), true, true},
		{"policies of one owner make one", label(1, 8, 1, 5), label(1, 0), true, true},
		{"any order", label(0, 0, 1, 8, 3, 2), label(3, 2, 1, 8, 0, 0), true, true},
		{"all read", label(1, 31), nil, true, true},
		{"all bits", label(1, -1), nil, true, true},
	} {
		if o.Flows(c.a, c.b) != c.there || o.Flows(c.b, c.a) != c.back {
			t.Errorf("%s: %v and %v, want %v and %v", c.name, o.Flows(c.a, c.b), o.Flows(c.b, c.a), c.there, c.back)
		}
	}
}

// P4: who reads. 2 acts for 0; 3 and 4 act for each other.
func TestReads(t *testing.T) {
	o := secrets.NewOrder(5, [][2]int{{2, 0}, {3, 4}, {4, 3}})
	for _, c := range []struct {
		name string
		l    []api.Policy
		want int
	}{
		{"all, of nothing", nil, 31},
		{"the owner, and who acts for it", label(0, 0), 5},
		{"the owner, not for whom it acts", label(2, 0), 4},
		{"a reader, and who acts for it", label(1, 1), 7},
		{"those whom all owners let read", label(1, 1, 0, 8), 5},
		{"nobody", label(1, 0, 2, 0), 0},
		{"alike owners", label(3, 0), 24},
		{"alike readers", label(1, 16), 26},
		{"an owner that is no actor", label(5, 0, -1, 0, 1<<40, 0), 31},
		{"readers that are no actors", label(1, -1<<5), 2},
		{"all bits", label(1, -1), 31},
		{"several of one owner", label(1, 9, 1, 24), 26},
		{"several of one owner, none in both", label(1, 1, 1, 8), 2},
	} {
		for _, who := range wild {
			if want := who >= 0 && who < 5 && c.want>>who&1 == 1; o.Reads(who, c.l) != want {
				t.Errorf("%s: Reads(%d, ..), want %v", c.name, who, want)
			}
		}
	}
}

// agrees holds all answers about two labels against the words of P4.
func agrees(t *testing.T, n int, pairs [][2]int, a, b []api.Policy) {
	t.Helper()
	o, s := secrets.NewOrder(n, pairs), specOf(n, pairs)
	if got, want := o.Norm(a), s.norm(a); !slices.Equal(got, want) {
		t.Fatalf("%d actors, %v: Norm of %v: %v, want %v", n, pairs, a, got, want)
	}
	if got, want := o.Join(a, b), s.norm(slices.Concat(a, b)); !slices.Equal(got, want) {
		t.Fatalf("%d actors, %v: Join of %v and %v: %v, want %v", n, pairs, a, b, got, want)
	}
	if got, want := o.Flows(a, b), s.flows(a, b); got != want {
		t.Fatalf("%d actors, %v: Flows of %v to %v: %v, want %v", n, pairs, a, b, got, want)
	}
	for who := -1; who <= n; who++ {
		if got, want := o.Reads(who, a), s.reads(who, a); got != want {
			t.Fatalf("%d actors, %v: Reads of %d, %v: %v, want %v", n, pairs, who, a, got, want)
		}
	}
}

// smallOrders: all lists of pairs of two actors out of n, each pair once.
func smallOrders(n int) [][][2]int {
	all := [][][2]int{nil}
	for a := range n {
		for b := range n {
			if a == b {
				continue
			}
			for _, l := range all {
				all = append(all, append(slices.Clone(l), [2]int{a, b}))
			}
		}
	}
	return all
}

// P4, of all orders of up to three actors, and all labels of up to two policies.
func TestSmallLabelsAsSaid(t *testing.T) {
	for n := range 4 {
		for _, pairs := range smallOrders(n) {
			one := [][]api.Policy{nil}
			for owner := -1; owner <= n; owner++ {
				for readers := range 1 << n {
					one = append(one, label(owner, readers))
				}
			}
			for _, a := range one {
				for _, b := range one {
					agrees(t, n, pairs, a, b)
					agrees(t, n, pairs, slices.Concat(a, b), a)
				}
			}
		}
	}
}

// P4, of thrown orders and labels.
func TestThrownLabelsAsSaid(t *testing.T) {
	d := dice(4)
	for range 20000 {
		agrees(t, d.below(9)-1, d.pairs(8), d.label(), d.label())
	}
}

// P4: what the words make of labels as a whole: a join is the least label into which both flow, and labels that flow both ways have one normal form.
func TestLabelsFitTogether(t *testing.T) {
	d := dice(5)
	for range 5000 {
		n, pairs := 2+d.below(5), d.pairs(5)
		o := secrets.NewOrder(n, pairs)
		a, b, c := d.label(), d.label(), d.label()
		both := o.Join(a, b)
		if !o.Flows(a, both) || !o.Flows(b, both) {
			t.Fatalf("%d actors, %v: %v and %v do not flow into their join %v", n, pairs, a, b, both)
		}
		if (o.Flows(a, c) && o.Flows(b, c)) != o.Flows(both, c) {
			t.Fatalf("%d actors, %v: the join %v of %v and %v is not the least: %v", n, pairs, both, a, b, c)
		}
		if (o.Flows(a, b) && o.Flows(b, a)) != slices.Equal(o.Norm(a), o.Norm(b)) {
			t.Fatalf("%d actors, %v: %v and %v flow both ways, but the normal forms differ, or the other way round", n, pairs, a, b)
		}
		if norm := o.Norm(a); !slices.Equal(o.Norm(norm), norm) || !o.Flows(a, norm) || !o.Flows(norm, a) {
			t.Fatalf("%d actors, %v: the normal form %v of %v is another label", n, pairs, norm, a)
		}
	}
}
