package secrets_test

import (
	"math"
	"slices"
	"testing"

	"secrets/api"
	"secrets/secrets"
)

// wild: numbers from inside, from the edges and from far outside.
var wild = []int{math.MinInt, -1 << 40, -64, -2, -1, 0, 1, 2, 5, 6, 7, 8, 31, 32, 63, 64, 65, 255, 256, 1 << 32, 1 << 40, math.MaxInt}

// askAll asks every call of an order; all that it answers.
func askAll(o *secrets.Order, who []int, labels [][]api.Policy) []any {
	told := []any{o.Actors()}
	for _, a := range who {
		for _, b := range who {
			told = append(told, o.Over(a, b))
		}
	}
	for _, a := range labels {
		told = append(told, o.Norm(a))
		for _, k := range who {
			told = append(told, o.Reads(k, a))
		}
		for _, b := range labels {
			told = append(told, o.Join(a, b), o.Flows(a, b))
		}
	}
	return told
}

func sameTold(a, b []any) bool {
	return slices.EqualFunc(a, b, func(x, y any) bool {
		l, ok := x.([]api.Policy)
		if !ok {
			return x == y
		}
		return slices.Equal(l, y.([]api.Policy))
	})
}

func wildPairs() [][2]int {
	var l [][2]int
	for _, a := range wild {
		for _, b := range wild {
			l = append(l, [2]int{a, b})
		}
	}
	return l
}

func wildLabel() []api.Policy {
	var l []api.Policy
	for _, owner := range wild {
		for _, readers := range wild {
			l = append(l, api.Policy{Owner: owner, Readers: readers})
		}
	}
	return l
}

// P1: no call panics and every call ends, at all numbers.
func TestNoCallPanics(t *testing.T) {
	labels := [][]api.Policy{nil, {}, wildLabel()}
	for _, p := range wildLabel() {
		if p.Readers < 0 {
			labels = append(labels, []api.Policy{p})
		}
	}
	for _, n := range wild {
		for _, over := range [][][2]int{nil, {}, {{-1, 0}}, {{0, 6}, {1 << 40, 0}}, wildPairs()} {
			askAll(secrets.NewOrder(n, over), wild, labels)
		}
	}
}

// P1: an order that NewOrder did not make has no actors.
func TestOrdersOfNobody(t *testing.T) {
	for _, o := range []*secrets.Order{nil, {}, secrets.NewOrder(0, nil), secrets.NewOrder(-7, wildPairs())} {
		if o.Actors() != 0 || o.Over(0, 0) || o.Reads(0, nil) || !o.Flows(wildLabel(), nil) || len(o.Norm(wildLabel())) != 0 || len(o.Join(wildLabel(), wildLabel())) != 0 {
			t.Error("an order of nobody answers as if there were somebody")
		}
	}
}

// scribble writes into a list and all of its spare room.
func scribble(l []api.Policy) {
	l = l[:cap(l)]
	for k := range l {
		l[k] = api.Policy{Owner: 1, Readers: 0}
	}
}

// P2: a list that came out is the caller's, with its spare room.
func TestListsThatComeOutAreFresh(t *testing.T) {
	labels := [][]api.Policy{nil, {{Owner: 0}}, {{Owner: 0, Readers: 5}, {Owner: 3}}, {{Owner: 2, Readers: 8}, {Owner: 1}, {Owner: 0}}}
	who := []int{-1, 0, 1, 2, 3, 4}
	o := secrets.NewOrder(4, [][2]int{{2, 0}})
	want := askAll(o, who, labels)
	for _, a := range labels {
		scribble(o.Norm(a))
		for _, b := range labels {
			scribble(o.Join(a, b))
		}
	}
	if !sameTold(askAll(o, who, labels), want) {
		t.Error("the order answers otherwise after lists that it handed out were written into")
	}
	for _, a := range labels {
		one, kept := o.Norm(a), o.Norm(a)
		other, keptOther := o.Join(a, nil), o.Join(a, nil)
		scribble(one)
		scribble(other)
		if want := specOf(4, [][2]int{{2, 0}}).norm(a); !slices.Equal(kept, want) || !slices.Equal(keptOther, want) {
			t.Errorf("two answers about %v share memory: %v %v, want %v", a, kept, keptOther, want)
		}
	}
}

// P2: the answer to a label that is in normal form already is a fresh list, too.
func TestAnswersDoNotShareTheLabel(t *testing.T) {
	o := secrets.NewOrder(3, nil)
	normal := []api.Policy{{Owner: 0, Readers: 1}, {Owner: 2, Readers: 5}}
	want := slices.Clone(normal)
	for _, l := range [][]api.Policy{o.Norm(normal), o.Join(normal, nil), o.Join(nil, normal), o.Join(normal, normal)} {
		if !slices.Equal(l, want) {
			t.Errorf("%v, want %v", l, want)
		}
		scribble(l)
		if !slices.Equal(normal, want) {
			t.Fatalf("the label that was handed in is now %v", normal)
		}
	}
}

// P2: lists that are handed in are not changed, nor is their spare room.
func TestListsThatGoInStay(t *testing.T) {
	room := func(l ...api.Policy) []api.Policy {
		return append(make([]api.Policy, 0, len(l)+5), l...)
	}
	a := room(api.Policy{Owner: 2, Readers: -1}, api.Policy{Owner: 0}, api.Policy{Owner: 9, Readers: 3}, api.Policy{Owner: 0, Readers: 2})
	b := room(api.Policy{Owner: 1, Readers: 1 << 40}, api.Policy{Owner: 0, Readers: 4})
	wholeA, wholeB := slices.Clone(a[:cap(a)]), slices.Clone(b[:cap(b)])
	pairs := append(make([][2]int, 0, 9), [2]int{2, 1}, [2]int{1, 0}, [2]int{7, -1})
	wholePairs := slices.Clone(pairs[:cap(pairs)])
	o := secrets.NewOrder(3, pairs)
	askAll(o, []int{-1, 0, 1, 2, 3}, [][]api.Policy{a, b, a[:2], nil})
	if !slices.Equal(a[:cap(a)], wholeA) || !slices.Equal(b[:cap(b)], wholeB) {
		t.Error("a label was changed")
	}
	if !slices.Equal(pairs[:cap(pairs)], wholePairs) {
		t.Error("the pairs were changed")
	}
}

// P2: an order is changed by nothing.
func TestOrdersStay(t *testing.T) {
	who := []int{-1, 0, 1, 2, 3, 4}
	labels := [][]api.Policy{nil, {{Owner: 0}}, {{Owner: 3, Readers: 2}}}
	pairs := [][2]int{{1, 0}, {2, 1}}
	o := secrets.NewOrder(4, pairs)
	want := askAll(o, who, labels)
	if !sameTold(askAll(o, who, labels), want) {
		t.Error("asking changed the order")
	}
	pairs[0], pairs[1] = [2]int{3, 0}, [2]int{0, 3}
	if !sameTold(askAll(o, who, labels), want) {
		t.Error("a change of the pairs after NewOrder changed the order")
	}
	secrets.NewOrder(4, pairs)
	secrets.NewOrder(1, nil)
	if !sameTold(askAll(o, who, labels), want) {
		t.Error("another order changed the order")
	}
}

// P3: n below 0 is 0, above 6 is 6.
func TestActors(t *testing.T) {
	for _, c := range []struct{ n, want int }{
		{math.MinInt, 0}, {-1 << 32, 0}, {-1, 0}, {0, 0}, {1, 1}, {2, 2}, {3, 3}, {4, 4}, {5, 5}, {6, 6}, {7, 6}, {8, 6}, {256, 6}, {1<<32 + 2, 6}, {math.MaxInt, 6},
	} {
		o := secrets.NewOrder(c.n, nil)
		if o.Actors() != c.want {
			t.Errorf("%d actors: %d, want %d", c.n, o.Actors(), c.want)
		}
		for _, a := range wild {
			for _, b := range wild {
				if want := a == b && a >= 0 && a < c.want; o.Over(a, b) != want {
					t.Errorf("%d actors, Over(%d, %d): want %v", c.n, a, b, want)
				}
			}
		}
	}
}

// overs: who acts for whom, but for itself, as text: "10" says that 1 acts for 0.
func overs(o *secrets.Order) string {
	s := ""
	for a := range 10 {
		for b := range 10 {
			if a != b && o.Over(a, b) {
				s += string(rune('0'+a)) + string(rune('0'+b)) + " "
			}
		}
	}
	return s
}

// P3: who acts for whom.
func TestOver(t *testing.T) {
	for _, c := range []struct {
		name string
		n    int
		over [][2]int
		want string
	}{
		{"one pair, one way", 3, [][2]int{{2, 0}}, "20 "},
		{"a pair twice", 3, [][2]int{{2, 0}, {2, 0}}, "20 "},
		{"of itself", 2, [][2]int{{1, 1}}, ""},
		{"over a third", 3, [][2]int{{0, 1}, {1, 2}}, "01 02 12 "},
		{"over a third, told from behind", 3, [][2]int{{1, 2}, {0, 1}}, "01 02 12 "},
		{"each other", 3, [][2]int{{0, 2}, {2, 0}}, "02 20 "},
		{"in a circle", 4, [][2]int{{0, 1}, {1, 3}, {3, 0}}, "01 03 10 13 30 31 "},
		{"a long chain falling", 6, [][2]int{{5, 4}, {4, 3}, {3, 2}, {2, 1}, {1, 0}}, "10 20 21 30 31 32 40 41 42 43 50 51 52 53 54 "},
		{"a long chain rising", 6, [][2]int{{4, 5}, {3, 4}, {2, 3}, {1, 2}, {0, 1}}, "01 02 03 04 05 12 13 14 15 23 24 25 34 35 45 "},
		{"a chain that jumps", 6, [][2]int{{3, 0}, {0, 5}, {5, 1}, {1, 4}}, "01 04 05 14 30 31 34 35 51 54 "},
		{"two owners of one", 3, [][2]int{{1, 0}, {2, 0}}, "10 20 "},
		{"others are let be", 3, [][2]int{{-1, 0}, {0, 3}, {3, 1}, {1, -1}, {6, 6}, {math.MinInt, math.MaxInt}, {2, 1}}, "21 "},
		{"no chain through others", 3, [][2]int{{0, 3}, {3, 1}, {1, -1}, {-1, 2}}, ""},
		{"numbers that are actors but for high bits", 3, [][2]int{{256, 1}, {0, 1<<32 + 1}, {1 << 8, 1 << 16}}, ""},
		{"pairs beyond six of many", 9, [][2]int{{6, 0}, {0, 6}, {7, 8}, {5, 0}}, "50 "},
		{"nobody", 0, [][2]int{{0, 0}, {1, 0}}, ""},
	} {
		if got := overs(secrets.NewOrder(c.n, c.over)); got != c.want {
			t.Errorf("%s: %q, want %q", c.name, got, c.want)
		}
	}
}

// P3, of thrown orders, as the words say it.
func TestOverAsSaid(t *testing.T) {
	d := dice(3)
	for range 3000 {
		n, pairs := d.below(9)-1, d.pairs(10)
		o, s := secrets.NewOrder(n, pairs), specOf(n, pairs)
		for a := -2; a < 9; a++ {
			for b := -2; b < 9; b++ {
				if o.Over(a, b) != s.over(a, b) {
					t.Fatalf("%d actors, %v: Over(%d, %d), want %v", n, pairs, a, b, s.over(a, b))
				}
			}
		}
	}
}
