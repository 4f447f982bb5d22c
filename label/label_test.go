package label

import (
	"slices"
	"testing"

	"secrets/api"
)

// Labels are compared by ==, so those with one normal form must be equal, and no others.
func TestEqualLabels(t *testing.T) {
	o := NewOrder(4, [][2]int{{2, 0}, {1, 3}, {3, 1}})
	var lists [][]api.Policy
	for first := -1; first <= 4; first++ {
		for second := range 4 {
			for readers := range 1 << 6 {
				lists = append(lists, []api.Policy{{Owner: first, Readers: readers &^ 3}, {Owner: second, Readers: readers}})
			}
		}
	}
	for _, a := range lists {
		if back := o.Of(o.Policies(o.Of(a))); back != o.Of(a) {
			t.Fatalf("%v: the normal form is the label %v, want %v", a, back, o.Of(a))
		}
		for _, b := range lists[:100] {
			if (o.Of(a) == o.Of(b)) != slices.Equal(o.Policies(o.Of(a)), o.Policies(o.Of(b))) {
				t.Fatalf("%v and %v: equal labels with two normal forms, or the other way round", a, b)
			}
		}
	}
}

// The zero label is the one with no policy, whatever the order.
func TestZeroLabel(t *testing.T) {
	for n := range api.MaxActors + 1 {
		o := NewOrder(n, [][2]int{{1, 0}})
		var none Label
		if o.Of(nil) != none || len(o.Policies(none)) != 0 {
			t.Errorf("%d actors: no policy is %v, and the zero label %v", n, o.Of(nil), o.Policies(none))
		}
		for who := range n {
			if !o.Reads(who, none) {
				t.Errorf("%d actors: %d does not read what has no policy", n, who)
			}
		}
	}
}

// Join and Flows answer about copies: the labels that they are asked about stay.
func TestLabelsAreValues(t *testing.T) {
	o := NewOrder(3, nil)
	a, b := o.Of([]api.Policy{{Owner: 0}}), o.Of([]api.Policy{{Owner: 1}})
	keptA, keptB := a, b
	both := a.Join(b)
	if a != keptA || b != keptB {
		t.Error("Join changed a label")
	}
	if !a.Flows(both) || !b.Flows(both) || both.Flows(a) || both.Flows(b) {
		t.Error("both must flow into their join, and it into neither")
	}
}

// Above tells what Over tells, as bits.
func TestAbove(t *testing.T) {
	for n := range api.MaxActors + 1 {
		o := NewOrder(n, [][2]int{{2, 0}, {5, 2}, {1, 3}, {3, 1}})
		for k := range n {
			for j := range api.MaxActors + 2 {
				if o.Above(k)>>j&1 == 1 != o.Over(j, k) {
					t.Errorf("%d actors: above %d: bits %b, and Over(%d, %d) is %v", n, k, o.Above(k), j, k, o.Over(j, k))
				}
			}
		}
	}
}

// MayGive adds a policy of each actor that lets nobody else read; bits of no actors are let be.
func TestMayGive(t *testing.T) {
	o := NewOrder(4, [][2]int{{2, 0}, {1, 3}, {3, 1}})
	to := []api.Policy{{Owner: 0, Readers: 2}}
	for by := range 1 << 6 {
		policies := slices.Clone(to)
		for k := range 6 {
			if by>>k&1 == 1 {
				policies = append(policies, api.Policy{Owner: k})
			}
		}
		if got := o.MayGive(o.Of(to), by); got != o.Of(policies) {
			t.Errorf("by %b: %v, want %v", by, o.Policies(got), o.Policies(o.Of(policies)))
		}
	}
}
