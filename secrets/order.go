package secrets

import (
	"secrets/api"
	"secrets/label"
)

// Order is who acts for whom (P3).
type Order struct{ who label.Order }

// NewOrder: n actors; of each pair the first acts for the second (P3).
func NewOrder(n int, over [][2]int) *Order {
	return &Order{who: label.NewOrder(n, over)}
}

// order: no call may panic, so an order that is nil has no actors.
func (o *Order) order() label.Order {
	if o == nil {
		return label.Order{}
	}
	return o.who
}

// Actors tells how many actors there are (P3).
func (o *Order) Actors() int { return o.order().Actors() }

// Over tells whether a acts for b (P3).
func (o *Order) Over(a, b int) bool { return o.order().Over(a, b) }

// Norm is the label's normal form (P4).
func (o *Order) Norm(l []api.Policy) []api.Policy {
	w := o.order()
	return w.Policies(w.Of(l))
}

// Join is the normal form of the policies of both labels (P4).
func (o *Order) Join(a, b []api.Policy) []api.Policy {
	w := o.order()
	return w.Policies(w.Of(a).Join(w.Of(b)))
}

// Flows tells whether what has label a may flow to where label b is (P4).
func (o *Order) Flows(a, b []api.Policy) bool {
	w := o.order()
	return w.Of(a).Flows(w.Of(b))
}

// Reads tells whether an actor may read what has the label (P4).
func (o *Order) Reads(who int, l []api.Policy) bool {
	w := o.order()
	return w.Reads(who, w.Of(l))
}
