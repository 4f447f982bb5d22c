// Package label: orders of actors, and labels under them, as bits (P3, P4).
package label

import "secrets/api"

// set is a set of actors: bit k is actor k.
type set uint8

func (s set) has(k int) bool { return s>>k&1 == 1 }

// Order is who acts for whom. It is a value: a copy shares nothing that could be changed.
type Order struct {
	n     int
	above [api.MaxActors]set // above[k]: all that act for actor k
}

// NewOrder has n actors, 0 at the least and api.MaxActors at the most; of each pair of actors the first acts for the second.
func NewOrder(n int, over [][2]int) Order {
	o := Order{n: min(max(n, 0), api.MaxActors)}
	for k := range o.n {
		o.above[k] = 1 << k
	}
	for _, pair := range over {
		if o.isActor(pair[0]) && o.isActor(pair[1]) {
			o.above[pair[1]] |= 1 << pair[0]
		}
	}
	o.above = closed(o.above)
	return o
}

// closed adds who acts for one that acts for a third. The one between is the outer loop, so that one pass suffices however long a chain is.
func closed(above [api.MaxActors]set) [api.MaxActors]set {
	for between := range above {
		for k := range above {
			if above[k].has(between) {
				above[k] |= above[between]
			}
		}
	}
	return above
}

// Actors tells how many there are.
func (o Order) Actors() int { return o.n }

// Over tells whether a acts for b; who is no actor acts for nobody, and nobody for it.
func (o Order) Over(a, b int) bool {
	return o.isActor(a) && o.isActor(b) && o.above[b].has(a)
}

// Above tells who acts for actor k, as bits.
func (o Order) Above(k int) int { return int(o.above[k]) }

func (o Order) isActor(k int) bool { return 0 <= k && k < o.n }

func (o Order) everybody() set { return 1<<o.n - 1 }

// alike: both act for each other, so that all labels have the same readers under both.
func (o Order) alike(a, b int) bool { return o.Over(a, b) && o.Over(b, a) }

// first: no actor with a lower number is alike, so that it stands for all that are.
func (o Order) first(k int) bool {
	for j := range k {
		if o.alike(j, k) {
			return false
		}
	}
	return true
}
