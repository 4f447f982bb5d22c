package label

import "secrets/api"

// Label has for each actor those who are NOT readers under it. These, not the readers, are kept so that the zero value is the label with no policy, a join is a union, and neither a join nor a flow has to ask how many actors there are.
//
// Labels with the same normal form are equal, and the other way round.
type Label [api.MaxActors]set

// Of is the label that the policies make; those whose owner is no actor count for nothing.
func (o Order) Of(policies []api.Policy) Label {
	var l Label
	for _, p := range policies {
		if o.isActor(p.Owner) {
			l = l.Join(o.alone(p))
		}
	}
	return l
}

// alone is the label of one policy, whose owner is an actor.
func (o Order) alone(p api.Policy) Label {
	var l Label
	out := o.everybody() &^ o.letRead(p)
	for k := range o.n {
		if o.Over(p.Owner, k) {
			l[k] = out
		}
	}
	return l
}

// letRead: all that act for the owner, and all that act for one of the readers.
func (o Order) letRead(p api.Policy) set {
	s := o.above[p.Owner]
	for k := range o.n {
		if p.Readers>>k&1 == 1 {
			s |= o.above[k]
		}
	}
	return s
}

// Policies is the label's normal form, as a fresh list.
func (o Order) Policies(l Label) []api.Policy {
	var list []api.Policy
	for k := range o.n {
		if o.first(k) && l[k] != o.fromAbove(l, k) {
			list = append(list, api.Policy{Owner: k, Readers: int(o.everybody() &^ l[k])})
		}
	}
	return list
}

// fromAbove: who is kept from reading under actor k by what owners say that stand above it, without a policy of its own.
func (o Order) fromAbove(l Label, k int) set {
	var out set
	for j := range o.n {
		if o.Over(j, k) && !o.Over(k, j) {
			out |= l[j]
		}
	}
	return out
}

// MayGive is the label up to which the actors, as bits, may give away what then has the other label: that, and all that is theirs.
func (o Order) MayGive(to Label, by int) Label {
	for k := range o.n {
		if by>>k&1 == 1 {
			to = to.Join(o.alone(api.Policy{Owner: k}))
		}
	}
	return to
}

// Reads tells whether who is an actor, and a reader under each actor.
func (o Order) Reads(who int, l Label) bool {
	if !o.isActor(who) {
		return false
	}
	for _, out := range l {
		if out.has(who) {
			return false
		}
	}
	return true
}

// Join is the label of the policies of both.
func (l Label) Join(m Label) Label {
	for k := range l {
		l[k] |= m[k]
	}
	return l
}

// Flows tells whether what has this label may go where to stands: nobody reads it there who is kept from it here.
func (l Label) Flows(to Label) bool {
	for k := range l {
		if l[k]&^to[k] != 0 {
			return false
		}
	}
	return true
}
