package program

import "secrets/api"

// throw ends the reading of a text: the first fault counts, so nothing behind it is looked at. Compile catches it.
func throw(e api.Errno, at int) {
	panic(&api.Fault{E: e, At: at})
}

// caught is the fault that was thrown. Anything else is a slip of this package, and no answer to a text: it goes on.
func caught(thrown any) api.Error {
	fault, ok := thrown.(*api.Fault)
	if !ok {
		panic(thrown)
	}
	return fault
}
