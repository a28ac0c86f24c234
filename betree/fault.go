package betree

import "banyan/api"

// fault is what a call is given up by. It is a type of its own, so that no other panic is taken for one.
type fault struct {
	err error
}

// crowded is what a change is given up by, while it is worked out, for which messages would have to be where there is no room for them.
type crowded struct{}

// must gives a call up by an error, if something is not as it must be.
func must(ok bool, err api.Errno) {
	if !ok {
		panic(fault{err})
	}
}

// accept gives a call up that the store refuses.
func accept(err api.Errno) { must(err == api.OK, err) }

// mustPage gives a call up by an error in a page, if something is not as it must be.
func mustPage(ok bool, number int, err api.Errno) {
	if !ok {
		panic(fault{&api.Lost{Page: number, Err: err}})
	}
}

// mustFit gives a change up that has no room for messages.
func mustFit(ok bool) {
	if !ok {
		panic(crowded{})
	}
}

// attempt does something that may be given up, and answers why.
func attempt(do func()) (err error) {
	defer func() {
		switch why := recover().(type) {
		case nil:
		case fault:
			err = why.err
		default:
			panic(why)
		}
	}()
	do()
	return nil
}

// roomy works a change out, and tells whether there was room for the messages.
func roomy(do func()) (ok bool) {
	defer func() {
		switch why := recover().(type) {
		case nil:
		case crowded:
			ok = false
		default:
			panic(why)
		}
	}()
	do()
	return true
}
