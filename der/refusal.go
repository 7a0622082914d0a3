package der

import "vouch/api"

// refusal is the error with which something deep inside gives up.
type refusal api.Errno

// demand gives up with an error where something does not hold.
func demand(holds bool, e api.Errno) {
	if !holds {
		panic(refusal(e))
	}
}

// caught tells what work tells, or the error with which it gave up. (Any other panic goes on: it is a fault of the program.)
func caught[T any](work func() T) (told T, e api.Errno) {
	defer func() {
		if r := recover(); r != nil {
			e = api.Errno(r.(refusal))
		}
	}()
	return work(), api.OK
}
