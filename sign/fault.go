package sign

import (
	"errors"

	"storehouse/api"
)

// What is wrong with what is handed in, whatever number the call gives it.
var (
	errForm  = errors.New("sign: a text of another form")
	errNames = errors.New("sign: names that may not be signed")
	errField = errors.New("sign: a field that is not there as often as it must be")
	errDay   = errors.New("sign: a day that is not the moment's")
)

// wrong stops a call with a number, and what it came from (nil: nothing).
func wrong(code api.Errno, inner error) error { return &api.Fault{Code: code, Inner: inner} }

// numberOf is the number with which a call was stopped, the last one that it was given; OK, if it was not stopped.
func numberOf(err error) api.Errno {
	var fault *api.Fault
	if errors.As(err, &fault) {
		return fault.Code
	}
	return api.OK
}
