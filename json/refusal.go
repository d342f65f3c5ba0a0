package json

import "storehouse/api"

// refusal is what is thrown where a text can't be read or written: what is wrong, and where.
type refusal struct {
	code api.Errno
	at   int
}

// refusalOf is what was thrown. What is not of this package is not known to be thrown at any argument; if it were, nothing of the text could be told, and no call may panic.
func refusalOf(thrown any) refusal {
	if refused, ok := thrown.(refusal); ok {
		return refused
	}
	return refusal{code: api.ErrJson}
}
