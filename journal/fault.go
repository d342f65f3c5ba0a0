package journal

import (
	"errors"

	"storehouse/api"
)

// fault is an error of this layer.
func fault(code api.Errno) error { return &api.Fault{Code: code} }

// wrapped is an error of the disk as one of this layer; nil, where there is none.
func wrapped(err error) error {
	var below *api.Fault
	if errors.As(err, &below) {
		return &api.Fault{Code: below.Code, Inner: below}
	}
	return err
}
