package eset

import (
	"errors"

	"storehouse/api"
)

// fault is an error of this layer, at a place.
func fault(code api.Errno, at int) error { return &api.Fault{Code: code, At: at} }

// wrapped is an error from below as one of this layer; nil, where there is none.
func wrapped(err error) error {
	var below *api.Fault
	if errors.As(err, &below) {
		return &api.Fault{Code: below.Code, Inner: below}
	}
	return err
}
