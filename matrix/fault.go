package matrix

import "storehouse/api"

// fault is an error of this layer.
func fault(code api.Errno) error { return &api.Fault{Code: code} }

// nothing is what is answered in the place of a matrix.
func nothing(code api.Errno) (api.Matrix, error) { return api.Matrix{}, fault(code) }
