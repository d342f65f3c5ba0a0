package erasure

import "storehouse/api"

// fault is an error of this layer.
func fault(code api.Errno) error { return &api.Fault{Code: code} }
