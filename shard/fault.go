package shard

import "storehouse/api"

// fault is an error of this layer, at a place.
func fault(code api.Errno, at int) error { return &api.Fault{Code: code, At: at} }
