package sign

import (
	"strings"

	"storehouse/api"
	"storehouse/wire"
)

// The fields that show who sent a request.
const (
	hostField = "host"
	dateField = "x-amz-date"
	sumField  = "x-amz-content-sha256"
	authField = "authorization"
)

// unsigned is what a request tells in the place of its body's sum, if that is not signed.
const unsigned = "UNSIGNED-PAYLOAD"

// many is how many fields have a name. It asks wire of each field alone, for what is alike is wire's to tell.
func many(l []api.Pair, name string) int {
	found := 0
	for i := range l {
		if _, ok := wire.Field(l[i:i+1], name); ok {
			found++
		}
	}
	return found
}

// copied is a request that shares no memory with the one that is handed in.
func copied(r api.Request) api.Request {
	fields := make([]api.Pair, 0, len(r.Fields))
	for _, field := range r.Fields {
		fields = append(fields, api.Pair{Name: strings.Clone(field.Name), Value: strings.Clone(field.Value)})
	}
	r.Method, r.Target, r.Body = strings.Clone(r.Method), strings.Clone(r.Target), strings.Clone(r.Body)
	r.Fields = fields
	return r
}
