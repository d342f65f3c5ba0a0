package wire

import (
	"slices"
	"strconv"
	"strings"

	"storehouse/api"
)

// noContent is the status of an answer that has no body, and tells no length.
const noContent = 204

// message is a first line, fields and a body as they are sent.
func message(first string, fields []api.Pair, body string) string {
	pieces := []string{first, lineEnd}
	for _, field := range fields {
		pieces = append(pieces, field.Name, ": ", field.Value, lineEnd)
	}
	return strings.Join(append(pieces, lineEnd, body), "")
}

// maySend tells whether an answer can be sent.
func maySend(r api.Response) bool {
	if Reason(r.Status) == "" || len(r.Body) > api.MaxAnswer || r.Status == noContent && r.Body != "" {
		return false
	}
	return !slices.ContainsFunc(r.Fields, func(field api.Pair) bool {
		return !isName(field.Name) || !isValue(field.Value) || isOfLayer(field)
	})
}

// isValue tells whether a text may be a field's value as it is written: such as is read as it was.
func isValue(s string) bool {
	return areAll(s, isWritten) && !strings.HasPrefix(s, " ") && !strings.HasSuffix(s, " ")
}

// asked are the fields that are written behind a request's own.
func asked(r api.Request) []api.Pair {
	var fields []api.Pair
	if r.Body != "" {
		fields = append(fields, api.Pair{Name: byLength, Value: strconv.Itoa(len(r.Body))})
	}
	switch {
	case r.Close && r.Minor == 1:
		fields = append(fields, api.Pair{Name: connection, Value: "close"})
	case !r.Close && r.Minor == 0:
		fields = append(fields, api.Pair{Name: connection, Value: "keep-alive"})
	}
	return fields
}

// areSame tells whether two requests are the same.
func areSame(a, b api.Request) bool {
	return a.Method == b.Method && a.Target == b.Target && a.Minor == b.Minor && slices.Equal(a.Fields, b.Fields) && a.Body == b.Body && a.Close == b.Close
}
