package wire

import (
	"slices"
	"strconv"

	"storehouse/api"
)

// The fields that tell how the bytes of a body come, and whether the connection goes on.
const (
	byLength   = "content-length"
	byCoding   = "transfer-encoding"
	connection = "connection"
)

// maxLengthDigits is how many digits a content-length has at most.
const maxLengthDigits = 10

// isOfLayer tells whether a field is one that only this layer writes.
func isOfLayer(field api.Pair) bool {
	return alike(field.Name, byLength) || alike(field.Name, byCoding) || alike(field.Name, connection)
}

// values are those of the fields of a name.
func values(l []api.Pair, name string) []string {
	var found []string
	for _, p := range l {
		if alike(p.Name, name) {
			found = append(found, p.Value)
		}
	}
	return found
}

// bodyOf is how a request's body comes, by its head: so many bytes, or in chunks; or what is wrong with that, or with the host.
func bodyOf(request api.Request) (size int, inChunks bool, e api.Errno) {
	hosts, codings, lengths := len(values(request.Fields, "host")), values(request.Fields, byCoding), values(request.Fields, byLength)
	if hosts > 1 || hosts == 0 && request.Minor == 1 {
		return 0, false, api.NoHost
	}
	if len(codings) > 0 && (len(codings) > 1 || request.Minor == 0 || !alike(codings[0], "chunked")) {
		return 0, false, api.NoCoding
	}
	if len(lengths) == 0 {
		return 0, len(codings) > 0, api.OK
	}
	if len(codings) > 0 || len(lengths) > 1 || !isRow(lengths[0], isDigit) || len(lengths[0]) > maxLengthDigits {
		return 0, false, api.BadLength
	}
	n, err := strconv.ParseInt(lengths[0], 10, 64)
	if err != nil || n > api.MaxBody {
		return 0, false, api.BodyLong
	}
	return int(n), false, api.OK
}

// closes tells whether the connection ends behind a request.
func closes(request api.Request) bool {
	has := func(want string) bool {
		return slices.ContainsFunc(values(request.Fields, connection), func(value string) bool { return alike(value, want) })
	}
	if request.Minor == 0 {
		return !has("keep-alive")
	}
	return has("close")
}
