package wire

import (
	"strconv"
	"strings"

	"storehouse/api"
)

// maxSixteenths is with how many sixteenths a chunk's length is told at most.
const maxSixteenths = 4

// firstLine is the request whose first line this is: its Method, Target and Minor.
func firstLine(line string) (api.Request, api.Errno) {
	method, rest, _ := strings.Cut(line, " ")
	target, version, _ := strings.Cut(rest, " ")
	if !isRow(method, isCapital) || !isRow(target, isOfTarget) || !isVersion(version) {
		return api.Request{}, api.BadLine
	}
	if !isKnown(method) {
		return api.Request{}, api.NoMethod
	}
	if version != "HTTP/1.0" && version != "HTTP/1.1" {
		return api.Request{}, api.BadVersion
	}
	request := api.Request{Method: method, Target: target}
	if version == "HTTP/1.1" {
		request.Minor = 1
	}
	return request, api.OK
}

// isVersion tells whether a text has a version's form.
func isVersion(s string) bool {
	digits, found := strings.CutPrefix(s, "HTTP/")
	return found && len(digits) == 3 && isDigit(digits[0]) && digits[1] == '.' && isDigit(digits[2])
}

func isKnown(method string) bool {
	switch method {
	case "GET", "HEAD", "PUT", "POST", "DELETE":
		return true
	}
	return false
}

// fieldOf is the field that a line tells, if it is one.
func fieldOf(line string) (api.Pair, bool) {
	name, value, found := strings.Cut(line, ":")
	if !found || !isName(name) || !areAll(value, isRead) {
		return api.Pair{}, false
	}
	return api.Pair{Name: small(name), Value: strings.Trim(value, blanks)}, true
}

// isName tells whether a text may be a field's name.
func isName(s string) bool { return isRow(s, isOfName) }

// chunkSize is how many bytes a chunk has by its line, if that is one.
func chunkSize(line string) (int, bool) {
	size, rest, _ := strings.Cut(line, ";")
	if !isRow(size, isSixteenth) || len(size) > maxSixteenths || !areAll(rest, isRead) {
		return 0, false
	}
	n, err := strconv.ParseInt(size, 16, 64)
	return int(n), err == nil
}
