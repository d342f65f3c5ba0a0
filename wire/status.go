package wire

import "storehouse/api"

// Status is an error's status.
func Status(e api.Errno) int {
	switch e {
	case api.OK:
		return 200
	case api.BadLine, api.BadField, api.BadLength, api.BadChunk, api.NoHost,
		api.BadAuth, api.BadDigest, api.BadBucketName, api.KeyLong, api.BadPart, api.BadPartOrder, api.PartSmall,
		api.MalformedXml, api.MalformedPolicy, api.BadArgument, api.TooMany:
		return 400
	case api.AccessDenied, api.NoAccessKey, api.BadSignature, api.TimeSkewed:
		return 403
	case api.NoBucket, api.NoKey, api.NoVersion, api.NoUpload, api.NoPolicy, api.NoLifecycle:
		return 404
	case api.NotAllowed:
		return 405
	case api.BucketExists, api.BucketNotEmpty:
		return 409
	case api.BodyLong:
		return 413
	case api.TargetLong:
		return 414
	case api.BadRange:
		return 416
	case api.FieldsLong:
		return 431
	case api.NoMethod, api.NoCoding, api.NotImplemented:
		return 501
	case api.Unavailable:
		return 503
	case api.BadVersion:
		return 505
	case api.NoSpace:
		return 507
	}
	return 500
}

// Reason is a status' words.
func Reason(status int) string {
	switch status {
	case 200:
		return "OK"
	case noContent:
		return "No Content"
	case 206:
		return "Partial Content"
	case 400:
		return "Bad Request"
	case 403:
		return "Forbidden"
	case 404:
		return "Not Found"
	case 405:
		return "Method Not Allowed"
	case 409:
		return "Conflict"
	case 411:
		return "Length Required"
	case 413:
		return "Content Too Large"
	case 414:
		return "URI Too Long"
	case 416:
		return "Range Not Satisfiable"
	case 431:
		return "Request Header Fields Too Large"
	case 500:
		return "Internal Server Error"
	case 501:
		return "Not Implemented"
	case 503:
		return "Service Unavailable"
	case 505:
		return "HTTP Version Not Supported"
	case 507:
		return "Insufficient Storage"
	}
	return ""
}
