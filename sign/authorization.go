package sign

import (
	"slices"
	"strings"

	"storehouse/api"
	"storehouse/digest"
)

// What an authorization names ahead of what it tells.
const (
	ofCredential = "Credential="
	ofNames      = "SignedHeaders="
	ofSignature  = "Signature="
)

// sumSize is how many sixteenths a sum has.
const sumSize = 64

// authorization is what the field of that name tells, beside the region.
type authorization struct {
	id, day   string
	names     []string
	signature string
}

// tell is the field's value.
func (a authorization) tell(region string) string {
	return algorithm + " " + ofCredential + a.id + "/" + scope(a.day, region) +
		", " + ofNames + strings.Join(a.names, ";") + ", " + ofSignature + a.signature
}

// readAuthorization is what a field's value tells, if it is of the form. Nothing in it but what ends a piece may be a comma, nor in its credential a slash, so that it can be cut there.
func readAuthorization(value, region string) (authorization, error) {
	pieces := strings.Split(value, ",")
	if len(pieces) != 3 {
		return authorization{}, errForm
	}
	first, isOurs := strings.CutPrefix(pieces[0], algorithm+" ")
	credential, isFirst := behind(first, ofCredential)
	names, isSecond := behind(pieces[1], ofNames)
	signature, isThird := behind(pieces[2], ofSignature)
	if !isOurs || !isFirst || !isSecond || !isThird || !isSum(signature) {
		return authorization{}, errForm
	}
	parts := strings.Split(credential, "/")
	if len(parts) != 5 || !isMark(parts[0]) || !slices.Equal(parts[2:], []string{region, service, version}) {
		return authorization{}, errForm
	}
	return authorization{parts[0], parts[1], strings.Split(names, ";"), signature}, nil
}

// behind is what stands behind blanks, if there are any, and a name.
func behind(piece, name string) (string, bool) {
	return strings.CutPrefix(strings.TrimLeft(piece, " "), name)
}

// isSum tells whether a text is a sum in sixteenths.
func isSum(s string) bool {
	_, e, _ := digest.Unhex(s)
	return e == api.OK && len(s) == sumSize
}
