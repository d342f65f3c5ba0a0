package sign

import (
	"strings"

	"storehouse/api"
	"storehouse/digest"
	"storehouse/moment"
)

// What a signature is made by, and what it is bound to beside a day and a region.
const (
	algorithm = "AWS4-HMAC-SHA256"
	service   = "s3"
	version   = "aws4_request"
)

// daySize is how many bytes of a stamp tell its day.
const daySize = len("20130524")

// dayOf is a stamp's day; all of what is shorter than a day.
func dayOf(stamp string) string { return stamp[:min(len(stamp), daySize)] }

// scope is what a signature is bound to.
func scope(day, region string) string {
	return strings.Join([]string{day, region, service, version}, "/")
}

// signature is that of a canonical request by one who has a secret.
func signature(secret, stamp, region, canonical string) string {
	return digest.Hex(digest.MAC(Key(secret, dayOf(stamp), region), Text(stamp, region, canonical)))
}

// sumOf is a body's sum, as a request tells it.
func sumOf(body string) string { return digest.Hex(digest.Sum256(body)) }

// signed is a request with the fields that show who sent it; else ErrArg.
func signed(r api.Request, u api.User, now int, region string) (api.Request, error) {
	stamp, e := moment.Stamp(now)
	if e != api.OK {
		return api.Request{}, wrong(api.ErrArg, e)
	}
	if many(r.Fields, authField) > 0 {
		return api.Request{}, wrong(api.ErrArg, errField)
	}
	if !isMark(u.ID) || !isMark(region) {
		return api.Request{}, wrong(api.ErrArg, errForm)
	}
	request := copied(r)
	request.Fields = append(request.Fields, api.Pair{Name: dateField, Value: stamp}, api.Pair{Name: sumField, Value: sumOf(r.Body)})
	names := []string{hostField, sumField, dateField}
	text, err := canonical(request, names) // none, if the request had one of these fields, or not just one host
	if err != nil {
		return api.Request{}, err
	}
	a := authorization{u.ID, dayOf(stamp), names, signature(u.Secret, stamp, region, text)}
	request.Fields = append(request.Fields, api.Pair{Name: authField, Value: a.tell(region)})
	return request, nil
}
