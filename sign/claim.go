package sign

import (
	"slices"
	"strings"

	"storehouse/api"
	"storehouse/moment"
	"storehouse/wire"
)

// claim is what a request says of who sent it, and when.
type claim struct {
	authorization
	stamp     string
	at        int // the stamp's moment
	sum       string
	canonical string
}

// sender is who sent a request; the first thing that is wrong stops it.
func sender(r api.Request, users []api.User, now int, region string) (api.User, error) {
	if _, e := moment.Stamp(now); e != api.OK {
		return api.User{}, wrong(api.ErrArg, e)
	}
	if many(r.Fields, authField) == 0 {
		return api.User{}, wrong(api.AccessDenied, errField)
	}
	c, err := claimOf(r, region)
	if err != nil {
		return api.User{}, wrong(api.BadAuth, err)
	}
	i := slices.IndexFunc(users, func(u api.User) bool { return u.ID == c.id })
	switch {
	case i < 0:
		return api.User{}, wrong(api.NoAccessKey, nil)
	case c.at < now-api.Skew || c.at > now+api.Skew:
		return api.User{}, wrong(api.TimeSkewed, nil)
	case c.signature != signature(users[i].Secret, c.stamp, region, c.canonical):
		return api.User{}, wrong(api.BadSignature, nil)
	case c.sum != unsigned && c.sum != sumOf(r.Body):
		return api.User{}, wrong(api.BadDigest, nil)
	}
	return copiedUser(users[i]), nil
}

// claimOf is what a request says, if all of it can be read.
func claimOf(r api.Request, region string) (claim, error) {
	value, ok := wire.Field(r.Fields, authField)
	if !ok {
		return claim{}, errField
	}
	a, err := readAuthorization(value, region)
	if err != nil {
		return claim{}, err
	}
	text, err := canonical(r, a.names)
	if err != nil {
		return claim{}, err
	}
	if !slices.Contains(a.names, hostField) || !slices.Contains(a.names, dateField) {
		return claim{}, errNames
	}
	stamp, _ := wire.Field(r.Fields, dateField)
	at, e := moment.ReadStamp(stamp)
	if e != api.OK {
		return claim{}, e
	}
	if dayOf(stamp) != a.day { // so that the day is eight digits, too
		return claim{}, errDay
	}
	sum, _ := wire.Field(r.Fields, sumField)
	return claim{a, stamp, at, sum, text}, nil
}

// copiedUser is a user who shares no memory with the one who is handed in.
func copiedUser(u api.User) api.User {
	return api.User{Name: strings.Clone(u.Name), ID: strings.Clone(u.ID), Secret: strings.Clone(u.Secret)}
}
