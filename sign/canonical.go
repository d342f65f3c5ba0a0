package sign

import (
	"strings"

	"storehouse/api"
	"storehouse/uri"
	"storehouse/wire"
)

// canonical is a request as it is signed, with the fields of some names; else ErrArg.
func canonical(r api.Request, names []string) (string, error) {
	path, query, e, at := uri.Target(r.Target)
	if e != api.OK {
		return "", wrong(api.ErrArg, &api.Fault{Code: e, At: at})
	}
	if !areNames(names) {
		return "", wrong(api.ErrArg, errNames)
	}
	lines := []string{r.Method, uri.Encode(path, false), uri.Canon(query)}
	for _, name := range names {
		value, ok := wire.Field(r.Fields, name)
		if !ok {
			return "", wrong(api.ErrArg, errField)
		}
		lines = append(lines, name+":"+squeezed(value))
	}
	sum, ok := wire.Field(r.Fields, sumField)
	if !ok {
		return "", wrong(api.ErrArg, errField)
	}
	return strings.Join(append(lines, "", strings.Join(names, ";"), sum), "\n"), nil
}

// areNames tells whether there are names, all in small letters, and rising.
func areNames(names []string) bool {
	for i, name := range names {
		if !isName(name) || i > 0 && names[i-1] >= name {
			return false
		}
	}
	return len(names) > 0
}

// squeezed is a value in which each row of blanks and tabs is one blank, and those at its ends are gone.
func squeezed(value string) string {
	words := strings.FieldsFunc(value, func(c rune) bool { return c == ' ' || c == '\t' })
	return strings.Join(words, " ")
}
