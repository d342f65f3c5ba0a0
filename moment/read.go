package moment

import (
	"strings"

	"storehouse/api"
)

// read is the moment that a form tells as just s. The numbers are taken from s as if it were right: what is wrong with it shows when the moment that they make is told again.
func read(form, s string) (int, api.Errno) {
	if len(s) != len(form) {
		return 0, api.ErrDate
	}
	day, e := From(numberOf(form, s, 'y'), monthOf(form, s), numberOf(form, s, 'd'))
	if e != api.OK {
		return 0, api.ErrDate
	}
	t := day + numberOf(form, s, 'h')*3600 + numberOf(form, s, 'i')*60 + numberOf(form, s, 's')
	if told, _ := tell(form, t); told != s {
		return 0, api.ErrDate
	}
	return t, api.OK
}

// numberOf is what s tells, as digits, where a form has this letter.
func numberOf(form, s string, letter byte) int {
	number := 0
	for i := range len(form) {
		if form[i] == letter {
			number = number*10 + int(s[i]-'0')
		}
	}
	return number
}

// monthOf is the month that s tells, by its number or by its name; 0, if no month has that name.
func monthOf(form, s string) int {
	at := strings.IndexByte(form, 'n')
	if at < 0 {
		return numberOf(form, s, 'm')
	}
	for i := range 12 {
		if name(monthNames, i) == s[at:at+nameSize] {
			return i + 1
		}
	}
	return 0
}
