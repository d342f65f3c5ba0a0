package moment

import "storehouse/api"

// In a form small letters stand for what a moment shows: y its year, m its month, d its day, h, i and s its hour, minute and second, w and n the names of its day and its month. Each other byte stands for itself, so none of these is a small letter.
const (
	stampForm = "yyyymmddThhiissZ"
	longForm  = "yyyy-mm-ddThh:ii:ss.000Z"
	webForm   = "www, dd nnn yyyy hh:ii:ss GMT"
)

// Names, from Sunday and from January on.
const (
	dayNames   = "SunMonTueWedThuFriSat"
	monthNames = "JanFebMarAprMayJunJulAugSepOctNovDec"
	nameSize   = 3
)

// firstWeekday is the day of the week of the moment 0, a Thursday.
const firstWeekday = 4

// face is what a moment shows: its date, and the moment itself, of which the time of day and the day of the week are reckoned.
type face struct{ year, month, day, moment int }

// tell is a moment in a form; ErrArg, if it is none.
func tell(form string, t int) (string, api.Errno) {
	year, month, day, e := Date(t)
	if e != api.OK {
		return "", e
	}
	shown := face{year, month, day, t}
	text := make([]byte, 0, len(form))
	for len(text) < len(form) {
		text = append(text, shown.field(form[len(text):])...)
	}
	return string(text), api.OK
}

// field is what a form begins with, told: a letter as often as it stands there, or a byte that stands for itself.
func (f face) field(form string) string {
	switch form[0] {
	case 'y':
		return digits(f.year, 4)
	case 'm':
		return digits(f.month, 2)
	case 'd':
		return digits(f.day, 2)
	case 'h':
		return digits(f.moment/3600%24, 2)
	case 'i':
		return digits(f.moment/60%60, 2)
	case 's':
		return digits(f.moment%60, 2)
	case 'w':
		return name(dayNames, (f.moment/api.Day+firstWeekday)%7)
	case 'n':
		return name(monthNames, f.month-1)
	}
	return form[:1]
}

// digits is a number as so many digits, with noughts ahead.
func digits(number, many int) string {
	text := make([]byte, many)
	for i := many - 1; i >= 0; i-- {
		text[i] = '0' + byte(number%10)
		number /= 10
	}
	return string(text)
}

// name is the one at an index, from 0 on.
func name(names string, index int) string {
	return names[index*nameSize:][:nameSize]
}
