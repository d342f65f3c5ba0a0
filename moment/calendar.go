package moment

import "sort"

// The years that moments lie in.
const (
	firstYear = 1970
	lastYear  = 9999
)

const february = 2

// isLeap tells whether a year has a day more.
func isLeap(year int) bool {
	return year%4 == 0 && (year%100 != 0 || year%400 == 0)
}

// daysIn is how many days a month has; 0, if it is none.
func daysIn(year, month int) int {
	days := 0
	switch month {
	case 1, 3, 5, 7, 8, 10, 12:
		days++
		fallthrough
	case 4, 6, 9, 11:
		days += 2
		fallthrough
	case february:
		days += 28
	}
	if month == february && isLeap(year) {
		days++
	}
	return days
}

// leapsAhead is how many of the years from 1 on, ahead of this one, are leap years.
func leapsAhead(year int) int {
	last := year - 1
	return last/4 - last/100 + last/400
}

// daysToYear is how many days stand ahead of a year, from the moment 0 on.
func daysToYear(year int) int {
	return 365*(year-firstYear) + leapsAhead(year) - leapsAhead(firstYear)
}

// daysTo is how many days stand ahead of a day, from the moment 0 on.
func daysTo(year, month, day int) int {
	days := daysToYear(year) + day - 1
	for ahead := 1; ahead < month; ahead++ {
		days += daysIn(year, ahead)
	}
	return days
}

// dateOf is the year, the month and the day ahead of which so many days stand.
func dateOf(days int) (int, int, int) {
	year := firstYear + sort.Search(lastYear-firstYear, func(years int) bool {
		return daysToYear(firstYear+years+1) > days
	})
	month, rest := 1, days-daysToYear(year)
	for rest >= daysIn(year, month) {
		rest -= daysIn(year, month)
		month++
	}
	return year, month, rest + 1
}
