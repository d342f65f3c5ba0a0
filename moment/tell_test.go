package moment_test

import (
	"testing"

	"storehouse/api"
	"storehouse/moment"
)

// tells asks what a call answers of a moment.
func tells(t *testing.T, tell func(int) (string, api.Errno), at int, want string, wantError api.Errno) {
	t.Helper()
	if got, e := tell(at); got != want || e != wantError {
		t.Fatalf("%d is told as %q, %d, not %q, %d", at, got, e, want, wantError)
	}
}

// P12.2: moments with one digit in each place, and with two; the first one and the last.
func TestTold(t *testing.T) {
	for _, c := range []struct {
		at               int
		stamp, long, web string
	}{
		{0, "19700101T000000Z", "1970-01-01T00:00:00.000Z", "Thu, 01 Jan 1970 00:00:00 GMT"},
		{1, "19700101T000001Z", "1970-01-01T00:00:01.000Z", "Thu, 01 Jan 1970 00:00:01 GMT"},
		{11045, "19700101T030405Z", "1970-01-01T03:04:05.000Z", "Thu, 01 Jan 1970 03:04:05 GMT"},
		{86399, "19700101T235959Z", "1970-01-01T23:59:59.000Z", "Thu, 01 Jan 1970 23:59:59 GMT"},
		{86400, "19700102T000000Z", "1970-01-02T00:00:00.000Z", "Fri, 02 Jan 1970 00:00:00 GMT"},
		{784111777, "19941106T084937Z", "1994-11-06T08:49:37.000Z", "Sun, 06 Nov 1994 08:49:37 GMT"},
		{951827696, "20000229T123456Z", "2000-02-29T12:34:56.000Z", "Tue, 29 Feb 2000 12:34:56 GMT"},
		{4107542399, "21000228T235959Z", "2100-02-28T23:59:59.000Z", "Sun, 28 Feb 2100 23:59:59 GMT"},
		{4107542400, "21000301T000000Z", "2100-03-01T00:00:00.000Z", "Mon, 01 Mar 2100 00:00:00 GMT"},
		{253402300799, "99991231T235959Z", "9999-12-31T23:59:59.000Z", "Fri, 31 Dec 9999 23:59:59 GMT"},
	} {
		tells(t, moment.Stamp, c.at, c.stamp, api.OK)
		tells(t, moment.Long, c.at, c.long, api.OK)
		tells(t, moment.Web, c.at, c.web, api.OK)
	}
}

// P12.2: each day of the week and each month by its name.
func TestNames(t *testing.T) {
	for day, name := range []string{"Thu", "Fri", "Sat", "Sun", "Mon", "Tue", "Wed"} {
		for week := range 400 {
			if web, e := moment.Web((7*week + day) * 86400); web[:5] != name+", " || e != api.OK {
				t.Fatalf("%s: %q, %d", name, web, e)
			}
		}
	}
	for i, name := range []string{"Jan", "Feb", "Mar", "Apr", "May", "Jun", "Jul", "Aug", "Sep", "Oct", "Nov", "Dec"} {
		begin, _ := moment.From(2026, i+1, 20)
		if web, e := moment.Web(begin); web[4:] != " 20 "+name+" 2026 00:00:00 GMT" || e != api.OK {
			t.Errorf("%s: %q, %d", name, web, e)
		}
	}
}

// P12.2: as package time tells it, of many moments, and of each second of a day.
func TestToldAsElsewhere(t *testing.T) {
	all := someMoments()
	for second := range 86400 {
		all = append(all, 1795132800+second)
	}
	for _, f := range forms() {
		for _, at := range all {
			tells(t, f.tell, at, f.told(at), api.OK)
		}
	}
}

// P12.2: what is no moment is not told.
func TestNoMomentIsTold(t *testing.T) {
	for _, f := range forms() {
		for _, at := range noMoments() {
			tells(t, f.tell, at, "", api.ErrArg)
		}
	}
}
