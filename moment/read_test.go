package moment_test

import (
	"math/rand"
	"slices"
	"strings"
	"testing"

	"storehouse/api"
	"storehouse/moment"
	"storehouse/samples"
)

// reads asks what a call reads of a text.
func reads(t *testing.T, read func(string) (int, api.Errno), s string, want int, wantError api.Errno) {
	t.Helper()
	if got, e := read(s); got != want || e != wantError {
		t.Fatalf("%q is read as %d, %d, not %d, %d", s, got, e, want, wantError)
	}
}

// readsRight asks that a text is read just if package time would tell just this of a moment, and as that one.
func (f form) readsRight(t *testing.T, s string) {
	t.Helper()
	if at, ok := f.moment(s); ok {
		reads(t, f.read, s, at, api.OK)
		return
	}
	reads(t, f.read, s, 0, api.ErrDate)
}

// P12.3: right texts.
func TestRead(t *testing.T) {
	for _, c := range []struct {
		at               int
		stamp, long, web string
	}{
		{0, "19700101T000000Z", "1970-01-01T00:00:00.000Z", "Thu, 01 Jan 1970 00:00:00 GMT"},
		{11045, "19700101T030405Z", "1970-01-01T03:04:05.000Z", "Thu, 01 Jan 1970 03:04:05 GMT"},
		{784111777, "19941106T084937Z", "1994-11-06T08:49:37.000Z", "Sun, 06 Nov 1994 08:49:37 GMT"},
		{951827696, "20000229T123456Z", "2000-02-29T12:34:56.000Z", "Tue, 29 Feb 2000 12:34:56 GMT"},
		{253402300799, "99991231T235959Z", "9999-12-31T23:59:59.000Z", "Fri, 31 Dec 9999 23:59:59 GMT"},
	} {
		reads(t, moment.ReadStamp, c.stamp, c.at, api.OK)
		reads(t, moment.ReadLong, c.long, c.at, api.OK)
		reads(t, moment.ReadWeb, c.web, c.at, api.OK)
	}
}

// P12.3: texts that no moment has: no such date or time, another form, another day of the week, more, less, nothing.
func TestReadRefuses(t *testing.T) {
	for _, s := range []string{
		"", "Z", "20130524", "20130524T000000", "20130524T000000z", "20130524t000000Z", "20130524 000000Z", "20130524T0000Z", "20130524T000000ZZ", " 20130524T000000Z", "20130524T000000Z ", "20130524T000000Z\x00", "20130524T000000Z\n",
		"20130024T000000Z", "20131324T000000Z", "20130500T000000Z", "20130532T000000Z", "20130431T000000Z", "20130229T000000Z", "20130230T000000Z", "21000229T000000Z",
		"20130524T240000Z", "20130524T006000Z", "20130524T000060Z", "20161231T235960Z", "99991231T240000Z", "99991231T235960Z", "99991231T999999Z",
		"19691231T235959Z", "00000101T000000Z", "00010101T000000Z", "10000101T000000Z", "-0010101T000000Z", "+2130524T000000Z", "2013+524T000000Z", "2013 524T000000Z", "201305-1T000000Z", "20130524T00:000Z", "2013052４T000Z", "2013-05-24T00:00:00.000Z", "Fri, 24 May 2013 00:00:00 GMT",
	} {
		reads(t, moment.ReadStamp, s, 0, api.ErrDate)
	}
	for _, s := range []string{
		"", "2013-05-24", "2013-05-24T00:00:00Z", "2013-05-24T00:00:00.000", "2013-05-24T00:00:00.001Z", "2013-05-24T00:00:00.100Z", "2013-05-24T00:00:00.00Z", "2013-05-24T00:00:00.0000Z", "2013-05-24T00:00:00,000Z", "2013-05-24T00:00:00.000z", "2013-05-24t00:00:00.000Z", "2013-05-24 00:00:00.000Z", "2013-05-24T00:00:00+00:0", "2013-05-24T00:00:00.000+00:00",
		"2013/05/24T00:00:00.000Z", "2013-05-24T00-00-00.000Z", "2013-5-24T00:00:00.000Z", "2013-00-24T00:00:00.000Z", "2013-13-24T00:00:00.000Z", "2013-05-00T00:00:00.000Z", "2013-05-32T00:00:00.000Z", "2013-02-29T00:00:00.000Z", "2100-02-29T00:00:00.000Z",
		"2013-05-24T24:00:00.000Z", "2013-05-24T00:60:00.000Z", "2013-05-24T00:00:60.000Z", "2016-12-31T23:59:60.000Z", "9999-12-31T24:00:00.000Z", "1969-12-31T23:59:59.000Z", "0000-01-01T00:00:00.000Z", " 2013-05-24T00:00:00.000Z", "2013-05-24T00:00:00.000Z ", "20130524T000000Z", "Fri, 24 May 2013 00:00:00 GMT",
	} {
		reads(t, moment.ReadLong, s, 0, api.ErrDate)
	}
	for _, s := range []string{
		"", "Fri", "Fri, 24 May 2013 00:00:00", "Fri, 24 May 2013 00:00:00 UTC", "Fri, 24 May 2013 00:00:00 gmt", "Fri, 24 May 2013 00:00:00 GMT ", " Fri, 24 May 2013 00:00:00 GMT", "Fri 24 May 2013 00:00:00 GMT", "Fri,  24 May 2013 00:00:00 GMT", "Fri, 24-May-2013 00:00:00 GMT", "Friday, 24-May-13 00:00:00 GMT", "Fri May 24 00:00:00 2013",
		"Thu, 24 May 2013 00:00:00 GMT", "fri, 24 May 2013 00:00:00 GMT", "FRI, 24 May 2013 00:00:00 GMT", "Fir, 24 May 2013 00:00:00 GMT", "   , 24 May 2013 00:00:00 GMT", "Fri, 24 may 2013 00:00:00 GMT", "Fri, 24 MAY 2013 00:00:00 GMT", "Fri, 24 Mai 2013 00:00:00 GMT", "Fri, 24 ayJ 2013 00:00:00 GMT", "Fri, 24 anF 2013 00:00:00 GMT", "Fri, 24     2013 00:00:00 GMT", "Fri, 24 005 2013 00:00:00 GMT", "Fri, 24 05 2013 00:00:00 GMT",
		"Fri, 00 May 2013 00:00:00 GMT", "Sat, 32 May 2013 00:00:00 GMT", "Fri, 29 Feb 2013 00:00:00 GMT", "Mon, 29 Feb 2100 00:00:00 GMT", "Fri,  1 May 2026 00:00:00 GMT", "Fri, 1 May 2026 00:00:00 GMT", "Fri, 24 May 2013 24:00:00 GMT", "Fri, 24 May 2013 00:60:00 GMT", "Fri, 24 May 2013 00:00:60 GMT", "Fri, 31 Dec 9999 24:00:00 GMT", "Wed, 31 Dec 1969 23:59:59 GMT", "Sat, 01 Jan 0000 00:00:00 GMT", "20130524T000000Z", "2013-05-24T00:00:00.000Z",
	} {
		reads(t, moment.ReadWeb, s, 0, api.ErrDate)
	}
}

// P12.3: of right texts each place with each byte there is; each place left out, told twice, or with its neighbour ahead; nothing but a beginning, or an end.
func TestReadOfNearlyRight(t *testing.T) {
	for _, f := range forms() {
		for _, at := range []int{0, 11045, 784111777, 951827696, 1369353600, 1709164800, api.MaxTime} {
			s := f.told(at)
			for i := range len(s) {
				for c := range 256 {
					f.readsRight(t, s[:i]+string([]byte{byte(c)})+s[i+1:])
				}
				f.readsRight(t, s[:i]+s[i+1:])
				f.readsRight(t, s[:i]+s[i:i+1]+s[i:])
				f.readsRight(t, s[:i])
				f.readsRight(t, s[i:])
				if i > 0 {
					f.readsRight(t, s[:i-1]+s[i:i+1]+s[i-1:i]+s[i+1:])
				}
			}
		}
	}
}

// P12.3: each number of two digits in each place that has two.
func TestReadOfEachNumber(t *testing.T) {
	for _, f := range forms() {
		for _, at := range []int{11045, 951827696, 1369353600, api.MaxTime} {
			s := f.told(at)
			for i := 1; i < len(s); i++ {
				if !isDigit(s[i-1]) || !isDigit(s[i]) {
					continue
				}
				for n := range 100 {
					f.readsRight(t, s[:i-1]+string([]byte{'0' + byte(n/10), '0' + byte(n%10)})+s[i+1:])
				}
			}
		}
	}
}

// isDigit tells whether a byte is one.
func isDigit(c byte) bool { return '0' <= c && c <= '9' }

// P12.3: of all days of the week and all months, with a date, just those that are right.
func TestReadOfEachName(t *testing.T) {
	web, right := forms()[2], 0
	for _, day := range []string{"Sun", "Mon", "Tue", "Wed", "Thu", "Fri", "Sat"} {
		for _, month := range []string{"Jan", "Feb", "Mar", "Apr", "May", "Jun", "Jul", "Aug", "Sep", "Oct", "Nov", "Dec"} {
			for _, number := range []string{"00", "01", "28", "29", "30", "31", "32"} {
				s := day + ", " + number + " " + month + " 2024 12:00:00 GMT"
				web.readsRight(t, s)
				if _, e := moment.ReadWeb(s); e == api.OK {
					right++
				}
			}
		}
	}
	if right != 12+12+12+11+7 {
		t.Error("dates of 2024 that have one day of the week:", right)
	}
}

// P12.3: texts of any bytes, and of the bytes of dates, are read as they would be told, or refused.
func TestReadOfAny(t *testing.T) {
	r := rand.New(rand.NewSource(13))
	for _, f := range forms() {
		for s := range samples.Every("0T-Z", 6) {
			f.readsRight(t, s)
		}
		for range 20000 {
			s := []byte(f.told(r.Intn(api.MaxTime + 1)))
			for range 1 + r.Intn(4) {
				s[r.Intn(len(s))] = f.layout[r.Intn(len(f.layout))]
			}
			f.readsRight(t, string(s))
			r.Read(s)
			f.readsRight(t, string(s))
		}
		f.readsRight(t, strings.Repeat(f.told(0), 2))
		if all := []int{len(f.layout), len(f.told(0)), len(f.told(api.MaxTime))}; slices.Min(all) != slices.Max(all) {
			t.Error(f.name, all)
		}
	}
}
