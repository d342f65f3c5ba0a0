package sign_test

import (
	"fmt"
	"math/rand"
	"slices"
	"strings"
	"testing"

	"storehouse/api"
	"storehouse/sign"
)

// P17.4: what is wrong alone is told, each way of each step; a story of which nothing is spoilt ends with its user.
func TestCheckEachStep(t *testing.T) {
	s := fair()
	s.ends(t, "nothing", api.OK)
	if u, e := sign.Check(s.sent(), s.users, s.now, s.asked); u != (api.User{Name: "ann", ID: "A", Secret: "s"}) || e != api.OK {
		t.Error(u, e)
	}
	for _, step := range steps() {
		for i, way := range step.ways {
			spoilt(way).ends(t, fmt.Sprint(i), step.e)
		}
	}
}

// P17.4: of several things that are wrong the first one is told: all choices of steps, each way of each of them.
func TestCheckOrder(t *testing.T) {
	all := steps()
	for mask := 1; mask < 1<<len(all); mask++ {
		var chosen []step
		most := 0
		for i, step := range all {
			if mask>>i&1 > 0 {
				chosen = append(chosen, step)
				most = max(most, len(step.ways))
			}
		}
		for n := range most {
			s := fair()
			for _, step := range slices.Backward(chosen) {
				step.ways[n%len(step.ways)](s)
			}
			s.ends(t, fmt.Sprintf("steps %b, %d", mask, n), chosen[0].e)
		}
	}
}

// P17.4: what the form leaves open: how many blanks there are, which fields are signed, what region is asked.
func TestCheckForm(t *testing.T) {
	for _, ahead := range []string{"", " ", "          "} {
		for _, behind := range []string{"", " ", "     "} {
			s := fair()
			s.edit = func(shown string) string {
				shown = strings.Replace(shown, "SHA256 ", "SHA256 "+ahead, 1)
				shown = strings.Replace(shown, ", Signed", ","+ahead+"Signed", 1)
				return strings.Replace(shown, ", Signature", ","+behind+"Signature", 1)
			}
			s.ends(t, "blanks", api.OK)
		}
	}
	for _, names := range []string{"host;x-amz-date", "a;host;x-amz-date", "host;x-amz-content-sha256;x-amz-date", "a;b;host;x-amz-content-sha256;x-amz-date"} {
		spoilt(signsNames(names)).ends(t, names, api.OK)
	}
	spoilt(adds("z-_0", "v"), signsNames("host;x-amz-date;z-_0")).ends(t, "another name", api.OK)
	spoilt(signsNames("authorization;host;x-amz-date")).ends(t, "its own name", api.BadSignature)
	for _, region := range []string{"", "us-east-1", "=", "a=b", " ", "a b", "\x00\xff", "\n", "s3", ";", "Signature="} {
		s := fair()
		s.region, s.asked = region, region
		s.ends(t, region, api.OK)
		s.asked += "x"
		s.ends(t, region, api.BadAuth)
	}
	for _, region := range []string{"/", "a/", "/a", "a/b", "r/s3", "20130524/r", ",", "a,", ",a", "a,b", ", "} {
		s := fair()
		s.region, s.asked = region, region
		s.ends(t, region, api.BadAuth)
	}
	for _, region := range []string{"R", "r ", " r", "rr", "", "r/s3"} {
		s := fair()
		s.asked = region
		s.ends(t, region, api.BadAuth)
	}
}

// P17.4: of an ID each byte may be one from 33 to 126, but none of `/`, `,` and `=`.
func TestCheckIDs(t *testing.T) {
	for c := range 256 {
		one := string([]byte{byte(c)})
		want := api.BadAuth
		if c > ' ' && c < 127 && c != '/' && c != ',' && c != '=' {
			want = api.OK
		}
		for _, id := range []string{one, one + "x", "x" + one, "x" + one + "y"} {
			s := fair()
			s.id, s.users = id, []api.User{{ID: id, Secret: "s"}}
			s.ends(t, id, want)
		}
	}
}

// P17.4: whatever stands at any place of a request's texts: any byte in the place of that one, ahead of it, or none.
func TestCheckAnyByte(t *testing.T) {
	for i, p := range fair().sent().Fields {
		for at := range len(p.Value) + 1 {
			for c := range 256 {
				s := fair()
				r := s.sent()
				value := p.Value[:at] + string([]byte{byte(c)}) + p.Value[min(at+1, len(p.Value)):]
				r.Fields[i].Value = value
				checks(t, r, s.users, s.now, s.asked)
				if strings.IndexByte(" \t\n,;/=0aAZ\x00\xff", byte(c)) < 0 {
					continue
				}
				r.Fields[i].Value = p.Value[:at] + value[at:at+1] + p.Value[at:]
				checks(t, r, s.users, s.now, s.asked)
				r.Fields[i].Value = p.Value[:at] + p.Value[min(at+1+c%3, len(p.Value)):]
				checks(t, r, s.users, s.now, s.asked)
			}
		}
	}
}

// P17.4: all that is cut off from an authorization, ahead and behind.
func TestCheckCutOff(t *testing.T) {
	s := fair()
	shown := s.shown()
	for at := range len(shown) {
		for _, part := range []string{shown[:at], shown[at+1:]} {
			s.edit = func(string) string { return part }
			s.ends(t, part, api.BadAuth)
		}
	}
}

// P17.4: the clock may be off 900 seconds, ahead or behind, and no more; at the ends of time, too.
func TestCheckClock(t *testing.T) {
	for _, at := range []int{0, 1, 899, 900, 901, 86399, 86400, knownAt, api.MaxTime - 901, api.MaxTime - 900, api.MaxTime - 1, api.MaxTime} {
		s := spoilt(dates(stampOf(at)))
		for off := -1000; off <= 1000; off++ {
			s.now = at + off
			want := api.OK
			if s.now < 0 || s.now > api.MaxTime {
				want = api.ErrArg
			} else if off < -900 || off > 900 {
				want = api.TimeSkewed
			}
			s.ends(t, fmt.Sprint(at, off), want)
		}
	}
	for _, off := range []int{86400, -86400, 1 << 32, 365 * 86400} {
		s := fair()
		s.now += off
		s.ends(t, fmt.Sprint(off), api.TimeSkewed)
	}
}

// P17.4: the day is that of the request's own clock, though it be another one where it is read.
func TestCheckMidnight(t *testing.T) {
	s := spoilt(dates("20130524T235959Z"))
	s.now = knownAt + 86400 + 800
	s.ends(t, "the day ahead", api.OK)
	s.day = "20130525"
	s.ends(t, "the day behind", api.BadAuth)
	s = spoilt(dates("20130525T000000Z"))
	s.now = knownAt + 86400 - 900
	s.ends(t, "the day behind", api.OK)
}

// P17.4: of several users with the ID the first counts; one with another ID, a name or a secret alike is nobody.
func TestCheckUsers(t *testing.T) {
	ann, other := api.User{Name: "ann", ID: "A", Secret: "s"}, api.User{Name: "other", ID: "A", Secret: "t"}
	for _, c := range []struct {
		users []api.User
		want  api.Errno
	}{
		{[]api.User{ann}, api.OK},
		{[]api.User{ann, other}, api.OK},
		{[]api.User{other, ann}, api.BadSignature},
		{[]api.User{{Name: "first", ID: "A", Secret: "s"}, ann}, api.OK},
		{[]api.User{{Name: "A", ID: "a", Secret: "s"}, {Name: "A", Secret: "A"}, {}, ann}, api.OK},
		{[]api.User{{Name: "A", ID: "a", Secret: "s"}, {Name: "A", Secret: "A"}, {}}, api.NoAccessKey},
		{[]api.User{}, api.NoAccessKey},
	} {
		s := fair()
		s.users = c.users
		s.ends(t, fmt.Sprint(c.users), c.want)
	}
	s := fair()
	s.users = []api.User{{ID: "A", Secret: "s"}}
	s.ends(t, "no name", api.OK)
}

// P17.4: the body's sum is told in small sixteenths, or not told; both are signed.
func TestCheckBodies(t *testing.T) {
	for _, body := range []string{"", "abc", "\x00", strings.Repeat("x", 8000)} {
		s := spoilt(sets("x-amz-content-sha256", sum(body)))
		s.Body = body
		s.ends(t, "its sum", api.OK)
		s.set("x-amz-content-sha256", "UNSIGNED-PAYLOAD")
		s.ends(t, "no sum", api.OK)
		r := s.sent()
		r.Body += "x"
		isChecked(t, "another body, no sum", r, s.users, s.now, s.asked, api.OK)
		r.Fields[3].Value = sum(r.Body)
		isChecked(t, "a sum in the place of none", r, s.users, s.now, s.asked, api.BadSignature)
	}
	for _, told := range []string{"UNSIGNED-PAYLOAD ", " UNSIGNED-PAYLOAD", "Unsigned-Payload", "UNSIGNED", "STREAMING-UNSIGNED-PAYLOAD-TRAILER", sum("abc") + " ", " " + sum("abc"), sum("abc")[:63], emptySum, "abc"} {
		for _, names := range []string{"host;x-amz-date", "host;x-amz-content-sha256;x-amz-date"} {
			spoilt(sets("x-amz-content-sha256", told), signsNames(names)).ends(t, told, api.BadDigest)
		}
	}
}

// P17.4: what is signed is all that Canonical tells, and nothing else.
func TestCheckWhatIsSigned(t *testing.T) {
	s := fair()
	for what, spoil := range map[string]func(r *api.Request){
		"method": func(r *api.Request) { r.Method = "GET" },
		"path":   func(r *api.Request) { r.Target = "/b/K?a=1" },
		"query":  func(r *api.Request) { r.Target = "/b/k?a=2" },
		"more":   func(r *api.Request) { r.Target = "/b/k?a=1&b" },
		"host":   func(r *api.Request) { r.Fields[0].Value = "i" },
		"a":      func(r *api.Request) { r.Fields[1].Value = "2" },
		"date":   func(r *api.Request) { r.Fields[2].Value = "20130524T000001Z" },
		"sum":    func(r *api.Request) { r.Fields[3].Value = "UNSIGNED-PAYLOAD" },
	} {
		r := s.sent()
		spoil(&r)
		isChecked(t, what, r, s.users, s.now, s.asked, api.BadSignature)
	}
	for what, change := range map[string]func(r *api.Request){
		"escapes": func(r *api.Request) { r.Target = "/%62%2fk?%61=%31&" },
		"blanks":  func(r *api.Request) { r.Fields[1].Value = " \t1 " },
		"letters": func(r *api.Request) {
			r.Fields[0].Name, r.Fields[2].Name, r.Fields[5].Name = "Host", "X-Amz-Date", "Authorization"
		},
		"others":  func(r *api.Request) { r.Fields[4].Value = "3" },
		"more":    func(r *api.Request) { r.Fields = append(r.Fields, pairs("b", "4", "c", "5", "", "6")...) },
		"turned":  func(r *api.Request) { slices.Reverse(r.Fields) },
		"version": func(r *api.Request) { r.Minor, r.Close = 0, true },
	} {
		r := s.sent()
		change(&r)
		isChecked(t, what, r, s.users, s.now, s.asked, api.OK)
	}
}

// P17.4: stories that are spoilt in any ways, of which some undo one another: what the model tells.
func TestCheckAnyStory(t *testing.T) {
	r := rand.New(rand.NewSource(17))
	all := steps()
	told := map[api.Errno]int{}
	for range 30000 {
		s := fair()
		for range r.Intn(4) {
			step := all[r.Intn(len(all))]
			step.ways[r.Intn(len(step.ways))](s)
		}
		told[checks(t, s.sent(), s.users, s.now, s.asked)]++
	}
	for _, step := range append(all, step{e: api.OK}) {
		if told[step.e] < 100 {
			t.Error(step.e, "was told", told[step.e], "times")
		}
	}
}
