package sign_test

import (
	"slices"
	"strings"
	"testing"

	"storehouse/api"
)

// story is a request, and by whom, where and when it is checked. All of it is right, as long as nothing spoils it.
type story struct {
	api.Request            // without its authorization
	names, id, day, secret string
	region                 string // the one that the request tells
	many                   int    // fields authorization
	edit                   func(shown string) string
	users                  []api.User
	now                    int
	asked                  string // the region that is asked
}

// fair is a story of which nothing is spoilt.
func fair() *story {
	return &story{
		Request: request("PUT", "/b/k?a=1", "abc", "host", "h", "a", "1", "x-amz-date", "20130524T000000Z", "x-amz-content-sha256", sum("abc"), "b", "2"),
		names:   "a;host;x-amz-content-sha256;x-amz-date", id: "A", day: "20130524", secret: "s", region: "r", many: 1,
		edit:  func(shown string) string { return shown },
		users: []api.User{{Name: "bob", ID: "B", Secret: "t"}, {Name: "ann", ID: "A", Secret: "s"}},
		now:   knownAt, asked: "r",
	}
}

// set gives the fields of a name another value.
func (s *story) set(name, value string) {
	for i := range s.Fields {
		if s.Fields[i].Name == name {
			s.Fields[i].Value = value
		}
	}
}

// add adds a field.
func (s *story) add(name, value string) { s.Fields = append(s.Fields, pairs(name, value)...) }

// drop takes the fields of a name away.
func (s *story) drop(name string) {
	s.Fields = slices.DeleteFunc(s.Fields, func(p api.Pair) bool { return p.Name == name })
}

// shown is the authorization; what it tells is signed, whatever it is.
func (s *story) shown() string {
	stamp := append(valuesOf(s.Request, "x-amz-date"), "")[0]
	canonical, _ := modelCanonical(s.Request, strings.Split(s.names, ";"))
	signature := modelSignature(s.secret, stamp, s.region, canonical)
	return s.edit("AWS4-HMAC-SHA256 Credential=" + s.id + "/" + s.day + "/" + s.region + "/s3/aws4_request, SignedHeaders=" + s.names + ", Signature=" + signature)
}

// sent is the request with its authorization.
func (s *story) sent() api.Request {
	r := s.Request
	r.Fields = slices.Clone(r.Fields)
	for range s.many {
		r.Fields = append(r.Fields, pairs("authorization", s.shown())...)
	}
	return r
}

// ends asks how a story ends.
func (s *story) ends(t *testing.T, what string, want api.Errno) {
	t.Helper()
	isChecked(t, what, s.sent(), s.users, s.now, s.asked, want)
}

// spoilt is a fair story that is spoilt in some ways.
func spoilt(ways ...func(*story)) *story {
	s := fair()
	for _, way := range ways {
		way(s)
	}
	return s
}

// edits is a way to spoil the authorization: one text in the place of another one.
func edits(old, new string) func(*story) {
	return func(s *story) {
		s.edit = func(shown string) string { return strings.Replace(shown, old, new, 1) }
	}
}

// sets, adds, drops and signsNames are ways to spoil the fields, or which of them are signed.
func sets(name, value string) func(*story) { return func(s *story) { s.set(name, value) } }
func adds(name, value string) func(*story) { return func(s *story) { s.add(name, value) } }
func drops(name string) func(*story)       { return func(s *story) { s.drop(name) } }
func signsNames(names string) func(*story) { return func(s *story) { s.names = names } }

// dates is a way to tell another stamp, with its day.
func dates(stamp string) func(*story) {
	return func(s *story) {
		s.set("x-amz-date", stamp)
		s.day = stamp[:min(8, len(stamp))]
	}
}

// step is something that may be wrong, and how it is told.
type step struct {
	e    api.Errno
	ways []func(*story)
}

// steps are all that may be wrong, in the order in which it is told.
func steps() []step {
	return []step{
		{api.ErrArg, []func(*story){
			func(s *story) { s.now = -1 },
			func(s *story) { s.now = api.MaxTime + 1 },
			func(s *story) { s.now = -1 << 63 },
			func(s *story) { s.now = 1<<63 - 1 },
		}},
		{api.AccessDenied, []func(*story){func(s *story) { s.many = 0 }}},
		{api.BadAuth, slices.Concat(wrongForms(), wrongFields())},
		{api.NoAccessKey, []func(*story){
			func(s *story) { s.users = nil },
			func(s *story) { s.users = []api.User{{Name: "A", ID: "B", Secret: "s"}} },
			func(s *story) { s.id = "a" },
			func(s *story) { s.id = "AA" },
		}},
		{api.TimeSkewed, []func(*story){
			func(s *story) { s.now += 901 },
			func(s *story) { s.now -= 901 },
			func(s *story) { s.now = 0 },
			func(s *story) { s.now = api.MaxTime },
		}},
		{api.BadSignature, []func(*story){
			func(s *story) { s.secret = "S" },
			func(s *story) { s.secret = "" },
		}},
		{api.BadDigest, []func(*story){
			func(s *story) { s.Body = "abd" },
			func(s *story) { s.Body = "" },
			sets("x-amz-content-sha256", ""),
			sets("x-amz-content-sha256", "unsigned-payload"),
			sets("x-amz-content-sha256", sum("abcd")),
			sets("x-amz-content-sha256", strings.ToUpper(sum("abc"))),
		}},
	}
}

// wrongForms are ways in which an authorization is of no right form.
func wrongForms() []func(*story) {
	ways := []func(*story){
		func(s *story) { s.many = 2 },
		func(s *story) { s.edit = func(string) string { return "" } },
		func(s *story) { s.edit = func(string) string { return "Basic x" } },
		func(s *story) { s.edit = func(shown string) string { return shown + " " } },
		func(s *story) { s.edit = func(shown string) string { return shown + "," } },
		func(s *story) { s.edit = func(shown string) string { return shown + "0" } },
		func(s *story) { s.edit = func(shown string) string { return shown + "00" } },
		func(s *story) { s.edit = func(shown string) string { return shown[:len(shown)-1] } },
		func(s *story) { s.edit = func(shown string) string { return shown[:len(shown)-2] } },
		func(s *story) { s.edit = func(shown string) string { return shown[:len(shown)-2] + "0A" } },
		func(s *story) { s.edit = func(shown string) string { return shown[:len(shown)-1] + "g" } },
		func(s *story) { s.edit = func(shown string) string { return " " + shown } },
		func(s *story) { s.edit = func(shown string) string { return shown + "\n" } },
		func(s *story) { s.edit = strings.ToLower },
		func(s *story) { s.region, s.asked = "a/b", "a/b" },
		func(s *story) { s.region, s.asked = "a,b", "a,b" },
		func(s *story) { s.region, s.asked = "/", "/" },
		func(s *story) { s.region = "R" },
		func(s *story) { s.asked = "" },
		func(s *story) { s.region = "" },
	}
	for _, id := range []string{"", "a b", "A/", "/A", "A=", "=", "A,B", "A,", "\x7f", "\xff", "A\t", " A", "A/20130524"} {
		ways = append(ways, func(s *story) { s.id = id })
	}
	for _, day := range []string{"", "2013052", "201305240", "20130523", "2013052T", "00000000", " 20130524", "20130524T000000Z"} {
		ways = append(ways, func(s *story) { s.day = day })
	}
	for _, both := range [][2]string{
		{"256 ", "256"}, {"256 ", "256\t"}, {"256 ", "256 \t"}, {"256 ", "256, "}, {"SHA256", "SHA1"}, {"AWS4-", ""},
		{"Credential=", ""}, {"Credential=", "Credential = "}, {"Credential", "credential"}, {"Credential=", "Credential=="},
		{"/s3/", "/S3/"}, {"/s3/", "/"}, {"/s3/", "/s3//"}, {"/s3/", "/iam/"}, {"aws4_request", "aws4_request/"}, {"aws4_request", "aws4"}, {"aws4_request", "aws4_request "},
		{", S", " S"}, {", S", ",\tS"}, {", S", ",, S"}, {", S", " , S"}, {", S", "; S"}, {", Sig", " Sig"}, {", Sig", ",\tSig"}, {", Sig", ",,Sig"}, {", Sig", " , Sig"},
		{"SignedHeaders=", "SignedHeaders"}, {"SignedHeaders", "Signedheaders"}, {"SignedHeaders=", ""}, {"SignedHeaders=", "SignedHeaders= "},
		{"Signature=", "Signature"}, {"Signature=", "signature="}, {"Signature=", ""}, {"Signature=", "Signature= "}, {"Signature=", "Signature=x"},
		{"a;host", "a;;host"}, {"a;host", ";a;host"}, {"a;host", "a,host"}, {"a;host", "a; host"}, {"x-amz-date,", "x-amz-date;,"},
	} {
		ways = append(ways, edits(both[0], both[1]))
	}
	return ways
}

// wrongFields are ways in which the fields are no right ones.
func wrongFields() []func(*story) {
	ways := []func(*story){
		drops("host"), drops("x-amz-date"), drops("x-amz-content-sha256"), drops("a"),
		adds("host", "h"), adds("Host", "h"), adds("x-amz-date", "20130524T000000Z"), adds("X-Amz-Date", "20130524T000000Z"), adds("x-amz-content-sha256", sum("abc")), adds("A", "1"),
		func(s *story) {
			s.drop("x-amz-content-sha256")
			s.names = "a;host;x-amz-date"
		},
		func(s *story) {
			s.add("x-amz-content-sha256", sum("abc"))
			s.names = "a;host;x-amz-date"
		},
		func(s *story) { s.add("B", "3"); s.names = "a;b;host;x-amz-date" },
	}
	for _, names := range []string{"", "host", "x-amz-date", "a;host;x-amz-content-sha256", "a;x-amz-content-sha256;x-amz-date", "x-amz-date;host", "host;a;x-amz-date", "host;host;x-amz-date", "Host;x-amz-date", "c;host;x-amz-date", "host;x-amz-date;z", "authorization-;host;x-amz-date", "HOST;X-AMZ-DATE"} {
		ways = append(ways, signsNames(names))
	}
	for _, stamp := range []string{"", "20130524", "20130524T000000", "20130524T000000Z ", " 20130524T000000Z", "20130524t000000z", "20130524T240000Z", "20130524T006000Z", "20130230T000000Z", "19691231T235959Z", "2013-05-24T00:00:00.000Z", "Fri, 24 May 2013 00:00:00 GMT", "99999999T000000Z"} {
		ways = append(ways, dates(stamp))
	}
	for _, target := range []string{"", "*", "b/k", "/ ", "/%", "/?a=%4", "/#", "/\xff"} {
		ways = append(ways, func(s *story) { s.Target = target })
	}
	return append(ways, sets("x-amz-date", "20130525T000000Z"), sets("x-amz-date", "20130523T235959Z"))
}
