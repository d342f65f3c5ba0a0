package json_test

import (
	"math/rand"
	"strings"
	"testing"

	"storehouse/api"
	"storehouse/json"
	"storehouse/samples"
)

// P14.4: Parse of Write is the value, of all that can be written.
func TestParseOfWrite(t *testing.T) {
	r := rand.New(rand.NewSource(144))
	all := different()
	for range 10000 {
		all = append(all, anyValue(r, 6))
	}
	for _, s := range []string{"\x00", "a", "\"", "é"} {
		for size := 7950 / len(quoted(s)); size <= 8000; size += 37 {
			all = append(all, text(strings.Repeat(s, size)), object(strings.Repeat(s, size), text(s)))
		}
	}
	back := 0
	for _, j := range all {
		s, e := json.Write(j)
		if e != api.OK {
			continue
		}
		back++
		got, err := json.Parse(s)
		if err != nil || !json.Same(got, j) || !alike(got, j) {
			t.Fatalf("%s, written %.200q: %s, %v", told(j), s, told(got), err)
		}
	}
	if back < 10000 {
		t.Error("only", back, "were written")
	}
}

// again asks of a text that is read whether what is written of it is read as the same, and written as the same.
func again(t *testing.T, s string) {
	t.Helper()
	j, err := json.Parse(s)
	if err != nil {
		return
	}
	if !json.Same(j, j) {
		t.Fatalf("what is read of %q is not right: %s", s, told(j))
	}
	first, e := json.Write(j)
	if e == api.ErrLong && len(written(j)) > 8000 {
		return
	}
	back, err := json.Parse(first)
	second, e2 := json.Write(back)
	if e != api.OK || err != nil || e2 != api.OK || first != second || !json.Same(j, back) {
		t.Fatalf("%q: %q, %d, %v, %q, %d", s, first, e, err, second, e2)
	}
}

// P14.4: Write of Parse, parsed and written again, is the same; what Parse tells is right.
func TestWriteOfParse(t *testing.T) {
	for s := range samples.Every(`[]{},:"1`, 6) {
		again(t, s)
	}
	for s := range samples.Every(`\u0"nb/`, 6) {
		again(t, `"`+s+`"`)
	}
	r := rand.New(rand.NewSource(1442))
	for range 10000 {
		again(t, spaced(r, anyValue(r, 6)))
	}
	again(t, whole)
	again(t, strings.Repeat("[", 20)+strings.Repeat("]", 20))
	again(t, "["+strings.Repeat("1,", 3999)+"]")
	again(t, "["+strings.Repeat("1,", 3998)+"1]")
	again(t, `{`+strings.Repeat(`"":1,`, 1599)+`"":1}`)
}

// P14.4: what Parse tells is right, too where its text would be too long.
func TestParseIsRight(t *testing.T) {
	for _, s := range []string{`"` + strings.Repeat(`\b`, 3999) + `"`, `"` + strings.Repeat(`\f`, 1400) + `"`} {
		j, err := json.Parse(s)
		if err != nil || !json.Same(j, j) {
			t.Fatal(err)
		}
		writes(t, j, "", api.ErrLong)
	}
}
