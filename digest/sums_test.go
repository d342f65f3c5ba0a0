package digest_test

import (
	"crypto/hmac"
	"crypto/md5"
	"crypto/sha256"
	"math/rand"
	"strings"
	"testing"

	"storehouse/digest"
)

// known sums: of FIPS 180-4's examples, of RFC 1321, section A.5.
var known = []struct{ text, wide, five string }{
	{"", "e3b0c44298fc1c149afbf4c8996fb92427ae41e4649b934ca495991b7852b855", "d41d8cd98f00b204e9800998ecf8427e"},
	{"a", "ca978112ca1bbdcafac231b39a23dc4da786eff8147c4e72b9807785afee48bb", "0cc175b9c0f1b6a831c399e269772661"},
	{"abc", "ba7816bf8f01cfea414140de5dae2223b00361a396177a9cb410ff61f20015ad", "900150983cd24fb0d6963f7d28e17f72"},
	{"message digest", "f7846f55cf23e14eebeab5b4e1550cad5b509e3348fbc4efa3a1413d393cb650", "f96b697d7cb7938d525a2f31aaf161d0"},
	{"abcdbcdecdefdefgefghfghighijhijkijkljklmklmnlmnomnopnopq", "248d6a61d20638b8e5c026930c3e6039a33ce45964ff2167f6ecedd419db06c1", "8215ef0796a20bcaaae116d3876c664a"},
	{strings.Repeat("1234567890", 8), "f371bc4a311f2b009eef952dd83ca80e2b60026c8e935592d0f9c308453c813e", "57edf4a22be3c955ac49da2e2107b67a"},
	{strings.Repeat("a", 1000000), "cdc76e5c9914fb9281a1c7e284d73e67f1809a48a497200e046d39ccc7112cd0", "7707d6ae4e027c70eea2a935c2296f21"},
}

// knownMACs: RFC 4231, keys that are short, of a block and beyond it.
var knownMACs = []struct{ key, text, mac string }{
	{strings.Repeat("\x0b", 20), "Hi There", "b0344c61d8db38535ca8afceaf0bf12b881dc200c9833da726e9376c2e32cff7"},
	{"Jefe", "what do ya want for nothing?", "5bdcc146bf60754e6a042426089575c75a003f089d2739839dec58b964ec3843"},
	{strings.Repeat("\xaa", 20), strings.Repeat("\xdd", 50), "773ea91e36800e46854db8ebd09181a72959098b3ef8c122d9635514ced565fe"},
	{strings.Repeat("\xaa", 131), "Test Using Larger Than Block-Size Key - Hash Key First", "60e431591ee0b67f0d8a26aacbf5b77f8e0bc6213728c5140546040f0ee37f54"},
	{"", "", "b613679a0814d9ec772f95d778c35fc5ff1697c493715653c6c712144292c5ad"},
}

// anyText is n bytes of all values.
func anyText(r *rand.Rand, n int) string {
	b := make([]byte, n)
	r.Read(b)
	return string(b)
}

// wide, five and mac are the same sums, reckoned by others.
func wide(s string) string {
	sum := sha256.Sum256([]byte(s))
	return string(sum[:])
}

func five(s string) string {
	sum := md5.Sum([]byte(s))
	return string(sum[:])
}

func mac(key, s string) string {
	h := hmac.New(sha256.New, []byte(key))
	h.Write([]byte(s))
	return string(h.Sum(nil))
}

// P1.1: known sums.
func TestKnownSums(t *testing.T) {
	for _, k := range known {
		name := k.text[:min(len(k.text), 20)]
		if got := digest.Hex(digest.Sum256(k.text)); got != k.wide {
			t.Errorf("Sum256 of %q, %d bytes: %s", name, len(k.text), got)
		}
		if got := digest.Hex(digest.Sum5(k.text)); got != k.five {
			t.Errorf("Sum5 of %q, %d bytes: %s", name, len(k.text), got)
		}
	}
	for _, k := range knownMACs {
		if got := digest.Hex(digest.MAC(k.key, k.text)); got != k.mac {
			t.Errorf("MAC of %q by %q: %s", k.text, k.key, got)
		}
	}
}

// P1.1: texts of every length about the blocks' ends, of all bytes.
func TestSumsOfEveryLength(t *testing.T) {
	r := rand.New(rand.NewSource(1))
	for n := range 400 {
		for _, s := range []string{anyText(r, n), strings.Repeat("\x00", n), strings.Repeat("\xff", n)} {
			if digest.Sum256(s) != wide(s) {
				t.Errorf("Sum256 of %q", s)
			}
			if digest.Sum5(s) != five(s) {
				t.Errorf("Sum5 of %q", s)
			}
		}
	}
}

// P1.1: keys of any length, of a block's and one more too, that end in noughts or not.
func TestMACsOfEveryKey(t *testing.T) {
	r := rand.New(rand.NewSource(2))
	for n := range 200 {
		key, s := anyText(r, n), anyText(r, r.Intn(200))
		for _, k := range []string{key, key + "\x00", strings.Repeat("\x36", n), strings.Repeat("\x5c", n)} {
			if got := digest.MAC(k, s); got != mac(k, s) {
				t.Errorf("MAC of %q by %q: %q", s, k, got)
			}
		}
	}
}

// P1.4: Sums that have been told nothing, or nothing but empty pieces.
func TestNew(t *testing.T) {
	s := digest.New()
	for range 3 {
		if s.Size() != 0 || s.Sum256() != wide("") || s.Sum5() != five("") {
			t.Fatal("told nothing:", s.Size(), digest.Hex(s.Sum256()), digest.Hex(s.Sum5()))
		}
		s.Write("")
	}
}

// P1.4: each piece stands behind what was told, and what is asked between them changes nothing.
func TestPieces(t *testing.T) {
	r := rand.New(rand.NewSource(3))
	for range 100 {
		s, asked, told := digest.New(), digest.New(), ""
		for range 20 {
			piece := anyText(r, r.Intn(150))
			told += piece
			s.Write(piece)
			asked.Write(piece)
			for range 2 {
				if asked.Sum5() != five(told) || asked.Sum256() != wide(told) || asked.Size() != len(told) {
					t.Fatalf("asked behind %q", told)
				}
			}
		}
		if s.Size() != len(told) || s.Sum256() != wide(told) || s.Sum5() != five(told) {
			t.Fatalf("of %q", told)
		}
	}
}

// P1.4: several Sums know nothing of one another.
func TestSeveralSums(t *testing.T) {
	a, b := digest.New(), digest.New()
	a.Write("ab")
	b.Write(strings.Repeat("b", 70))
	a.Write("c")
	if a.Size() != 3 || a.Sum256() != wide("abc") || a.Sum5() != five("abc") {
		t.Error("the first")
	}
	if want := strings.Repeat("b", 70); b.Size() != 70 || b.Sum256() != wide(want) || b.Sum5() != five(want) {
		t.Error("the second")
	}
	if c := digest.New(); c.Size() != 0 || c.Sum256() != wide("") {
		t.Error("a third")
	}
}

// P1.5: the sums of pieces are those of the whole, however it is cut.
func TestEveryCut(t *testing.T) {
	r := rand.New(rand.NewSource(4))
	for _, n := range []int{0, 1, 55, 56, 63, 64, 65, 119, 120, 127, 128, 129, 200} {
		text := anyText(r, n)
		wide, five := digest.Sum256(text), digest.Sum5(text)
		same := func(pieces ...string) {
			s := digest.New()
			for _, piece := range pieces {
				s.Write(piece)
			}
			if s.Size() != n || s.Sum256() != wide || s.Sum5() != five {
				t.Errorf("of %q", pieces)
			}
		}
		same(text)
		same(strings.Split(text, "")...)
		for i := range n + 1 {
			same(text[:i], text[i:])
			same(text[:i], text[i:(i+n)/2], text[(i+n)/2:])
		}
		for step := 1; step <= n; step++ {
			var pieces []string
			for at := 0; at < n; at += step {
				pieces = append(pieces, text[at:min(at+step, n)])
			}
			same(pieces...)
		}
	}
}
