package seal_test

import (
	"hash/crc32"
	"math/rand"
	"testing"

	"ullage/api"
	"ullage/seal"
)

func random(r *rand.Rand, n int) string {
	b := make([]byte, n)
	r.Read(b)
	return string(b)
}

func TestChecksums(t *testing.T) {
	if got := seal.Of("123456789"); got != 0xE3069283 {
		t.Errorf("the example: %x", got)
	}
	if seal.Of() != 0 || seal.Of("") != 0 || seal.Of("", "") != 0 || seal.More(0, "") != 0 {
		t.Error("the empty string")
	}
	r := rand.New(rand.NewSource(9))
	table := crc32.MakeTable(crc32.Castagnoli)
	for range 500 {
		s := random(r, r.Intn(300))
		want := crc32.Checksum([]byte(s), table)
		i := r.Intn(len(s) + 1)
		j := i + r.Intn(len(s)-i+1)
		if seal.Of(s) != want || seal.Of(s[:i], s[i:j], s[j:]) != want {
			t.Fatalf("Of %x", s)
		}
		if seal.More(seal.Of(s[:i]), s[i:]) != want || seal.More(seal.More(seal.Of(s[:i]), s[i:j]), s[j:]) != want {
			t.Fatalf("More of %x at %d", s, i)
		}
	}
}

func TestSealAndOpen(t *testing.T) {
	if got := seal.Seal("123456789"); got != "123456789\x83\x92\x06\xE3" {
		t.Errorf("Seal: %x", got)
	}
	if got := seal.Seal(""); got != "\x00\x00\x00\x00" {
		t.Errorf("Seal of nothing: %x", got)
	}
	for _, s := range []string{"", "a", "abc", "\x00\x00\x00"} {
		if got, e := seal.Open(s); got != "" || e != api.ErrShort {
			t.Errorf("Open(%x): error %d", s, e)
		}
	}
	for _, s := range []string{"abcd", "abcdefgh", "\x00\x00\x00\x01", "123456789\xE3\x06\x92\x83"} {
		if got, e := seal.Open(s); got != "" || e != api.ErrSum {
			t.Errorf("Open(%x): error %d", s, e)
		}
	}
	r := rand.New(rand.NewSource(10))
	for range 300 {
		s := random(r, r.Intn(100))
		if got, e := seal.Open(seal.Seal(s)); got != s || e != api.OK {
			t.Fatalf("%x is opened as %x, error %d", s, got, e)
		}
	}
}

func TestOpenRejectsChanges(t *testing.T) {
	r := rand.New(rand.NewSource(11))
	for range 200 {
		sealed := seal.Seal(random(r, r.Intn(40)))
		for at := range len(sealed) {
			b := []byte(sealed)
			for i := at; i < min(at+4, len(b)); i++ {
				b[i] ^= byte(r.Intn(256))
			}
			if string(b) == sealed {
				b[at] ^= 1
			}
			if got, e := seal.Open(string(b)); got != "" || e != api.ErrSum {
				t.Fatalf("%x changed to %x is opened", sealed, b)
			}
		}
	}
}
