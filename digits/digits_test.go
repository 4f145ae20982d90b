package digits_test

import (
	"math"
	"math/rand"
	"slices"
	"strconv"
	"strings"
	"testing"

	"ullage/api"
	"ullage/digits"
)

func TestPut(t *testing.T) {
	for n, want := range map[uint64]string{0: "0", 7: "7", 10: "10", math.MaxUint64: "18446744073709551615"} {
		if got := digits.Put(n); got != want {
			t.Errorf("Put(%d) = %s", n, got)
		}
	}
	for n, want := range map[int]string{0: "0", -1: "-1", math.MaxInt: "9223372036854775807", math.MinInt: "-9223372036854775808"} {
		if got := digits.PutInt(n); got != want {
			t.Errorf("PutInt(%d) = %s", n, got)
		}
	}
	for n, want := range map[uint64]string{0: "0", 10: "a", 0xdeadbeef: "deadbeef", math.MaxUint64: "ffffffffffffffff"} {
		if got := digits.PutHex(n); got != want {
			t.Errorf("PutHex(%d) = %s", n, got)
		}
	}
}

func TestReadInvertsPut(t *testing.T) {
	r := rand.New(rand.NewSource(5))
	for range 20000 {
		n := r.Uint64() >> uint(r.Intn(64))
		if got, e := digits.Read(digits.Put(n)); got != n || e != api.OK {
			t.Fatalf("%d: %d, error %d", n, got, e)
		}
		if got, e := digits.ReadHex(digits.PutHex(n)); got != n || e != api.OK {
			t.Fatalf("%x: %x, error %d", n, got, e)
		}
		for _, i := range []int{int(n), -int(n)} {
			if got, e := digits.ReadInt(digits.PutInt(i)); got != i || e != api.OK {
				t.Fatalf("%d: %d, error %d", i, got, e)
			}
		}
	}
}

func TestPutInvertsRead(t *testing.T) {
	r := rand.New(rand.NewSource(6))
	const letters = "0123456789af-g"
	for range 100000 {
		b := make([]byte, r.Intn(22))
		for i := range b {
			b[i] = letters[r.Intn(len(letters))]
		}
		s := string(b)
		if n, e := digits.Read(s); e == api.OK && digits.Put(n) != s {
			t.Fatalf("Read(%q) = %d", s, n)
		}
		if n, e := digits.ReadInt(s); e == api.OK && digits.PutInt(n) != s {
			t.Fatalf("ReadInt(%q) = %d", s, n)
		}
		if n, e := digits.ReadHex(s); e == api.OK && digits.PutHex(n) != s {
			t.Fatalf("ReadHex(%q) = %d", s, n)
		}
	}
}

func TestRead(t *testing.T) {
	long := strings.Repeat("9", 3000)
	for s, want := range map[string]api.Errno{
		"0": api.OK, "18446744073709551615": api.OK, "18446744073709551616": api.ErrOver, "20000000000000000000": api.ErrOver, "99999999999999999999": api.ErrOver, "100000000000000000000": api.ErrOver,
		long: api.ErrOver, long + "x": api.ErrForm,
		"": api.ErrForm, "00": api.ErrForm, "01": api.ErrForm, "-1": api.ErrForm, "+1": api.ErrForm, " 1": api.ErrForm, "1 ": api.ErrForm, "a": api.ErrForm, "1_0": api.ErrForm, "٣": api.ErrForm, "0x1": api.ErrForm, "-": api.ErrForm,
		"/": api.ErrForm, ":": api.ErrForm,
	} {
		if n, e := digits.Read(s); e != want || e != api.OK && n != 0 {
			t.Errorf("Read(%.30q) = %d, error %d", s, n, e)
		}
	}
}

func TestReadInt(t *testing.T) {
	long := strings.Repeat("9", 3000)
	for s, want := range map[string]api.Errno{
		"0": api.OK, "-1": api.OK, "9223372036854775807": api.OK, "-9223372036854775808": api.OK,
		"9223372036854775808": api.ErrOver, "-9223372036854775809": api.ErrOver, "18446744073709551616": api.ErrOver, "-18446744073709551617": api.ErrOver, long: api.ErrOver, "-" + long: api.ErrOver,
		"": api.ErrForm, "-": api.ErrForm, "--1": api.ErrForm, "-0": api.ErrForm, "-01": api.ErrForm, "00": api.ErrForm, "+5": api.ErrForm, "1-": api.ErrForm, "-" + long + "-": api.ErrForm, "-00": api.ErrForm,
	} {
		n, e := digits.ReadInt(s)
		if e != want || e != api.OK && n != 0 {
			t.Errorf("ReadInt(%.30q) = %d, error %d", s, n, e)
		}
		if e == api.OK && strconv.Itoa(n) != s {
			t.Errorf("ReadInt(%q) = %d", s, n)
		}
	}
}

func TestReadHex(t *testing.T) {
	for s, want := range map[string]api.Errno{
		"0": api.OK, "a": api.OK, "ffffffffffffffff": api.OK, "123456789abcdef0": api.OK,
		"10000000000000000": api.ErrOver, strings.Repeat("f", 17): api.ErrOver, strings.Repeat("f", 3000): api.ErrOver,
		"": api.ErrForm, "00": api.ErrForm, "0a": api.ErrForm, "A": api.ErrForm, "g": api.ErrForm, "-1": api.ErrForm, "0x1": api.ErrForm, " a": api.ErrForm, "`": api.ErrForm,
		strings.Repeat("f", 17) + "g": api.ErrForm, "0" + strings.Repeat("f", 17): api.ErrForm,
	} {
		n, e := digits.ReadHex(s)
		if e != want || e != api.OK && n != 0 {
			t.Errorf("ReadHex(%.30q) = %x, error %d", s, n, e)
		}
		if e == api.OK && strconv.FormatUint(n, 16) != s {
			t.Errorf("ReadHex(%q) = %x", s, n)
		}
	}
}

func TestLinesAndFields(t *testing.T) {
	for s, want := range map[string][]string{
		"": nil, "\n": {""}, "a": {"a"}, "a\n": {"a"}, "a\n\n": {"a", ""}, "\na": {"", "a"}, "a\nb": {"a", "b"}, "a\r\nb\x00\n": {"a\r", "b\x00"}, " \n\t": {" ", "\t"},
	} {
		if got := digits.Lines(s); !slices.Equal(got, want) {
			t.Errorf("Lines(%q) = %q", s, got)
		}
	}
	for s, want := range map[string][]string{
		"": nil, " ": nil, " \t ": nil, "a": {"a"}, " a": {"a"}, "a\t": {"a"}, "a  b\tc": {"a", "b", "c"}, "\t a\n b": {"a\n", "b"}, "a\u00a0b \xff": {"a\u00a0b", "\xff"}, "\r \v": {"\r", "\v"},
	} {
		if got := digits.Fields(s); !slices.Equal(got, want) {
			t.Errorf("Fields(%q) = %q", s, got)
		}
	}
}

func TestLinesConcatenate(t *testing.T) {
	r := rand.New(rand.NewSource(7))
	for range 5000 {
		b := make([]byte, r.Intn(20))
		for i := range b {
			b[i] = "ab\n \t"[r.Intn(5)]
		}
		s := string(b)
		whole := ""
		for _, line := range digits.Lines(s) {
			if strings.Contains(line, "\n") {
				t.Fatalf("%q: line %q", s, line)
			}
			whole += line + "\n"
		}
		if whole != s && whole != s+"\n" || whole != s && strings.HasSuffix(s, "\n") {
			t.Fatalf("%q: %q", s, whole)
		}
		for _, field := range digits.Fields(s) {
			if field == "" || strings.ContainsAny(field, " \t") {
				t.Fatalf("%q: field %q", s, field)
			}
		}
		if strings.Join(digits.Fields(s), "") != strings.NewReplacer(" ", "", "\t", "").Replace(s) {
			t.Fatalf("%q: fields %q", s, digits.Fields(s))
		}
	}
}
