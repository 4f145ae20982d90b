package wire_test

import (
	"math"
	"math/rand"
	"strings"
	"testing"

	"ullage/api"
	"ullage/float"
	"ullage/wire"
)

func written(write func(w *wire.Writer)) string {
	w := wire.NewWriter()
	write(w)
	s, e := w.Done()
	if e != api.OK {
		panic("Done")
	}
	return s
}

func TestEncodings(t *testing.T) {
	if got := written(func(w *wire.Writer) { w.Num(300); w.Int(-1) }); got != "\xAC\x02\x01" {
		t.Errorf("the example: %x", got)
	}
	for n, want := range map[uint64]string{0: "\x00", 127: "\x7F", 128: "\x80\x01", 1 << 63: "\x80\x80\x80\x80\x80\x80\x80\x80\x80\x01", math.MaxUint64: "\xFF\xFF\xFF\xFF\xFF\xFF\xFF\xFF\xFF\x01"} {
		if got := written(func(w *wire.Writer) { w.Num(n) }); got != want {
			t.Errorf("Num(%d): %x", n, got)
		}
	}
	for n, want := range map[int]uint64{0: 0, -1: 1, 1: 2, -2: 3, 2: 4, math.MaxInt: math.MaxUint64 - 1, math.MinInt: math.MaxUint64} {
		if written(func(w *wire.Writer) { w.Int(n) }) != written(func(w *wire.Writer) { w.Num(want) }) {
			t.Errorf("Int(%d)", n)
		}
	}
	if got := written(func(w *wire.Writer) { w.Float(float.Of(0xFFF0000000000001)) }); got != "\x01\x00\x00\x00\x00\x00\xF0\xFF" {
		t.Errorf("Float: %x", got)
	}
	if got := written(func(w *wire.Writer) { w.Text("a\xFF"); w.Text("") }); got != "\x02a\xFF\x00" {
		t.Errorf("Text: %x", got)
	}
	if got := written(func(w *wire.Writer) {}); got != "" {
		t.Errorf("nothing: %x", got)
	}
}

func TestLongTexts(t *testing.T) {
	longest := strings.Repeat("x", api.MaxText)
	s := written(func(w *wire.Writer) { w.Text(longest); w.Num(5) })
	r := wire.NewReader(s)
	if r.Text() != longest || r.Num() != 5 || r.Err() != api.OK || r.Left() != 0 {
		t.Error("the longest text")
	}
	w := wire.NewWriter()
	w.Num(1)
	w.Text(longest + "x")
	w.Num(2)
	for range 2 {
		if s, e := w.Done(); s != "" || e != api.ErrLong {
			t.Errorf("a text that is too long: %d bytes, error %d", len(s), e)
		}
	}
	s = written(func(w *wire.Writer) { w.Num(api.MaxText + 1) })
	for _, rest := range []string{"", strings.Repeat("y", api.MaxText+1)} {
		r := wire.NewReader(s + rest)
		if got := r.Text(); got != "" || r.Err() != api.ErrLong || r.Left() != len(s+rest) {
			t.Errorf("a length that is too large: error %d, %d left", r.Err(), r.Left())
		}
	}
}

func TestWriterGoesOn(t *testing.T) {
	w := wire.NewWriter()
	w.Num(1)
	first, _ := w.Done()
	w.Num(2)
	second, _ := w.Done()
	if first != "\x01" || second != "\x01\x02" {
		t.Errorf("%x, %x", first, second)
	}
}

func TestNumbersThatAreRefused(t *testing.T) {
	nine := strings.Repeat("\x80", 9)
	for s, want := range map[string]api.Errno{
		"": api.ErrShort, "\x80": api.ErrShort, "\xFF\xFF": api.ErrShort, nine: api.ErrShort,
		"\x80\x00": api.ErrForm, "\xFF\x80\x00": api.ErrForm, nine + "\x00": api.ErrForm,
		nine + "\x02": api.ErrForm, nine + "\x80": api.ErrForm, nine + "\x81": api.ErrForm, nine + "\xFF\x01": api.ErrForm, nine + "\x80\x00": api.ErrForm,
		"\x00": api.OK, nine + "\x01": api.OK, "\x81\x01": api.OK,
	} {
		for name, read := range map[string]func(r *wire.Reader) bool{
			"Num":  func(r *wire.Reader) bool { return r.Num() == 0 },
			"Int":  func(r *wire.Reader) bool { return r.Int() == 0 },
			"Text": func(r *wire.Reader) bool { return r.Text() == "" },
		} {
			if name == "Text" && want == api.OK {
				continue
			}
			r := wire.NewReader(s)
			zero := read(r)
			if r.Err() != want || want != api.OK && (!zero || r.Left() != len(s)) {
				t.Errorf("%s of %x: error %d, %d left", name, s, r.Err(), r.Left())
			}
		}
	}
}

func TestFirstErrorStays(t *testing.T) {
	r := wire.NewReader("\x05\x03ab")
	if r.Num() != 5 || r.Left() != 3 {
		t.Error("the first number")
	}
	if r.Text() != "" || r.Err() != api.ErrShort || r.Left() != 3 {
		t.Errorf("a text that is cut: error %d, %d left", r.Err(), r.Left())
	}
	if r.Num() != 0 || r.Int() != 0 || float.Bits(r.Float()) != 0 || r.Text() != "" || r.Left() != 3 || r.Err() != api.ErrShort {
		t.Error("after an error something is read")
	}
	r = wire.NewReader("1234567")
	if float.Bits(r.Float()) != 0 || r.Err() != api.ErrShort || r.Left() != 7 {
		t.Error("a float that is cut")
	}
	r = wire.NewReader("\x02a")
	r.Text()
	r.Num()
	if r.Err() != api.ErrShort {
		t.Error("the first error is not kept")
	}
}

func TestNil(t *testing.T) {
	var w *wire.Writer
	w.Num(1)
	w.Int(-1)
	w.Float(1)
	w.Text("a")
	if s, e := w.Done(); s != "" || e != api.ErrNil {
		t.Error("nil Writer")
	}
	var r *wire.Reader
	if r.Num() != 0 || r.Int() != 0 || r.Float() != 0 || r.Text() != "" || r.Left() != 0 || r.Err() != api.ErrNil {
		t.Error("nil Reader")
	}
}

// TestInverse decodes random values, and encodes what random bytes decode to.
func TestInverse(t *testing.T) {
	rnd := rand.New(rand.NewSource(8))
	for range 20000 {
		n, i, b := rnd.Uint64()>>uint(rnd.Intn(64)), int(rnd.Uint64())>>uint(rnd.Intn(64)), rnd.Uint64()
		text := make([]byte, rnd.Intn(200))
		rnd.Read(text)
		s := written(func(w *wire.Writer) {
			w.Text(string(text))
			w.Int(i)
			w.Float(float.Of(b))
			w.Num(n)
		})
		r := wire.NewReader(s)
		if r.Text() != string(text) || r.Int() != i || float.Bits(r.Float()) != b || r.Num() != n || r.Left() != 0 || r.Err() != api.OK {
			t.Fatalf("values of %x", s)
		}
	}
	for range 50000 {
		raw := make([]byte, rnd.Intn(12))
		for i := range raw {
			raw[i] = byte(rnd.Intn(4)) | byte(rnd.Intn(2))<<7
		}
		s := string(raw)
		for kind := range 4 {
			r := wire.NewReader(s)
			again := written(func(w *wire.Writer) {
				switch kind {
				case 0:
					w.Num(r.Num())
				case 1:
					w.Int(r.Int())
				case 2:
					w.Float(r.Float())
				case 3:
					w.Text(r.Text())
				}
			})
			if r.Err() == api.OK && again != s[:len(s)-r.Left()] {
				t.Fatalf("%x is written as %x", s, again)
			}
			if r.Err() != api.OK && r.Left() != len(s) {
				t.Fatalf("%x: %d left", s, r.Left())
			}
		}
	}
}
