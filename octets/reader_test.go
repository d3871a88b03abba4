package octets_test

import (
	"bytes"
	"errors"
	"math"
	"testing"

	"entrust/api"
	"entrust/octets"
)

// TestReaderNum is P1.1: sizes of numbers, big-endian, from the position on.
func TestReaderNum(t *testing.T) {
	in := []byte{1, 2, 3, 4, 5, 6, 7, 8, 9, 10, 11, 12, 13, 14, 255}
	r := octets.From(in)
	for _, x := range []struct {
		size int
		want uint64
		left int
	}{
		{2, 0x0102, 13},
		{8, 0x030405060708090a, 5},
		{4, 0x0b0c0d0e, 1},
		{1, 255, 0},
	} {
		if n := r.Num(x.size); n != x.want || r.Left() != x.left {
			t.Error(x.size, n, r.Left())
		}
	}
	if r.End() != nil {
		t.Error(r.End())
	}
	if n := octets.From(bytes.Repeat([]byte{255}, 8)).Num(8); n != 1<<64-1 {
		t.Error(n)
	}
}

// TestReaderBytes is P1.1: bytes behind their number, at most as many as are asked for.
func TestReaderBytes(t *testing.T) {
	for _, n := range []int{0, 1, 255, 256, 65535} {
		want := bytes.Repeat([]byte{7}, n)
		in := append([]byte{byte(n >> 8), byte(n)}, want...)
		for _, most := range []int{n, n + 1, 65535, 65536, math.MaxInt} {
			r := octets.From(append(in, 9))
			if b := r.Bytes(most); !bytes.Equal(b, want) || r.Left() != 1 || r.Num(1) != 9 || r.End() != nil {
				t.Error(n, most, len(b), r.Left(), r.End())
			}
		}
		for _, most := range []int{n - 1, -1, math.MinInt} {
			r := octets.From(append(in, 9))
			if b := r.Bytes(most); len(b) != 0 || r.Left() != 0 || r.End() != api.ErrForm {
				t.Error(n, most, len(b), r.Left(), r.End())
			}
		}
		if n > 0 {
			r := octets.From(in[:len(in)-1])
			if b := r.Bytes(n); len(b) != 0 || r.Left() != 0 || r.End() != api.ErrForm {
				t.Error(n, len(b), r.Left(), r.End())
			}
		}
	}
}

// TestReaderRaw is P1.1: as many bytes as are asked for, none of them included, or ErrForm.
func TestReaderRaw(t *testing.T) {
	in := []byte{1, 2, 3}
	for n := range 4 {
		r := octets.From(in)
		if b := r.Raw(n); !bytes.Equal(b, in[:n]) || r.Left() != 3-n {
			t.Error(n, b, r.Left())
		}
		if b := r.Raw(3 - n); !bytes.Equal(b, in[n:]) || r.End() != nil {
			t.Error(n, b, r.End())
		}
	}
	for _, n := range []int{math.MinInt, -2, -1, 4, 5, 1 << 32, math.MaxInt} {
		r := octets.From(in)
		if b := r.Raw(n); len(b) != 0 || r.Left() != 0 || r.End() != api.ErrForm {
			t.Error(n, b, r.Left(), r.End())
		}
	}
}

// TestReaderHash is P1.1: 32 bytes, and not one less.
func TestReaderHash(t *testing.T) {
	want := api.Hash{1, 2, 30: 8, 31: 9}
	r := octets.From(append(want[:], 5))
	if h := r.Hash(); h != want || r.Left() != 1 || r.Num(1) != 5 || r.End() != nil {
		t.Error(h, r.Left(), r.End())
	}
	r = octets.From(want[:31])
	if h := r.Hash(); h != (api.Hash{}) || r.Left() != 0 || r.End() != api.ErrForm {
		t.Error(h, r.Left(), r.End())
	}
}

// TestReaderFlag is P1.1: a byte 0 or 1, and no other one.
func TestReaderFlag(t *testing.T) {
	r := octets.From([]byte{1, 0, 1})
	if !r.Flag() || r.Flag() || r.Left() != 1 || !r.Flag() || r.End() != nil {
		t.Error(r.Left(), r.End())
	}
	for n := 2; n < 256; n++ {
		r := octets.From([]byte{byte(n), 1})
		if r.Flag() || r.Left() != 0 || r.End() != api.ErrForm {
			t.Error(n, r.Left(), r.End())
		}
	}
}

// reads are calls of a reader, each of which reports whether what it returned was anything but zero.
func reads() []func(r *octets.Reader) bool {
	return []func(r *octets.Reader) bool{
		func(r *octets.Reader) bool { return r.Num(1) != 0 },
		func(r *octets.Reader) bool { return r.Num(2) != 0 },
		func(r *octets.Reader) bool { return r.Num(4) != 0 },
		func(r *octets.Reader) bool { return r.Num(8) != 0 },
		func(r *octets.Reader) bool { return len(r.Bytes(65535)) != 0 },
		func(r *octets.Reader) bool { return len(r.Raw(1)) != 0 },
		func(r *octets.Reader) bool { return r.Hash() != api.Hash{} },
		func(r *octets.Reader) bool { return r.Flag() },
	}
}

// faults are calls of a reader that can't be done, whatever its bytes are.
func faults() []func(r *octets.Reader) bool {
	out := []func(r *octets.Reader) bool{
		func(r *octets.Reader) bool { return len(r.Bytes(-1)) != 0 },
		func(r *octets.Reader) bool { return len(r.Raw(-1)) != 0 },
		func(r *octets.Reader) bool { return len(r.Raw(math.MaxInt)) != 0 },
	}
	for _, size := range []int{math.MinInt, -8, -1, 0, 3, 5, 6, 7, 9, 16, 64, 1 << 32, math.MaxInt} {
		out = append(out, func(r *octets.Reader) bool { return r.Num(size) != 0 })
	}
	return out
}

// TestReaderBehindEnd is P1.1: behind the end everything is zero, and ErrForm.
func TestReaderBehindEnd(t *testing.T) {
	for i, read := range reads() {
		for _, in := range [][]byte{nil, {}} {
			r := octets.From(in)
			if r.End() != nil || r.Left() != 0 {
				t.Error(i, r.End())
			}
			if read(r) || r.Left() != 0 || r.End() != api.ErrForm {
				t.Error(i, r.Left(), r.End())
			}
		}
	}
}

// TestReaderAfterError is P1.1: after an error everything is read as zero, even where bytes that fit are left, and the error stays.
func TestReaderAfterError(t *testing.T) {
	in := bytes.Repeat([]byte{1}, 400)
	for i, fault := range faults() {
		r := octets.From(in)
		if fault(r) || r.Left() != 0 || r.End() != api.ErrForm {
			t.Error(i, r.Left(), r.End())
		}
		r.Fail(api.ErrStale)
		for j, read := range append(reads(), faults()...) {
			if read(r) || r.Left() != 0 || r.End() != api.ErrForm {
				t.Error(i, j, r.Left(), r.End())
			}
		}
		if b := r.Raw(0); len(b) != 0 {
			t.Error(i, b)
		}
	}
	for i, read := range reads() {
		if !read(octets.From(in)) {
			t.Error(i, "nothing to be read as zero")
		}
	}
}

// TestFail is P1.1: the first error stays, whatever it is, and nil is none.
func TestFail(t *testing.T) {
	r := octets.From([]byte{1, 2})
	r.Fail(nil)
	if r.Left() != 2 || r.Num(1) != 1 || r.End() != api.ErrForm || r.Left() != 1 {
		t.Error(r.Left(), r.End())
	}
	for _, err := range []error{api.ErrStale, api.ErrForm, errors.New("other")} {
		r := octets.From([]byte{1, 2})
		r.Fail(err)
		r.Fail(nil)
		r.Fail(api.ErrLarge)
		if r.End() != err || r.Left() != 0 || r.Num(1) != 0 || len(r.Raw(3)) != 0 || r.End() != err {
			t.Error(err, r.Left(), r.End())
		}
	}
	r = octets.From(nil)
	r.Num(1)
	r.Fail(api.ErrStale)
	if r.End() != api.ErrForm {
		t.Error(r.End())
	}
}

// TestEnd is P1.1: bytes that are left are ErrForm, which the reader doesn't keep.
func TestEnd(t *testing.T) {
	r := octets.From([]byte{1, 2})
	for i := range 2 {
		if r.End() != api.ErrForm || r.End() != api.ErrForm || r.Left() != 2-i || r.Num(1) != uint64(i+1) {
			t.Error(i, r.End())
		}
	}
	if r.End() != nil || r.End() != nil {
		t.Error(r.End())
	}
}

// TestFromCopies is P1.1: a reader keeps a copy, and leaves its argument as it was.
func TestFromCopies(t *testing.T) {
	in := []byte{1, 2, 3, 4}
	r := octets.From(in[:2])
	in[0], in[1] = 8, 9
	if r.Num(1) != 1 || r.Num(1) != 2 || r.End() != nil || in[2] != 3 || in[3] != 4 {
		t.Error(in, r.End())
	}
}

// TestReaderResults is P1.1: what is read is new memory, none of it shared with what is read next.
func TestReaderResults(t *testing.T) {
	in := []byte{1, 0, 2, 3, 4, 5, 6}
	r := octets.From(in)
	a := r.Raw(1)
	_ = append(a, 99, 99, 99, 99, 99, 99)
	b := r.Bytes(9)
	_ = append(b, 99, 99, 99)
	b[0] = 99
	if c := r.Raw(2); !bytes.Equal(a, []byte{1}) || !bytes.Equal(b, []byte{99, 4}) || !bytes.Equal(c, []byte{5, 6}) || r.End() != nil {
		t.Error(a, b, c, r.End())
	}
	if !bytes.Equal(in, []byte{1, 0, 2, 3, 4, 5, 6}) {
		t.Error(in)
	}
}

// TestNilReader is P1.1: ErrNone, and zero values.
func TestNilReader(t *testing.T) {
	var r *octets.Reader
	for i, read := range append(reads(), faults()...) {
		if read(r) || r.Left() != 0 || r.End() != api.ErrNone {
			t.Error(i, r.Left(), r.End())
		}
	}
	if b := r.Raw(0); len(b) != 0 {
		t.Error(b)
	}
	r.Fail(nil)
	r.Fail(api.ErrStale)
	if r.End() != api.ErrNone {
		t.Error(r.End())
	}
}
