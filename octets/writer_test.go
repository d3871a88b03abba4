package octets_test

import (
	"bytes"
	"math"
	"testing"

	"entrust/api"
	"entrust/octets"
)

// TestZeroWriter is P1.1: a zero Writer has no bytes.
func TestZeroWriter(t *testing.T) {
	var w octets.Writer
	if b, err := w.Done(); len(b) != 0 || err != nil {
		t.Error(b, err)
	}
}

// TestWriterNum is P1.1: sizes of numbers, and the greatest that fits in each.
func TestWriterNum(t *testing.T) {
	for _, x := range []struct {
		n    uint64
		size int
		want []byte
	}{
		{0, 1, []byte{0}},
		{255, 1, []byte{255}},
		{0, 2, []byte{0, 0}},
		{255, 2, []byte{0, 255}},
		{258, 2, []byte{1, 2}},
		{1<<16 - 1, 2, []byte{255, 255}},
		{0, 4, []byte{0, 0, 0, 0}},
		{0x01020304, 4, []byte{1, 2, 3, 4}},
		{1<<32 - 1, 4, []byte{255, 255, 255, 255}},
		{0, 8, []byte{0, 0, 0, 0, 0, 0, 0, 0}},
		{0x0102030405060708, 8, []byte{1, 2, 3, 4, 5, 6, 7, 8}},
		{1 << 63, 8, []byte{128, 0, 0, 0, 0, 0, 0, 0}},
		{1<<64 - 1, 8, []byte{255, 255, 255, 255, 255, 255, 255, 255}},
	} {
		b, err := new(octets.Writer).Num(x.n, x.size).Done()
		if !bytes.Equal(b, x.want) || err != nil {
			t.Error(x.n, x.size, b, err)
		}
	}
}

// TestWriterNumRange is P1.1: other sizes, and numbers that don't fit, are ErrRange.
func TestWriterNumRange(t *testing.T) {
	for _, size := range []int{math.MinInt, -8, -1, 0, 3, 5, 6, 7, 9, 16, 64, 257, 1 << 32, 1<<32 + 1, math.MaxInt} {
		for _, n := range []uint64{0, 1, 1<<64 - 1} {
			if b, err := new(octets.Writer).Num(n, size).Done(); len(b) != 0 || err != api.ErrRange {
				t.Error(n, size, b, err)
			}
		}
	}
	for _, size := range []int{1, 2, 4} {
		least := uint64(1) << (8 * size)
		for _, n := range []uint64{least, least + 1, least << 7, 1 << 63, 1<<64 - 1} {
			if b, err := new(octets.Writer).Num(n, size).Done(); len(b) != 0 || err != api.ErrRange {
				t.Error(n, size, b, err)
			}
		}
	}
}

// TestWriterBytes is P1.1: their number, in two bytes, is ahead of the bytes, of which there are 65535 at most.
func TestWriterBytes(t *testing.T) {
	for _, n := range []int{0, 1, 2, 255, 256, 257, 65534, 65535} {
		in := bytes.Repeat([]byte{7}, n)
		want := append([]byte{byte(n >> 8), byte(n)}, in...)
		if b, err := new(octets.Writer).Bytes(in).Done(); !bytes.Equal(b, want) || err != nil {
			t.Error(n, len(b), err)
		}
	}
	for _, n := range []int{65536, 65537, 1 << 17} {
		if b, err := new(octets.Writer).Bytes(make([]byte, n)).Done(); len(b) != 0 || err != api.ErrLarge {
			t.Error(n, len(b), err)
		}
	}
	if b, err := new(octets.Writer).Bytes(nil).Done(); !bytes.Equal(b, []byte{0, 0}) || err != nil {
		t.Error(b, err)
	}
}

// TestWriterOthers is P1.1: bytes as they are, hashes and flags, one after the other.
func TestWriterOthers(t *testing.T) {
	h := api.Hash{1, 2, 31: 9}
	long := make([]byte, 65537)
	for _, x := range []struct {
		w    *octets.Writer
		want []byte
	}{
		{new(octets.Writer).Num(258, 2).Flag(true), []byte{1, 2, 1}},
		{new(octets.Writer).Flag(true), []byte{1}},
		{new(octets.Writer).Flag(false), []byte{0}},
		{new(octets.Writer).Raw(nil), nil},
		{new(octets.Writer).Raw([]byte{5, 6}).Raw([]byte{7}), []byte{5, 6, 7}},
		{new(octets.Writer).Raw(long), long},
		{new(octets.Writer).Hash(h), h[:]},
		{new(octets.Writer).Flag(false).Hash(h).Bytes([]byte("ab")).Num(3, 4), append(append([]byte{0}, h[:]...), 0, 2, 'a', 'b', 0, 0, 0, 3)},
	} {
		if b, err := x.w.Done(); !bytes.Equal(b, x.want) || err != nil {
			t.Error(b, x.want, err)
		}
	}
}

// writes are calls of a writer, those that are refused by the error that they give.
func writes() []struct {
	do  func(w *octets.Writer) *octets.Writer
	err error
} {
	return []struct {
		do  func(w *octets.Writer) *octets.Writer
		err error
	}{
		{func(w *octets.Writer) *octets.Writer { return w.Num(1, 1) }, nil},
		{func(w *octets.Writer) *octets.Writer { return w.Bytes([]byte{1}) }, nil},
		{func(w *octets.Writer) *octets.Writer { return w.Raw([]byte{1}) }, nil},
		{func(w *octets.Writer) *octets.Writer { return w.Hash(api.Hash{1}) }, nil},
		{func(w *octets.Writer) *octets.Writer { return w.Flag(true) }, nil},
		{func(w *octets.Writer) *octets.Writer { return w.Num(256, 1) }, api.ErrRange},
		{func(w *octets.Writer) *octets.Writer { return w.Num(1, 3) }, api.ErrRange},
		{func(w *octets.Writer) *octets.Writer { return w.Bytes(make([]byte, 65536)) }, api.ErrLarge},
	}
}

// TestWriterFirstError is P1.1: the first error stays, and nothing is returned beside it, whatever is written before or after.
func TestWriterFirstError(t *testing.T) {
	for i, a := range writes() {
		for j, b := range writes() {
			for k, c := range writes() {
				var want error
				for _, err := range []error{a.err, b.err, c.err} {
					if want == nil {
						want = err
					}
				}
				w := c.do(b.do(a.do(new(octets.Writer))))
				for range 2 {
					if got, err := w.Done(); err != want || (len(got) == 0) != (want != nil) {
						t.Error(i, j, k, got, err)
					}
				}
			}
		}
	}
}

// TestWriterItself is P1.1: the methods return the writer that they were called on, with an error or without.
func TestWriterItself(t *testing.T) {
	for i, a := range writes() {
		for j, b := range writes() {
			w := new(octets.Writer)
			a.do(w)
			if b.do(w) != w {
				t.Error(i, j)
			}
		}
	}
}

// TestDone is P1.1: it returns a copy, and the writer goes on.
func TestDone(t *testing.T) {
	w := new(octets.Writer).Num(1, 1)
	a, _ := w.Done()
	_ = append(a, 8)
	a[0] = 9
	b, err := w.Num(2, 1).Done()
	if !bytes.Equal(b, []byte{1, 2}) || err != nil || a[0] != 9 {
		t.Error(a, b, err)
	}
	w.Num(3, 1)
	if c, _ := w.Done(); !bytes.Equal(c, []byte{1, 2, 3}) || !bytes.Equal(b, []byte{1, 2}) {
		t.Error(b, c)
	}
	w.Num(0, 0)
	if c, err := w.Done(); len(c) != 0 || err != api.ErrRange || !bytes.Equal(b, []byte{1, 2}) {
		t.Error(b, c, err)
	}
}

// TestWriterArguments is P1.1: arguments are neither modified nor retained, including their spare capacity.
func TestWriterArguments(t *testing.T) {
	for _, write := range []func(w *octets.Writer, b []byte){
		func(w *octets.Writer, b []byte) { w.Raw(b) },
		func(w *octets.Writer, b []byte) { w.Bytes(b) },
	} {
		in := []byte{1, 2, 3, 4, 5, 6, 7, 8}
		w := new(octets.Writer)
		write(w, in[:2])
		w.Num(9, 1)
		if !bytes.Equal(in, []byte{1, 2, 3, 4, 5, 6, 7, 8}) {
			t.Error(in)
		}
		in[0] = 99
		if b, _ := w.Done(); bytes.IndexByte(b, 99) >= 0 {
			t.Error(b)
		}
	}
}

// TestNilWriter is P1.1: ErrNone, and a nil writer.
func TestNilWriter(t *testing.T) {
	for i, x := range writes() {
		var w *octets.Writer
		if x.do(w) != nil {
			t.Error(i)
		}
		if b, err := x.do(w).Done(); len(b) != 0 || err != api.ErrNone {
			t.Error(i, b, err)
		}
	}
}
