package octets_test

import (
	"bytes"
	"encoding/binary"
	"math/rand"
	"testing"

	"entrust/api"
	"entrust/octets"
)

// field is a field of a sequence: how it is written, its bytes as the chapter has them, and whether a reader reads it as it was.
type field struct {
	write func(w *octets.Writer)
	bytes []byte
	same  func(r *octets.Reader) bool
}

// number is a field of a random number, often one at the edge of its size.
func number(rnd *rand.Rand) field {
	size := []int{1, 2, 4, 8}[rnd.Intn(4)]
	n := rnd.Uint64() >> (64 - 8*size)
	switch rnd.Intn(4) {
	case 0:
		n = 0
	case 1:
		n = ^uint64(0) >> (64 - 8*size)
	}
	return field{
		func(w *octets.Writer) { w.Num(n, size) },
		binary.BigEndian.AppendUint64(nil, n)[8-size:],
		func(r *octets.Reader) bool { return r.Num(size) == n },
	}
}

// text is a field of random bytes, with or without their number.
func text(rnd *rand.Rand, counted bool) field {
	b := make([]byte, []int{0, 1, 2, 255, 256, rnd.Intn(600)}[rnd.Intn(6)])
	rnd.Read(b)
	if counted {
		return field{
			func(w *octets.Writer) { w.Bytes(b) },
			append(binary.BigEndian.AppendUint16(nil, uint16(len(b))), b...),
			func(r *octets.Reader) bool { return bytes.Equal(r.Bytes(len(b)), b) },
		}
	}
	return field{
		func(w *octets.Writer) { w.Raw(b) },
		b,
		func(r *octets.Reader) bool { return bytes.Equal(r.Raw(len(b)), b) },
	}
}

// anyField is a field of a random kind.
func anyField(rnd *rand.Rand) field {
	switch rnd.Intn(5) {
	case 0:
		var h api.Hash
		rnd.Read(h[:])
		return field{func(w *octets.Writer) { w.Hash(h) }, h[:], func(r *octets.Reader) bool { return r.Hash() == h }}
	case 1:
		is := rnd.Intn(2) == 1
		b := []byte{0}
		if is {
			b[0] = 1
		}
		return field{func(w *octets.Writer) { w.Flag(is) }, b, func(r *octets.Reader) bool { return r.Flag() == is }}
	case 2:
		return text(rnd, true)
	case 3:
		return text(rnd, false)
	}
	return number(rnd)
}

// anyFields is a sequence of random fields, and its bytes.
func anyFields(rnd *rand.Rand) ([]field, []byte) {
	var list []field
	var b []byte
	for range rnd.Intn(12) {
		f := anyField(rnd)
		list = append(list, f)
		b = append(b, f.bytes...)
	}
	return list, b
}

// TestReadAsWritten is P1.2: what is written is read as it was, with nothing left.
func TestReadAsWritten(t *testing.T) {
	rnd := rand.New(rand.NewSource(1))
	for i := range 2000 {
		list, want := anyFields(rnd)
		var w octets.Writer
		for _, f := range list {
			f.write(&w)
		}
		b, err := w.Done()
		if !bytes.Equal(b, want) || err != nil {
			t.Fatal(i, b, want, err)
		}
		r := octets.From(b)
		left := len(b)
		for j, f := range list {
			left -= len(f.bytes)
			if !f.same(r) || r.Left() != left {
				t.Fatal(i, j, r.Left(), left)
			}
		}
		if r.End() != nil {
			t.Fatal(i, r.End())
		}
	}
}

// TestCutShort is P1.1: of bytes that end within a field, those ahead of it are read as they were, and the rest as zero, with ErrForm.
func TestCutShort(t *testing.T) {
	rnd := rand.New(rand.NewSource(2))
	for i := range 300 {
		list, b := anyFields(rnd)
		if len(b) == 0 {
			continue
		}
		cut := rnd.Intn(len(b))
		r := octets.From(b[:cut])
		at := 0
		for j, f := range list {
			at += len(f.bytes)
			if same := f.same(r); at <= cut && !same {
				t.Fatal(i, j, "ahead of the cut")
			}
			if at > cut && (r.Left() != 0 || r.End() != api.ErrForm) {
				t.Fatal(i, j, r.Left(), r.End())
			}
		}
	}
}

// TestLongest is P1.2: 65535 bytes are read as they were.
func TestLongest(t *testing.T) {
	in := make([]byte, 65535)
	rand.New(rand.NewSource(3)).Read(in)
	b, err := new(octets.Writer).Bytes(in).Flag(true).Done()
	if err != nil || len(b) != 65538 {
		t.Fatal(len(b), err)
	}
	r := octets.From(b)
	if !bytes.Equal(r.Bytes(65535), in) || !r.Flag() || r.End() != nil {
		t.Error(r.End())
	}
}

// plain is a reader as the chapter's words have it: bytes, a position, and an error.
type plain struct {
	b   []byte
	at  int
	err error
}

// read is the next n bytes, if they can be read completely and ok holds for them; otherwise nothing.
func (p *plain) read(n int, ok func(b []byte) bool) []byte {
	if p.err != nil {
		return nil
	}
	if n < 0 || p.at+n > len(p.b) || !ok(p.b[p.at:p.at+n]) {
		p.err = api.ErrForm
		return nil
	}
	p.at += n
	return p.b[p.at-n : p.at]
}

// counted is the next bytes behind their number, if there are at most most.
func (p *plain) counted(most int) []byte {
	n := 0
	if p.at+2 <= len(p.b) {
		n = int(binary.BigEndian.Uint16(p.b[p.at:]))
	}
	b := p.read(2+n, func([]byte) bool { return n <= most })
	return b[min(2, len(b)):]
}

func (p *plain) left() int {
	if p.err != nil {
		return 0
	}
	return len(p.b) - p.at
}

func (p *plain) end() error {
	if p.err == nil && p.at < len(p.b) {
		return api.ErrForm
	}
	return p.err
}

// bothRead does a random call of both readers, and reports whether they answer the same.
func bothRead(rnd *rand.Rand, r *octets.Reader, p *plain) bool {
	all := func([]byte) bool { return true }
	switch rnd.Intn(7) {
	case 0:
		size := rnd.Intn(11) - 1
		b := p.read(size, func([]byte) bool { return size == 1 || size == 2 || size == 4 || size == 8 })
		return r.Num(size) == binary.BigEndian.Uint64(append(make([]byte, 8-len(b)), b...))
	case 1:
		most := rnd.Intn(6) - 1
		return bytes.Equal(r.Bytes(most), p.counted(most))
	case 2:
		n := rnd.Intn(8) - 1
		return bytes.Equal(r.Raw(n), p.read(n, all))
	case 3:
		var h api.Hash
		copy(h[:], p.read(32, all))
		return r.Hash() == h
	case 4:
		b := p.read(1, func(b []byte) bool { return b[0] < 2 })
		return r.Flag() == (len(b) == 1 && b[0] == 1)
	case 5:
		err := []error{nil, nil, nil, nil, nil, api.ErrStale, api.ErrAuth}[rnd.Intn(7)]
		r.Fail(err)
		if p.err == nil {
			p.err = err
		}
	}
	return true
}

// TestReaderAsDescribed is P1.1: in any order of calls, and for any bytes, a reader answers as the chapter's words say.
func TestReaderAsDescribed(t *testing.T) {
	rnd := rand.New(rand.NewSource(4))
	for i := range 20000 {
		b := make([]byte, rnd.Intn(80))
		for j := range b {
			b[j] = byte(rnd.Intn(4))
		}
		r, p := octets.From(b), &plain{b: b}
		for j := range 12 {
			if !bothRead(rnd, r, p) || r.Left() != p.left() || r.End() != p.end() {
				t.Fatal(i, j, b, r.Left(), p.left(), r.End(), p.end())
			}
		}
	}
}
