package seal_test

import (
	"bytes"
	"encoding/binary"
	"errors"
	"math/rand"
	"testing"

	"entrust/api"
	"entrust/octets"
	"entrust/seal"
)

// steps is a sealed block all of whose bytes are unlike, and its 56 bytes.
func steps() (seal.Sealed, []byte) {
	b := make([]byte, 56)
	for i := range b {
		b[i] = byte(i + 1)
	}
	return seal.Sealed{Epoch: 0x0102030405060708, Data: api.Block(b[8:40]), Tag: [16]byte(b[40:])}, b
}

// TestPut is P7.1: the bytes are the epoch, the data and the tag, whatever they are; also an epoch out of range is put.
func TestPut(t *testing.T) {
	x, want := steps()
	if got := seal.Put(x); !bytes.Equal(got, want) {
		t.Errorf("%x, not %x", got, want)
	}
	if got := seal.Put(seal.Sealed{}); !bytes.Equal(got, make([]byte, 56)) {
		t.Errorf("%x", got)
	}
	for _, epoch := range append(epochs(), badEpochs()...) {
		x.Epoch = epoch
		binary.BigEndian.PutUint64(want, epoch)
		if got := seal.Put(x); !bytes.Equal(got, want) {
			t.Errorf("epoch %d: %x, not %x", epoch, got, want)
		}
	}
}

// TestParse is P7.1: what Put makes of anything is parsed as it was, also with an epoch out of range, and all bytes are put as they were.
func TestParse(t *testing.T) {
	rnd := rand.New(rand.NewSource(9))
	want, b := steps()
	if x, err := seal.Parse(b); err != nil || x != want {
		t.Errorf("%x and %v, not %x", x, err, want)
	}
	for _, epoch := range append(epochs(), badEpochs()...) {
		want := seal.Sealed{Epoch: epoch, Data: api.Block(text(rnd, 32)), Tag: [16]byte(text(rnd, 16))}
		if x, err := seal.Parse(seal.Put(want)); err != nil || x != want {
			t.Errorf("%x and %v, not %x", x, err, want)
		}
	}
	for range 200 {
		b := text(rnd, 56)
		x, err := seal.Parse(b)
		if err != nil || !bytes.Equal(seal.Put(x), b) {
			t.Errorf("%x: %x and %v", b, x, err)
		}
	}
}

// TestParseLengths is P7.1: bytes that aren't exactly 56, none among them, are ErrForm and zeros.
func TestParseLengths(t *testing.T) {
	rnd := rand.New(rand.NewSource(10))
	_, whole := steps()
	for n := range 200 {
		b := append(bytes.Clone(whole), text(rnd, 144)...)[:n]
		x, err := seal.Parse(b)
		if n == 56 && (err != nil || x == seal.Sealed{}) {
			t.Errorf("%d bytes: %x and %v", n, x, err)
		}
		if n != 56 && (err != api.ErrForm || x != seal.Sealed{}) {
			t.Errorf("%d bytes: %x and %v", n, x, err)
		}
	}
	for _, n := range []int{112, 65535, 65536 + 56, 1 << 20} {
		if x, err := seal.Parse(make([]byte, n)); err != api.ErrForm || x != (seal.Sealed{}) {
			t.Errorf("%d bytes: %x and %v", n, x, err)
		}
	}
	if x, err := seal.Parse(nil); err != api.ErrForm || x != (seal.Sealed{}) {
		t.Errorf("nil: %x and %v", x, err)
	}
}

// TestRead is P7.1: sealed blocks are read one behind the other, between other fields, and the reader goes on behind them.
func TestRead(t *testing.T) {
	rnd := rand.New(rand.NewSource(11))
	a, b := steps()
	c := seal.Sealed{Data: api.Block(text(rnd, 32)), Tag: [16]byte(text(rnd, 16))}
	all, err := new(octets.Writer).Num(7, 2).Raw(b).Raw(seal.Put(c)).Flag(true).Done()
	if err != nil {
		t.Fatal(err)
	}
	r := octets.From(all)
	if n := r.Num(2); n != 7 {
		t.Fatal(n)
	}
	if x := seal.Read(r); x != a || r.Left() != 57 {
		t.Errorf("%x with %d left, not %x", x, r.Left(), a)
	}
	if x := seal.Read(r); x != c || r.Left() != 1 {
		t.Errorf("%x with %d left, not %x", x, r.Left(), c)
	}
	if !r.Flag() || r.End() != nil {
		t.Error("the reader didn't go on", r.End())
	}
}

// TestReadTooFew is P7.1: of a sealed block that isn't there completely nothing is read, and the reader's error is ErrForm from then on.
func TestReadTooFew(t *testing.T) {
	_, whole := steps()
	for n := range 56 {
		r := octets.From(append([]byte{9}, whole[:n]...))
		if got := r.Num(1); got != 9 {
			t.Fatal(got)
		}
		if x := seal.Read(r); x != (seal.Sealed{}) || r.End() != api.ErrForm || r.Left() != 0 {
			t.Errorf("%d bytes: %x, %v, %d left", n, x, r.End(), r.Left())
		}
		if x := seal.Read(r); x != (seal.Sealed{}) || r.End() != api.ErrForm || r.Num(1) != 0 {
			t.Errorf("%d bytes, again: %x, %v", n, x, r.End())
		}
	}
}

// TestReadAfterError is P7.1: a reader that has an error reads a sealed block of zeros and keeps its error; for none it is zeros too.
func TestReadAfterError(t *testing.T) {
	_, whole := steps()
	own := errors.New("the test's own")
	for _, err := range []error{api.ErrForm, api.ErrAuth, api.ErrRange, own} {
		r := octets.From(append(bytes.Clone(whole), whole...))
		seal.Read(r)
		r.Fail(err)
		if x := seal.Read(r); x != (seal.Sealed{}) || r.End() != err {
			t.Errorf("%v: %x and %v", err, x, r.End())
		}
	}
	var none *octets.Reader
	if x := seal.Read(none); x != (seal.Sealed{}) || none.End() != api.ErrNone {
		t.Errorf("%x", x)
	}
}
