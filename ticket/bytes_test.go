package ticket_test

import (
	"bytes"
	"encoding/binary"
	"encoding/hex"
	"errors"
	"math"
	"math/rand"
	"testing"

	"entrust/api"
	"entrust/keys"
	"entrust/octets"
	"entrust/seal"
	"entrust/ticket"
)

// decode is the ticket of bytes, if there is one, as the definition has it.
func decode(b []byte) (ticket.Ticket, bool) {
	var t ticket.Ticket
	if len(b) < 18 {
		return t, false
	}
	t.Prev, t.Epoch, t.Order.Kind = binary.BigEndian.Uint64(b), binary.BigEndian.Uint64(b[8:]), int(b[16])
	body := b[17:]
	count := int(body[0]) + 1
	switch {
	case t.Order.Kind == 1 && len(body) == 1+60*count+16, t.Order.Kind == 2 && len(body) == 1+4*count+16:
		for i := range count {
			t.Order.Indices = append(t.Order.Indices, uint64(binary.BigEndian.Uint32(body[1+4*i:])))
		}
		for i := 1 + 4*count; t.Order.Kind == 1 && i < len(body)-16; i += 56 {
			t.Order.Sealed = append(t.Order.Sealed, seal.Sealed{Epoch: binary.BigEndian.Uint64(body[i:]), Data: api.Block(body[i+8 : i+40]), Tag: [16]byte(body[i+40 : i+56])})
		}
	case t.Order.Kind == 3 && len(body) == 8+16:
		t.Order.Blocks = binary.BigEndian.Uint64(body)
	default:
		return ticket.Ticket{}, false
	}
	t.Tag = [16]byte(b[len(b)-16:])
	if fault(t.Prev, t.Epoch, t.Order) != nil {
		return ticket.Ticket{}, false
	}
	return t, true
}

// isParsed fails if bytes aren't parsed, and read, as a ticket.
func isParsed(t *testing.T, b []byte, want ticket.Ticket) {
	t.Helper()
	got, err := ticket.Parse(b)
	if err != nil || !alike(got, want) {
		t.Fatalf("%x: %x and %v", b[:min(len(b), 100)], got, err)
	}
	r := octets.From(b)
	if got := ticket.Read(r); !alike(got, want) || r.End() != nil || r.Left() != 0 {
		t.Fatalf("%x: %x is read, %v, %d left", b[:min(len(b), 100)], got, r.End(), r.Left())
	}
}

// notParsed fails if bytes are parsed as a ticket, or have another error than ErrForm.
func notParsed(t *testing.T, b []byte) {
	t.Helper()
	got, err := ticket.Parse(b)
	if err != api.ErrForm {
		t.Fatalf("%x: %x and %v", b[:min(len(b), 100)], got, err)
	}
	isNone(t, got)
}

// notRead fails if a reader of bytes, whatever stands behind them, reads a ticket, or has another error than ErrForm from then on.
func notRead(t *testing.T, b []byte) {
	t.Helper()
	notParsed(t, b)
	r := octets.From(b)
	got := ticket.Read(r)
	if r.End() != api.ErrForm || r.Left() != 0 || r.Num(1) != 0 {
		t.Fatalf("%x: %x is read, %v, %d left", b[:min(len(b), 100)], got, r.End(), r.Left())
	}
	isNone(t, got)
}

// TestPutKnown is P13.1: bytes that Python's hashlib made, of a ticket of each kind; the chapter's example is the first one.
func TestPutKnown(t *testing.T) {
	key := keys.Of(api.Key{}).Ticket
	for i, c := range []struct {
		prev, epoch uint64
		order       ticket.Order
		want        string
	}{
		{0, 1, resizeTo(5), "000000000000000000000000000000010300000000000000055998808d2dd19ec6e5f1810d3a8b1551"},
		{6, 7, resizeTo(1 << 32), "000000000000000600000000000000070300000001000000005961d0f1e39efee15a0d4f5643862365"},
		{lastEpoch - 1, lastEpoch, resizeTo(65536), "fffffffffffffffdfffffffffffffffe03000000000001000015a72f232d2aca04d8d5982f8a320957"},
		{0, 1, trimOf([]uint64{0}), "000000000000000000000000000000010200000000008d99af4e40ec2aa6be87e2a45becc350"},
		{3, 4, trimOf([]uint64{lastIndex}), "000000000000000300000000000000040200ffffffff68dfd2e39af76ffb0139964ced769ba0"},
		{1, 2, trimOf([]uint64{1, 2, 258}), "0000000000000001000000000000000202020000000100000002000001022c23af2f2f29dc41e387bac744db1219"},
		{0, 1, knownWrite(1, 0), "00000000000000000000000000000001010000000000000000000000000101010101010101010101010101010101010101010101010101010101010101016565656565656565656565656565656540abded5cadfda9daf01576e53a80ad1"},
	} {
		want, err := hex.DecodeString(c.want)
		if err != nil {
			t.Fatal(err)
		}
		x := mustSign(t, key, c.prev, c.epoch, c.order)
		if got := mustPut(t, x); !bytes.Equal(got, want) {
			t.Errorf("%d: %x", i, got)
		}
		isParsed(t, want, x)
	}
}

// TestPut is P13.1 and P13.2: the bytes of tickets of each kind, at all edges, are those of the definition, whichever tag they have, and are parsed as the same ticket, which is still checked.
func TestPut(t *testing.T) {
	rnd := rand.New(rand.NewSource(21))
	key := randomKey(rnd)
	for _, at := range epochPairs() {
		for _, o := range orders(rnd, at[1]) {
			x := mustSign(t, key, at[0], at[1], o)
			for _, tag := range [][16]byte{{}, [16]byte(text(rnd, 16)), x.Tag} {
				x.Tag = tag
				b := mustPut(t, x)
				if !bytes.Equal(b, definedBytes(x)) {
					t.Fatalf("%d, kind %d, %d indices: %x", at, o.Kind, len(o.Indices), b[:40])
				}
				isParsed(t, b, x)
			}
			got, err := ticket.Parse(mustPut(t, x))
			if err != nil || ticket.Check(key, got) != nil || !ticket.Same(got, x) {
				t.Fatalf("%d, kind %d, %d indices: %v and %v", at, o.Kind, len(o.Indices), err, ticket.Check(key, got))
			}
		}
	}
}

// TestPutSealed is P13.1: the bytes of a write's sealed blocks are those of layer 7, behind all the indices.
func TestPutSealed(t *testing.T) {
	rnd := rand.New(rand.NewSource(22))
	for _, list := range lists(rnd) {
		o := writeOf(rnd, 77, list)
		b := mustPut(t, ticket.Ticket{Prev: 5, Epoch: 77, Order: o})
		at := 18 + 4*len(list)
		for i, x := range o.Sealed {
			if !bytes.Equal(b[at+56*i:at+56*i+56], seal.Put(x)) {
				t.Fatalf("%d indices, %d: %x", len(list), i, b[at+56*i:])
			}
		}
		if len(b) != at+56*len(list)+16 {
			t.Errorf("%d indices: %d bytes", len(list), len(b))
		}
	}
}

// TestCutShort is P13.1: a ticket's bytes that end too early, wherever, are ErrForm and the zero ticket, and so are some with more behind them, of which Read takes the ticket's alone.
func TestCutShort(t *testing.T) {
	rnd := rand.New(rand.NewSource(23))
	key := randomKey(rnd)
	for _, o := range append(fewOrders(rnd, 9), writeOf(rnd, 9, spread(rnd, 40)), trimOf(from(7, 256))) {
		x := mustSign(t, key, 4, 9, o)
		b := mustPut(t, x)
		for n := range b {
			notRead(t, b[:n])
		}
		for _, rest := range [][]byte{{0}, {1}, text(rnd, 16), text(rnd, 60), b} {
			notParsed(t, append(bytes.Clone(b), rest...))
			r := octets.From(append(bytes.Clone(b), rest...))
			if got := ticket.Read(r); !alike(got, x) || r.Left() != len(rest) || !bytes.Equal(r.Raw(len(rest)), rest) || r.End() != nil {
				t.Fatalf("kind %d, %d more: %x and %v", o.Kind, len(rest), got, r.End())
			}
		}
	}
	notRead(t, nil)
	notRead(t, []byte{})
}

// TestReadKinds is P13.1: ErrForm for each byte that is no kind, and for each kind in front of another one's bytes.
func TestReadKinds(t *testing.T) {
	rnd := rand.New(rand.NewSource(24))
	for _, o := range fewOrders(rnd, 9) {
		b := mustPut(t, ticket.Ticket{Prev: 4, Epoch: 9, Order: o})
		for kind := range 256 {
			b[16] = byte(kind)
			switch {
			case kind == o.Kind:
				isParsed(t, b, ticket.Ticket{Prev: 4, Epoch: 9, Order: o})
			case kind < 1 || kind > 3:
				notRead(t, b)
				notRead(t, append(bytes.Clone(b), make([]byte, 16000)...))
			default:
				notParsed(t, b)
			}
		}
	}
	for n := range 100 {
		notRead(t, make([]byte, n))
		notRead(t, append(binary.BigEndian.AppendUint64(make([]byte, 8), 1), make([]byte, n)...))
	}
}

// TestReadEpochs is P13.1: ErrForm for epochs that no ticket has, though Sign names them by ErrRange.
func TestReadEpochs(t *testing.T) {
	rnd := rand.New(rand.NewSource(25))
	for _, at := range noEpochPairs() {
		for _, o := range fewOrders(rnd, at[1]) {
			notRead(t, definedBytes(ticket.Ticket{Prev: at[0], Epoch: at[1], Order: o}))
		}
	}
	for _, at := range epochPairs() {
		for _, o := range fewOrders(rnd, at[1]) {
			x := ticket.Ticket{Prev: at[0], Epoch: at[1], Order: o}
			isParsed(t, definedBytes(x), x)
		}
	}
}

// TestReadOrders is P13.1: ErrForm for indices that are no list, numbers of blocks that no volume has, and sealed blocks of another epoch than the ticket's, be it one or several.
func TestReadOrders(t *testing.T) {
	rnd := rand.New(rand.NewSource(26))
	for _, list := range noLists(rnd) {
		if len(list) < 2 || len(list) > 256 || list[0] > lastIndex || list[1] > lastIndex || list[len(list)-1] > lastIndex {
			continue // such as can't be written in these bytes at all
		}
		notRead(t, definedBytes(ticket.Ticket{Prev: 4, Epoch: 9, Order: trimOf(list)}))
		notRead(t, definedBytes(ticket.Ticket{Prev: 4, Epoch: 9, Order: writeOf(rnd, 9, list)}))
	}
	for _, n := range noNumbers() {
		notRead(t, definedBytes(ticket.Ticket{Prev: 4, Epoch: 9, Order: resizeTo(n)}))
	}
	for _, list := range lists(rnd) {
		good := writeOf(rnd, 9, list)
		for _, other := range []uint64{0, 4, 8, 10, 1<<32 + 9, lastEpoch, math.MaxUint64} {
			notRead(t, definedBytes(ticket.Ticket{Prev: 4, Epoch: 9, Order: writeOf(rnd, other, list)}))
			for _, i := range []int{0, len(list) / 2, len(list) - 1} {
				bad := changed(good, func(o *ticket.Order) { o.Sealed[i].Epoch = other })
				notRead(t, definedBytes(ticket.Ticket{Prev: 4, Epoch: 9, Order: bad}))
			}
		}
	}
}

// TestReadBetween is P13.1: tickets are read one behind the other, between other fields, and the reader goes on behind them.
func TestReadBetween(t *testing.T) {
	rnd := rand.New(rand.NewSource(27))
	key := randomKey(rnd)
	var w octets.Writer
	var all []ticket.Ticket
	for i, o := range orders(rnd, 9) {
		x := mustSign(t, key, uint64(i%9), 9, o)
		all = append(all, x)
		w.Num(uint64(i), 2).Raw(mustPut(t, x))
	}
	b, err := w.Flag(true).Done()
	if err != nil {
		t.Fatal(err)
	}
	r := octets.From(b)
	for i, want := range all {
		if n := r.Num(2); n != uint64(i) {
			t.Fatal(i, n)
		}
		if got := ticket.Read(r); !alike(got, want) {
			t.Fatalf("%d: %x, not %x", i, got, want)
		}
	}
	if !r.Flag() || r.End() != nil {
		t.Error(r.End())
	}
}

// TestReadAfterError is P13.1: a reader that has an error reads the zero ticket and keeps its error; and so does none.
func TestReadAfterError(t *testing.T) {
	rnd := rand.New(rand.NewSource(28))
	own := errors.New("the test's own")
	for _, o := range fewOrders(rnd, 9) {
		b := mustPut(t, ticket.Ticket{Prev: 4, Epoch: 9, Order: o})
		for _, err := range []error{api.ErrForm, api.ErrAuth, api.ErrRange, api.ErrNone, own} {
			for _, read := range []bool{false, true} {
				r := octets.From(append(bytes.Clone(b), b...))
				if read {
					ticket.Read(r)
				}
				r.Fail(err)
				isNone(t, ticket.Read(r))
				if r.End() != err || r.Left() != 0 {
					t.Fatalf("%v became %v", err, r.End())
				}
			}
		}
		r := octets.From(append(bytes.Clone(b), b[:len(b)-1]...))
		if got := ticket.Read(r); !alike(got, ticket.Ticket{Prev: 4, Epoch: 9, Order: o}) {
			t.Fatalf("%x", got)
		}
		for range 3 {
			isNone(t, ticket.Read(r))
			if r.End() != api.ErrForm {
				t.Fatal(r.End())
			}
		}
	}
	var none *octets.Reader
	isNone(t, ticket.Read(none))
	if none.End() != api.ErrNone {
		t.Error(none.End())
	}
}

// TestParseAny is P13.1: small tickets' bytes with some of them changed, left out or put in are parsed as the definition has it; what is parsed is put as it was.
func TestParseAny(t *testing.T) {
	rnd := rand.New(rand.NewSource(29))
	parsed := 0
	for range 60000 {
		epoch := uint64(1 + rnd.Intn(3))
		o := fewOrders(rnd, epoch)[rnd.Intn(9)]
		b := definedBytes(ticket.Ticket{Prev: epoch - 1, Epoch: epoch, Order: o, Tag: [16]byte(text(rnd, 16))})
		for range rnd.Intn(4) {
			b = damaged(rnd, b)
		}
		want, is := decode(b)
		if !is {
			notParsed(t, b)
			continue
		}
		parsed++
		isParsed(t, b, want)
		if got := mustPut(t, want); !bytes.Equal(got, b) {
			t.Fatalf("%x, not %x", got, b)
		}
	}
	if parsed < 10000 || parsed > 50000 {
		t.Error(parsed, "are tickets")
	}
}

// damaged is bytes of which one was changed, a bit of it or all, or left out, or one more put in; mostly one of the first ones.
func damaged(rnd *rand.Rand, b []byte) []byte {
	if len(b) == 0 {
		return []byte{1}
	}
	i := rnd.Intn(len(b))
	if rnd.Intn(2) == 0 {
		i = rnd.Intn(min(len(b), 26))
	}
	switch rnd.Intn(8) {
	case 0:
		return append(bytes.Clone(b[:i]), b[i+1:]...)
	case 1:
		return append(append(bytes.Clone(b[:i]), byte(rnd.Intn(4))), b[i:]...)
	case 2, 3:
		b[i] = byte(rnd.Intn(4))
	default:
		b[i] ^= 1 << rnd.Intn(8)
	}
	return b
}

// TestBits is P13.2: with any one bit of its bytes turned, a ticket isn't checked: the bytes aren't parsed, or what they are parsed as has ErrAuth.
func TestBits(t *testing.T) {
	rnd := rand.New(rand.NewSource(30))
	for _, at := range [][2]uint64{{0, 1}, {5, 6}, {0x0102030405060708, lastEpoch}} {
		key := randomKey(rnd)
		for _, o := range fewOrders(rnd, at[1]) {
			b := mustPut(t, mustSign(t, key, at[0], at[1], o))
			for bit := range 8 * len(b) {
				turnedBit(t, key, b, bit)
			}
		}
		for _, list := range [][]uint64{spread(rnd, 256), from(0, 256)} {
			b := mustPut(t, mustSign(t, key, at[0], at[1], writeOf(rnd, at[1], list)))
			for range 200 {
				turnedBit(t, key, b, rnd.Intn(8*len(b)))
			}
		}
	}
}

// turnedBit fails if a ticket's bytes with one bit turned are checked, or are parsed as anything but what they are now.
func turnedBit(t *testing.T, key api.Hash, b []byte, bit int) {
	t.Helper()
	b[bit/8] ^= 1 << (bit % 8)
	defer func() { b[bit/8] ^= 1 << (bit % 8) }()
	want, is := decode(b)
	if !is {
		notParsed(t, b)
		return
	}
	isParsed(t, b, want)
	if err := ticket.Check(key, want); err != api.ErrAuth {
		t.Fatalf("%d bytes, bit %d: %v", len(b), bit, err)
	}
}
