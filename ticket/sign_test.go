package ticket_test

import (
	"bytes"
	"encoding/hex"
	"math"
	"math/rand"
	"slices"
	"testing"

	"entrust/api"
	"entrust/hmac"
	"entrust/keys"
	"entrust/seal"
	"entrust/ticket"
)

// TestSign is P13.1: a ticket of each kind of order and all epochs at the edges has its fields, and the short tag of layer 3, of the bytes that the definition has, with the volume's Ticket key of layer 6.
func TestSign(t *testing.T) {
	rnd := rand.New(rand.NewSource(11))
	key := keys.Of(api.Key(text(rnd, 16))).Ticket
	for _, at := range epochPairs() {
		prev, epoch := at[0], at[1]
		for _, o := range orders(rnd, epoch) {
			x := mustSign(t, key, prev, epoch, o)
			b := define(prev, epoch, o)
			if x.Prev != prev || x.Epoch != epoch || !alikeOrders(x.Order, o) {
				t.Fatalf("%d, kind %d: %x", at, o.Kind, x)
			}
			if x.Tag != tagOf(key, b) || !bytes.Equal(x.Tag[:], hmac.Short(key[:], b)) {
				t.Fatalf("%d, kind %d, %d indices: tag %x", at, o.Kind, len(o.Indices), x.Tag)
			}
			if err := ticket.Check(key, x); err != nil {
				t.Fatalf("%d, kind %d, %d indices: %v", at, o.Kind, len(o.Indices), err)
			}
		}
	}
}

// knownSealed is the sealed block at an index in the tests with known bytes.
func knownSealed(index, epoch uint64) seal.Sealed {
	x := seal.Sealed{Epoch: epoch}
	for i := range x.Data {
		x.Data[i] = byte(index + 1)
	}
	for i := range x.Tag {
		x.Tag[i] = byte(index + 101)
	}
	return x
}

// knownWrite is an order to write the known sealed blocks.
func knownWrite(epoch uint64, indices ...uint64) ticket.Order {
	o := ticket.Order{Kind: ticket.Write, Indices: indices}
	for _, index := range indices {
		o.Sealed = append(o.Sealed, knownSealed(index, epoch))
	}
	return o
}

// TestSignKnown is P13.1: numbers of bytes and tags that Python's hashlib made, with the key of zeros' Ticket; the chapter's example is the first one.
func TestSignKnown(t *testing.T) {
	key := keys.Of(api.Key{}).Ticket
	for i, c := range []struct {
		prev, epoch uint64
		order       ticket.Order
		length      int
		tag         string
	}{
		{0, 1, resizeTo(5), 41, "5998808d2dd19ec6e5f1810d3a8b1551"},
		{0, 1, resizeTo(1), 41, "53d431bb6f2d19fb6dec6babdc41874e"},
		{6, 7, resizeTo(1 << 32), 41, "5961d0f1e39efee15a0d4f5643862365"},
		{lastEpoch - 1, lastEpoch, resizeTo(65536), 41, "15a72f232d2aca04d8d5982f8a320957"},
		{0, 1, trimOf([]uint64{0}), 38, "8d99af4e40ec2aa6be87e2a45becc350"},
		{3, 4, trimOf([]uint64{lastIndex}), 38, "68dfd2e39af76ffb0139964ced769ba0"},
		{1, 2, trimOf([]uint64{1, 2, 258}), 46, "2c23af2f2f29dc41e387bac744db1219"},
		{0, lastEpoch, trimOf(from(0, 256)), 1058, "cfc8b42c40bed610d6aeed0ae04bd64f"},
		{1, 2, knownWrite(2, 1, 2), 154, "77c4deae5b6490445b91018d2d3b668b"},
		{0, 1, knownWrite(1, 0), 94, "40abded5cadfda9daf01576e53a80ad1"},
		{700, 1<<33 + 5, knownWrite(1<<33+5, 7, 65536, lastIndex), 214, "78bd0b7e5ed3a2d7007e0fd08d6b7e68"},
		{2, 3, knownWrite(3, from(0, 256)...), 15394, "87e07a7f25f784cd950302b897e08d97"},
	} {
		x := mustSign(t, key, c.prev, c.epoch, c.order)
		if got := hex.EncodeToString(x.Tag[:]); got != c.tag || len(mustPut(t, x)) != c.length {
			t.Errorf("%d: %s, %d bytes", i, got, len(mustPut(t, x)))
		}
	}
}

// noTicket fails if fields have another error than the one that is asked for, or any result beside it.
func noTicket(t *testing.T, want error, key api.Hash, prev, epoch uint64, o ticket.Order) {
	t.Helper()
	got, err := ticket.Sign(key, prev, epoch, o)
	if err != want {
		t.Fatalf("epochs %d and %d, kind %d, %d indices, %d blocks: Sign has %v, not %v", prev, epoch, o.Kind, len(o.Indices), o.Blocks, err, want)
	}
	isNone(t, got)
	x := ticket.Ticket{Prev: prev, Epoch: epoch, Order: o, Tag: [16]byte{1, 2, 3}}
	if b, err := ticket.Put(x); err != want || len(b) != 0 {
		t.Fatalf("epochs %d and %d, kind %d, %d indices, %d blocks: Put has %x and %v, not %v", prev, epoch, o.Kind, len(o.Indices), o.Blocks, b, err, want)
	}
	if err := ticket.Check(key, x); err != want {
		t.Fatalf("epochs %d and %d, kind %d, %d indices, %d blocks: Check has %v, not %v", prev, epoch, o.Kind, len(o.Indices), o.Blocks, err, want)
	}
}

// TestSignNoOrder is P13.1: ErrForm for what isn't an order, be the epochs a ticket's or not, since it is named first; Put and Check have the same error.
func TestSignNoOrder(t *testing.T) {
	rnd := rand.New(rand.NewSource(12))
	key := randomKey(rnd)
	for _, at := range [][2]uint64{{0, 1}, {4, 5}, {lastEpoch - 1, lastEpoch}, {5, 5}, {6, 5}, {0, 0}, {0, math.MaxUint64}} {
		for _, o := range append(noOrders(rnd, at[1]), ticket.Order{}) {
			noTicket(t, api.ErrForm, key, at[0], at[1], o)
		}
	}
}

// TestSignEpochs is P13.1: ErrRange for epochs that aren't a ticket's, whatever the order is, but ErrForm for a write whose blocks would be of no epoch, since it is no order; Put and Check have the same error.
func TestSignEpochs(t *testing.T) {
	rnd := rand.New(rand.NewSource(13))
	key := randomKey(rnd)
	for _, at := range noEpochPairs() {
		for _, o := range fewOrders(rnd, at[1]) {
			want := api.ErrRange
			if o.Kind == ticket.Write && slices.Contains(noEpochs(), at[1]) {
				want = api.ErrForm
			}
			noTicket(t, want, key, at[0], at[1], o)
		}
	}
}

// TestSignOtherEpoch is P13.1: ErrForm for a write whose blocks are of another epoch than the ticket, which comes ahead of ErrRange for its epochs.
func TestSignOtherEpoch(t *testing.T) {
	rnd := rand.New(rand.NewSource(14))
	key := randomKey(rnd)
	for _, at := range append(epochPairs(), noEpochPairs()...) {
		prev, epoch := at[0], at[1]
		for _, other := range []uint64{epoch + 1, epoch - 1, epoch ^ 1<<63, epoch ^ 256, prev, prev + 1, 0, 1, lastEpoch, math.MaxUint64} {
			for _, list := range [][]uint64{{0}, {3, lastIndex}, spread(rnd, 256)} {
				if other != epoch {
					noTicket(t, api.ErrForm, key, prev, epoch, writeOf(rnd, other, list))
				}
			}
		}
	}
}

// TestBlockEpochs is P13.1: blocks of the least epoch and of the greatest one make an order to write, and those of the numbers just outside make none, whichever call is asked; an order without blocks, for which such a number is a ticket's alone, stays one.
func TestBlockEpochs(t *testing.T) {
	rnd := rand.New(rand.NewSource(7))
	key := randomKey(rnd)
	for _, list := range lists(rnd) {
		for _, epoch := range []uint64{1, lastEpoch} {
			o := writeOf(rnd, epoch, list)
			if !ticket.Right(o) || !ticket.Fits(o, 1<<32) || len(mustLeaves(t, o)) != len(list) {
				t.Errorf("%d indices, epoch %d: no order", len(list), epoch)
			}
			x := mustSign(t, key, epoch-1, epoch, o)
			if err := ticket.Check(key, x); err != nil || !bytes.Equal(mustPut(t, x), definedBytes(x)) {
				t.Errorf("%d indices, epoch %d: %v", len(list), epoch, err)
			}
		}
		for _, epoch := range noEpochs() {
			o := writeOf(rnd, epoch, list)
			if ticket.Right(o) || ticket.Fits(o, 1<<32) {
				t.Errorf("%d indices, epoch %d: an order", len(list), epoch)
			}
			if leaves, err := ticket.Leaves(o); err != api.ErrForm || len(leaves) != 0 {
				t.Errorf("%d indices, epoch %d: %x and %v", len(list), epoch, leaves, err)
			}
			noTicket(t, api.ErrForm, key, 0, epoch, o)
			noTicket(t, api.ErrForm, key, 0, 1, o)
			noTicket(t, api.ErrRange, key, 0, epoch, trimOf(list))
			noTicket(t, api.ErrRange, key, 0, epoch, resizeTo(list[0]+1))
		}
	}
}

// TestSignAny is P13.1: small random orders, with epochs right and wrong, have the error that the definition names first, or a ticket.
func TestSignAny(t *testing.T) {
	rnd := rand.New(rand.NewSource(15))
	key := randomKey(rnd)
	edges := []uint64{0, 1, 2, 3, lastEpoch, math.MaxUint64}
	counts := map[error]int{}
	for range 30000 {
		prev, epoch := edges[rnd.Intn(len(edges))], edges[rnd.Intn(len(edges))]
		o := anyOrder(rnd, epoch)
		want := fault(prev, epoch, o)
		counts[want]++
		if want != nil {
			noTicket(t, want, key, prev, epoch, o)
			continue
		}
		x := mustSign(t, key, prev, epoch, o)
		if x.Tag != tagOf(key, define(prev, epoch, o)) || ticket.Check(key, x) != nil || !bytes.Equal(mustPut(t, x), definedBytes(x)) {
			t.Fatalf("%x", x)
		}
	}
	for _, err := range []error{nil, api.ErrForm, api.ErrRange} {
		if counts[err] < 1000 {
			t.Error(err, counts[err])
		}
	}
}

// TestCheckTag is P13.1: ErrAuth for a tag that is another key's, another ticket's, or none, with all fields as they should be.
func TestCheckTag(t *testing.T) {
	rnd := rand.New(rand.NewSource(16))
	for _, at := range epochPairs() {
		key := randomKey(rnd)
		for _, o := range fewOrders(rnd, at[1]) {
			x := mustSign(t, key, at[0], at[1], o)
			for _, bit := range []int{0, 7, 100, 255, rnd.Intn(256)} {
				other := key
				other[bit/8] ^= 1 << (bit % 8)
				if err := ticket.Check(other, x); err != api.ErrAuth {
					t.Fatalf("kind %d, another key: %v", o.Kind, err)
				}
			}
			whole := hmac.Mac(key[:], define(at[0], at[1], o))
			for _, tag := range [][16]byte{{}, [16]byte(whole[16:]), [16]byte(text(rnd, 16)), tagOf(key, nil), tagOf(key, definedBytes(x)), tagOf(api.Hash{}, define(at[0], at[1], o))} {
				y := x
				y.Tag = tag
				if err := ticket.Check(key, y); err != api.ErrAuth {
					t.Fatalf("kind %d, tag %x: %v", o.Kind, tag, err)
				}
			}
		}
	}
}

// TestCheckOtherKeys is P13.1: the volume's other keys, and another volume's, don't check a ticket.
func TestCheckOtherKeys(t *testing.T) {
	rnd := rand.New(rand.NewSource(17))
	set, other := keys.Of(api.Key(text(rnd, 16))), keys.Of(api.Key(text(rnd, 16)))
	for _, o := range fewOrders(rnd, 8) {
		x := mustSign(t, set.Ticket, 3, 8, o)
		for i, key := range []api.Hash{set.Tag, set.Link, set.Session(3), other.Ticket, {}} {
			if err := ticket.Check(key, x); err != api.ErrAuth {
				t.Errorf("kind %d, key %d: %v", o.Kind, i, err)
			}
		}
		if err := ticket.Check(set.Ticket, x); err != nil {
			t.Errorf("kind %d: %v", o.Kind, err)
		}
	}
}

// bitsOfFields is tickets of which each has one bit of a field turned.
func bitsOfFields(x ticket.Ticket) []ticket.Ticket {
	var out []ticket.Ticket
	turn := func(change func(y *ticket.Ticket)) {
		y := x
		y.Order.Indices, y.Order.Sealed = slices.Clone(x.Order.Indices), slices.Clone(x.Order.Sealed)
		change(&y)
		out = append(out, y)
	}
	for bit := range 64 {
		turn(func(y *ticket.Ticket) { y.Prev ^= 1 << bit })
		turn(func(y *ticket.Ticket) { y.Epoch ^= 1 << bit })
		turn(func(y *ticket.Ticket) { y.Order.Kind ^= 1 << bit })
		turn(func(y *ticket.Ticket) { y.Order.Blocks ^= 1 << bit })
		for i := range x.Order.Indices {
			turn(func(y *ticket.Ticket) { y.Order.Indices[i] ^= 1 << bit })
		}
		for i := range x.Order.Sealed {
			turn(func(y *ticket.Ticket) { y.Order.Sealed[i].Epoch ^= 1 << bit })
		}
	}
	for bit := range 256 {
		for i := range x.Order.Sealed {
			turn(func(y *ticket.Ticket) { y.Order.Sealed[i].Data[bit/8] ^= 1 << (bit % 8) })
		}
	}
	for bit := range 128 {
		turn(func(y *ticket.Ticket) { y.Tag[bit/8] ^= 1 << (bit % 8) })
		for i := range x.Order.Sealed {
			turn(func(y *ticket.Ticket) { y.Order.Sealed[i].Tag[bit/8] ^= 1 << (bit % 8) })
		}
	}
	return out
}

// TestFieldBits is P13.2: what Sign returned is checked, and with any one bit of its fields turned it isn't: it has the error of its fields, or ErrAuth.
func TestFieldBits(t *testing.T) {
	rnd := rand.New(rand.NewSource(18))
	for _, at := range [][2]uint64{{0, 1}, {5, 6}, {0x0102030405060708, lastEpoch}} {
		key := randomKey(rnd)
		for _, o := range fewOrders(rnd, at[1]) {
			x := mustSign(t, key, at[0], at[1], o)
			if err := ticket.Check(key, x); err != nil {
				t.Fatalf("kind %d: %v", o.Kind, err)
			}
			for _, y := range bitsOfFields(x) {
				want := fault(y.Prev, y.Epoch, y.Order)
				if want == nil {
					want = api.ErrAuth
				}
				if err := ticket.Check(key, y); err != want {
					t.Fatalf("%x: %v, not %v", y, err, want)
				}
				if ticket.Same(x, y) || ticket.Same(y, x) {
					t.Fatalf("%x is %x", x, y)
				}
			}
		}
	}
}

// TestExchanged is P13.2: a ticket whose sealed blocks were exchanged, whose tag is another ticket's, or whose order is turned into one of another kind with the same indices, isn't checked.
func TestExchanged(t *testing.T) {
	rnd := rand.New(rand.NewSource(19))
	key := randomKey(rnd)
	for _, list := range lists(rnd) {
		x := mustSign(t, key, 8, 9, writeOf(rnd, 9, list))
		trim := mustSign(t, key, 8, 9, trimOf(list))
		next := mustSign(t, key, 7, 9, x.Order)
		others := []ticket.Ticket{
			{Prev: 8, Epoch: 9, Order: x.Order, Tag: trim.Tag},
			{Prev: 8, Epoch: 9, Order: trim.Order, Tag: x.Tag},
			{Prev: 8, Epoch: 9, Order: x.Order, Tag: next.Tag},
			{Prev: 7, Epoch: 9, Order: x.Order, Tag: x.Tag},
			{Prev: 8, Epoch: 9, Order: writeOf(rnd, 9, list), Tag: x.Tag},
		}
		if len(list) > 1 {
			others = append(others, ticket.Ticket{Prev: 8, Epoch: 9, Tag: x.Tag, Order: changed(x.Order, func(o *ticket.Order) { slices.Reverse(o.Sealed) })})
		}
		for i, y := range others {
			if err := ticket.Check(key, y); err != api.ErrAuth {
				t.Errorf("%d indices, %d: %v", len(list), i, err)
			}
		}
	}
}
