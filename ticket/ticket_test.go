package ticket_test

import (
	libraryhmac "crypto/hmac"
	"crypto/sha256"
	"encoding/binary"
	"math"
	"math/rand"
	"slices"
	"testing"

	"entrust/api"
	"entrust/seal"
	"entrust/ticket"
)

// The greatest index, and the greatest epoch that a ticket has.
const (
	lastIndex = 1<<32 - 1
	lastEpoch = math.MaxUint64 - 1
)

func text(rnd *rand.Rand, n int) []byte {
	b := make([]byte, n)
	rnd.Read(b)
	return b
}

func randomKey(rnd *rand.Rand) api.Hash {
	return api.Hash(text(rnd, 32))
}

// from is so many indices, one behind the other.
func from(first uint64, n int) []uint64 {
	out := make([]uint64, n)
	for i := range out {
		out[i] = first + uint64(i)
	}
	return out
}

// spread is so many random indices that increase.
func spread(rnd *rand.Rand, n int) []uint64 {
	all := map[uint64]bool{}
	for len(all) < n {
		all[uint64(rnd.Uint32())] = true
	}
	var out []uint64
	for index := range all {
		out = append(out, index)
	}
	slices.Sort(out)
	return out
}

// lists is lists of indices: of one index, of few, and of as many as there may be, at both ends and between.
func lists(rnd *rand.Rand) [][]uint64 {
	return [][]uint64{
		{0}, {1}, {255}, {256}, {1 << 31}, {lastIndex - 1}, {lastIndex}, {0, 1}, {0, lastIndex}, {lastIndex - 1, lastIndex}, {1, 2, 258}, {0x01020304, 0x05060708},
		spread(rnd, 1), spread(rnd, 7), spread(rnd, 255), spread(rnd, 256), from(0, 255), from(0, 256), from(lastIndex-255, 256),
	}
}

// noLists is lists that are no order's: of too few indices or too many, of such that are too great, at either end or between, and of such that don't increase.
func noLists(rnd *rand.Rand) [][]uint64 {
	same, falls, late := from(0, 256), from(0, 256), from(lastIndex-254, 256)
	same[255], falls[255] = 254, 3
	return [][]uint64{
		nil, {}, from(0, 257), spread(rnd, 257), spread(rnd, 300), from(0, 512), from(0, 513),
		{1 << 32}, {1<<32 + 1}, {math.MaxUint64}, {0, 1 << 32}, {0, 1, math.MaxUint64}, {lastIndex, 1 << 32}, {1 << 32, 1<<32 + 1}, late,
		{0, 0}, {5, 5}, {lastIndex, lastIndex}, {1, 2, 2, 3}, {1, 1, 2}, {1, 2, 2}, same,
		{1, 0}, {lastIndex, 0}, {1, 3, 2}, {3, 1, 2}, {1 << 32, 0}, {math.MaxUint64, 0}, {0, math.MaxUint64, 1}, falls,
	}
}

// numbers is numbers of blocks.
func numbers() []uint64 {
	return []uint64{1, 2, 3, 5, 255, 256, 257, 1 << 16, 1 << 31, 1<<32 - 1, 1 << 32}
}

// noNumbers is numbers that no volume has as its blocks.
func noNumbers() []uint64 {
	return []uint64{0, 1<<32 + 1, 1<<32 + 2, 1 << 33, 1<<63 - 1, 1 << 63, 1<<63 + 1, math.MaxUint64 - 1, math.MaxUint64}
}

// noKinds is numbers that are no kind, among them those whose last byte is one's.
func noKinds() []int {
	return []int{0, 4, 5, 255, 256, 257, 258, 259, 1<<16 + 1, 1<<32 + 1, 1<<32 + 2, 1<<32 + 3, math.MaxInt, math.MaxInt - 1, -1, -2, -3, -253, -254, -255, -256, math.MinInt, math.MinInt + 1, math.MinInt + 3}
}

// randomSealed is something as long as a sealed block, of an epoch: a ticket doesn't ask whether it can be opened.
func randomSealed(rnd *rand.Rand, epoch uint64) seal.Sealed {
	return seal.Sealed{Epoch: epoch, Data: api.Block(text(rnd, 32)), Tag: [16]byte(text(rnd, 16))}
}

func randomSealeds(rnd *rand.Rand, epoch uint64, n int) []seal.Sealed {
	out := make([]seal.Sealed, n)
	for i := range out {
		out[i] = randomSealed(rnd, epoch)
	}
	return out
}

func writeOf(rnd *rand.Rand, epoch uint64, indices []uint64) ticket.Order {
	return ticket.Order{Kind: ticket.Write, Indices: indices, Sealed: randomSealeds(rnd, epoch, len(indices))}
}

func trimOf(indices []uint64) ticket.Order {
	return ticket.Order{Kind: ticket.Trim, Indices: indices}
}

func resizeTo(blocks uint64) ticket.Order {
	return ticket.Order{Kind: ticket.Resize, Blocks: blocks}
}

// orders is orders of all kinds for an epoch.
func orders(rnd *rand.Rand, epoch uint64) []ticket.Order {
	var out []ticket.Order
	for _, list := range lists(rnd) {
		out = append(out, writeOf(rnd, epoch, list), trimOf(list))
	}
	for _, n := range numbers() {
		out = append(out, resizeTo(n))
	}
	return out
}

// fewOrders is orders of all kinds for an epoch, with few indices.
func fewOrders(rnd *rand.Rand, epoch uint64) []ticket.Order {
	return []ticket.Order{
		writeOf(rnd, epoch, []uint64{0}), writeOf(rnd, epoch, []uint64{1, 258, lastIndex}), writeOf(rnd, epoch, spread(rnd, 5)),
		trimOf([]uint64{lastIndex}), trimOf([]uint64{0, 1, 2}), trimOf(spread(rnd, 6)),
		resizeTo(1), resizeTo(5), resizeTo(1 << 32),
	}
}

// changed is an order with something done to it.
func changed(o ticket.Order, change func(o *ticket.Order)) ticket.Order {
	o.Indices, o.Sealed = slices.Clone(o.Indices), slices.Clone(o.Sealed)
	change(&o)
	return o
}

// foreign is orders that have a field which their kind doesn't have.
func foreign(rnd *rand.Rand, epoch uint64) []ticket.Order {
	var out []ticket.Order
	for _, o := range fewOrders(rnd, epoch) {
		for _, n := range append(numbers(), noNumbers()...) {
			if o.Kind != ticket.Resize && n != 0 {
				out = append(out, changed(o, func(o *ticket.Order) { o.Blocks = n }))
			}
		}
		if o.Kind == ticket.Resize {
			out = append(out, changed(o, func(o *ticket.Order) { o.Indices = []uint64{0} }), changed(o, func(o *ticket.Order) { o.Indices = spread(rnd, 5) }))
			out = append(out, changed(o, func(o *ticket.Order) { o.Indices, o.Sealed = []uint64{0}, randomSealeds(rnd, epoch, 1) }))
		}
		if o.Kind != ticket.Write {
			out = append(out, changed(o, func(o *ticket.Order) { o.Sealed = make([]seal.Sealed, 1) }), changed(o, func(o *ticket.Order) { o.Sealed = randomSealeds(rnd, epoch, 1) }))
			out = append(out, changed(o, func(o *ticket.Order) { o.Sealed = randomSealeds(rnd, epoch, max(1, len(o.Indices))) }))
		}
	}
	return out
}

// noEpochs is numbers in which nothing is sealed.
func noEpochs() []uint64 {
	return []uint64{0, math.MaxUint64}
}

// badSealed is orders to write whose sealed blocks are too few, too many, not of one epoch, or of a number that is none.
func badSealed(rnd *rand.Rand, epoch uint64) []ticket.Order {
	var out []ticket.Order
	for _, list := range lists(rnd) {
		good := writeOf(rnd, epoch, list)
		out = append(out, changed(good, func(o *ticket.Order) { o.Sealed = nil }), changed(good, func(o *ticket.Order) { o.Sealed = o.Sealed[1:] }))
		out = append(out, changed(good, func(o *ticket.Order) { o.Sealed = append(o.Sealed, randomSealed(rnd, epoch)) }))
		out = append(out, changed(good, func(o *ticket.Order) { o.Sealed = append(o.Sealed, o.Sealed...) }))
		for _, none := range noEpochs() {
			out = append(out, writeOf(rnd, none, list))
		}
		for _, i := range []int{0, len(list) / 2, len(list) - 1} {
			for _, other := range []uint64{epoch + 1, epoch - 1, epoch ^ 1<<63} {
				if len(list) > 1 {
					out = append(out, changed(good, func(o *ticket.Order) { o.Sealed[i].Epoch = other }))
				}
			}
		}
	}
	return out
}

// noOrders is what isn't an order, by one fault each; where that isn't its sealed blocks' epoch, they are of the one asked for.
func noOrders(rnd *rand.Rand, epoch uint64) []ticket.Order {
	out := append(foreign(rnd, epoch), badSealed(rnd, epoch)...)
	for _, list := range noLists(rnd) {
		out = append(out, writeOf(rnd, epoch, list), trimOf(list))
	}
	for _, n := range noNumbers() {
		out = append(out, resizeTo(n))
	}
	for _, kind := range noKinds() {
		for _, o := range append(fewOrders(rnd, epoch), ticket.Order{}) {
			out = append(out, changed(o, func(o *ticket.Order) { o.Kind = kind }))
		}
	}
	return out
}

// epochPairs is epochs of tickets, each behind that of the order before it.
func epochPairs() [][2]uint64 {
	return [][2]uint64{{0, 1}, {0, 2}, {1, 2}, {1, 3}, {254, 255}, {255, 256}, {700, 1<<33 + 5}, {0x0102030405060708, 0x090a0b0c0d0e0f10}, {1<<63 - 1, 1 << 63}, {0, lastEpoch}, {1, lastEpoch}, {lastEpoch - 1, lastEpoch}}
}

// noEpochPairs is epochs that no ticket has.
func noEpochPairs() [][2]uint64 {
	return [][2]uint64{
		{0, 0}, {1, 0}, {lastEpoch, 0}, {math.MaxUint64, 0}, {1, 1}, {2, 1}, {lastEpoch, 1}, {math.MaxUint64, 1}, {256, 255}, {5, 5}, {1 << 63, 1<<63 - 1}, {1 << 63, 1 << 63},
		{0, math.MaxUint64}, {1, math.MaxUint64}, {lastEpoch, math.MaxUint64}, {math.MaxUint64, math.MaxUint64}, {lastEpoch, lastEpoch}, {math.MaxUint64, lastEpoch}, {lastEpoch, lastEpoch - 1},
	}
}

// isOrder is the chapter's definition of an order.
func isOrder(o ticket.Order) bool {
	list := len(o.Indices) >= 1 && len(o.Indices) <= 256
	for i, index := range o.Indices {
		list = list && index < 1<<32 && (i == 0 || o.Indices[i-1] < index)
	}
	oneEpoch := true
	for _, x := range o.Sealed {
		oneEpoch = oneEpoch && x.Epoch == o.Sealed[0].Epoch && x.Epoch != 0 && x.Epoch != math.MaxUint64
	}
	switch o.Kind {
	case 1:
		return list && len(o.Sealed) == len(o.Indices) && oneEpoch && o.Blocks == 0
	case 2:
		return list && len(o.Sealed) == 0 && o.Blocks == 0
	case 3:
		return len(o.Indices) == 0 && len(o.Sealed) == 0 && o.Blocks != 0 && o.Blocks <= 1<<32
	}
	return false
}

// fault is the error that the chapter has for fields, the first one of it.
func fault(prev, epoch uint64, o ticket.Order) error {
	if !isOrder(o) || o.Kind == 1 && o.Sealed[0].Epoch != epoch {
		return api.ErrForm
	}
	if epoch == 0 || epoch == math.MaxUint64 || prev >= epoch {
		return api.ErrRange
	}
	return nil
}

// define is the bytes of a ticket ahead of its tag, as the chapter defines them.
func define(prev, epoch uint64, o ticket.Order) []byte {
	b := binary.BigEndian.AppendUint64(nil, prev)
	b = binary.BigEndian.AppendUint64(b, epoch)
	b = append(b, byte(o.Kind))
	if o.Kind == 3 {
		return binary.BigEndian.AppendUint64(b, o.Blocks)
	}
	b = append(b, byte(len(o.Indices)-1))
	for _, index := range o.Indices {
		b = binary.BigEndian.AppendUint32(b, uint32(index))
	}
	for _, x := range o.Sealed {
		b = binary.BigEndian.AppendUint64(b, x.Epoch)
		b = append(b, x.Data[:]...)
		b = append(b, x.Tag[:]...)
	}
	return b
}

// tagOf is the tag of bytes, by Go's own library.
func tagOf(key api.Hash, b []byte) [16]byte {
	h := libraryhmac.New(sha256.New, key[:])
	h.Write(b)
	return [16]byte(h.Sum(nil)[:16])
}

// definedBytes is all the bytes of a ticket, as the chapter defines them.
func definedBytes(t ticket.Ticket) []byte {
	return append(define(t.Prev, t.Epoch, t.Order), t.Tag[:]...)
}

// alikeOrders reports whether two orders have the same in all fields.
func alikeOrders(a, b ticket.Order) bool {
	return a.Kind == b.Kind && a.Blocks == b.Blocks && slices.Equal(a.Indices, b.Indices) && slices.Equal(a.Sealed, b.Sealed)
}

// alike reports whether two tickets have the same in all fields.
func alike(a, b ticket.Ticket) bool {
	return a.Prev == b.Prev && a.Epoch == b.Epoch && a.Tag == b.Tag && alikeOrders(a.Order, b.Order)
}

// isNone fails if a ticket isn't the zero one.
func isNone(t *testing.T, got ticket.Ticket) {
	t.Helper()
	if !alike(got, ticket.Ticket{}) {
		t.Fatalf("%x beside an error", got)
	}
}

// mustSign is the ticket of an order.
func mustSign(t *testing.T, key api.Hash, prev, epoch uint64, o ticket.Order) ticket.Ticket {
	t.Helper()
	out, err := ticket.Sign(key, prev, epoch, o)
	if err != nil {
		t.Fatalf("epochs %d and %d, kind %d, %d indices, %d blocks: %v", prev, epoch, o.Kind, len(o.Indices), o.Blocks, err)
	}
	return out
}

// mustPut is a ticket's bytes.
func mustPut(t *testing.T, x ticket.Ticket) []byte {
	t.Helper()
	b, err := ticket.Put(x)
	if err != nil {
		t.Fatalf("epochs %d and %d, kind %d: %v", x.Prev, x.Epoch, x.Order.Kind, err)
	}
	return b
}

// TestKinds is P13.1: the kinds have their numbers.
func TestKinds(t *testing.T) {
	if ticket.Write != 1 || ticket.Trim != 2 || ticket.Resize != 3 {
		t.Error(ticket.Write, ticket.Trim, ticket.Resize)
	}
}

// TestRight is P13.1: orders of each kind, with as few indices and blocks as there may be, and as many; their sealed blocks are of one epoch, whichever it is of those that there are.
func TestRight(t *testing.T) {
	rnd := rand.New(rand.NewSource(1))
	for _, epoch := range []uint64{1, 2, 1 << 40, lastEpoch} {
		for _, o := range orders(rnd, epoch) {
			if !ticket.Right(o) {
				t.Errorf("epoch %d, kind %d, %d indices, %d blocks", epoch, o.Kind, len(o.Indices), o.Blocks)
			}
		}
	}
}

// TestNotRight is P13.1: what isn't an order: indices too few or too many, too great, alike or falling, sealed blocks too few or too many, of two epochs or of none, numbers of blocks just outside, fields of another kind, and kinds that are none.
func TestNotRight(t *testing.T) {
	rnd := rand.New(rand.NewSource(2))
	for _, epoch := range []uint64{1, 2, 1 << 40, lastEpoch} {
		for _, o := range noOrders(rnd, epoch) {
			if ticket.Right(o) {
				t.Errorf("epoch %d, kind %d, %d indices %d, %d sealed blocks, %d blocks", epoch, o.Kind, len(o.Indices), o.Indices[:min(len(o.Indices), 4)], len(o.Sealed), o.Blocks)
			}
		}
	}
	if ticket.Right(ticket.Order{}) {
		t.Error("the zero order")
	}
}

// TestEmptyFields is P13.1 with rule 4: a field that its kind doesn't have may be nil or empty.
func TestEmptyFields(t *testing.T) {
	rnd := rand.New(rand.NewSource(3))
	key := randomKey(rnd)
	for _, room := range []int{0, 3} {
		trim, resize := trimOf([]uint64{4, 7}), resizeTo(9)
		trim.Sealed = randomSealeds(rnd, 2, room)[:0]
		resize.Indices, resize.Sealed = from(5, room)[:0], randomSealeds(rnd, 2, room)[:0]
		for _, o := range []ticket.Order{trim, resize} {
			x := mustSign(t, key, 1, 2, o)
			plain := mustSign(t, key, 1, 2, ticket.Order{Kind: o.Kind, Indices: append([]uint64(nil), o.Indices...), Blocks: o.Blocks})
			if !ticket.Right(o) || !ticket.Fits(o, 8) || !alike(x, plain) || !ticket.Same(x, plain) || !ticket.Same(plain, x) || ticket.Check(key, x) != nil {
				t.Errorf("kind %d: %x", o.Kind, x)
			}
			for _, whole := range []ticket.Order{{Kind: ticket.Trim, Indices: []uint64{}}, {Kind: ticket.Write, Indices: []uint64{}, Sealed: []seal.Sealed{}}, {Kind: ticket.Resize, Indices: []uint64{}, Sealed: []seal.Sealed{}}} {
				if ticket.Right(whole) {
					t.Errorf("kind %d of nothing", whole.Kind)
				}
			}
		}
	}
}

// TestRightAny is P13.1: small random orders, right and wrong by several faults at once, are what the definition says, and fit what it says.
func TestRightAny(t *testing.T) {
	rnd := rand.New(rand.NewSource(4))
	right := 0
	for range 200000 {
		o := anyOrder(rnd, []uint64{0, 1, 2, lastEpoch, math.MaxUint64}[rnd.Intn(5)])
		if ticket.Right(o) != isOrder(o) {
			t.Fatalf("%x: %v", o, ticket.Right(o))
		}
		blocks := uint64(rnd.Intn(7))
		fits := isOrder(o)
		for _, index := range o.Indices {
			fits = fits && index < blocks
		}
		if ticket.Fits(o, blocks) != fits {
			t.Fatalf("%x, %d blocks: %v", o, blocks, !fits)
		}
		if isOrder(o) {
			right++
		}
	}
	if right < 20000 || right > 180000 {
		t.Error(right, "are orders")
	}
}

// anyOrder is a small order, or what is nearly one, with sealed blocks mostly of an epoch or of the one behind it.
func anyOrder(rnd *rand.Rand, epoch uint64) ticket.Order {
	o := ticket.Order{Kind: 1 + rnd.Intn(3)}
	if rnd.Intn(20) == 0 {
		o.Kind = rnd.Intn(7) - 2
	}
	if o.Kind != ticket.Resize || rnd.Intn(10) == 0 {
		at := uint64(rnd.Intn(3))
		for range rnd.Intn(4) {
			o.Indices = append(o.Indices, at)
			at += uint64(rnd.Intn(10)+4) / 5
		}
	}
	if rnd.Intn(20) == 0 && len(o.Indices) > 0 {
		o.Indices[rnd.Intn(len(o.Indices))] = []uint64{0, 1, lastIndex, 1 << 32, math.MaxUint64}[rnd.Intn(5)]
	}
	if o.Kind == ticket.Write || rnd.Intn(10) == 0 {
		o.Sealed = randomSealeds(rnd, epoch, max(0, len(o.Indices)+rnd.Intn(12)/10-rnd.Intn(12)/10))
		for i := range o.Sealed {
			o.Sealed[i].Epoch += uint64(rnd.Intn(10) / 9)
		}
	}
	if o.Kind == ticket.Resize || rnd.Intn(10) == 0 {
		o.Blocks = []uint64{0, 1, 1, 2, 5, 1 << 32, 1<<32 + 1}[rnd.Intn(7)]
	}
	return o
}

// TestFits is P13.1: an order fits more blocks than its greatest index, not as many, nor any fewer, nor none.
func TestFits(t *testing.T) {
	rnd := rand.New(rand.NewSource(5))
	for _, list := range lists(rnd) {
		greatest := list[len(list)-1]
		for _, o := range []ticket.Order{writeOf(rnd, 9, list), trimOf(list)} {
			for _, blocks := range []uint64{greatest + 1, greatest + 2, 1 << 32, 1<<32 + 1, math.MaxUint64} {
				if !ticket.Fits(o, blocks) {
					t.Errorf("kind %d, greatest index %d, %d blocks: doesn't fit", o.Kind, greatest, blocks)
				}
			}
			for _, blocks := range []uint64{greatest, greatest / 2, list[0], 0} {
				if ticket.Fits(o, blocks) {
					t.Errorf("kind %d, greatest index %d, %d blocks: fits", o.Kind, greatest, blocks)
				}
			}
		}
	}
}

// TestFitsResize is P13.1: a resize has no index that might not fit, whatever the number of blocks was, none among it.
func TestFitsResize(t *testing.T) {
	for _, n := range numbers() {
		for _, blocks := range append(numbers(), noNumbers()...) {
			if !ticket.Fits(resizeTo(n), blocks) {
				t.Errorf("to %d of %d blocks: doesn't fit", n, blocks)
			}
		}
	}
}

// TestNoOrderFits is P13.1: what isn't an order doesn't fit, be there ever so many blocks.
func TestNoOrderFits(t *testing.T) {
	rnd := rand.New(rand.NewSource(6))
	for _, o := range append(noOrders(rnd, 7), ticket.Order{}) {
		for _, blocks := range []uint64{0, 1, 1 << 32, math.MaxUint64} {
			if ticket.Fits(o, blocks) {
				t.Errorf("kind %d, %d indices, %d blocks: fits", o.Kind, len(o.Indices), blocks)
			}
		}
	}
}
