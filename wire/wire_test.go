package wire_test

import (
	"math"
	"math/rand"
	"slices"
	"testing"

	"entrust/api"
	"entrust/seal"
	"entrust/ticket"
	"entrust/wire"
)

// The greatest index, and the greatest epoch of a ticket.
const (
	lastIndex = 1<<32 - 1
	lastEpoch = math.MaxUint64 - 1
)

func text(rnd *rand.Rand, n int) []byte {
	b := make([]byte, n)
	rnd.Read(b)
	return b
}

func hashes(rnd *rand.Rand, n int) []api.Hash {
	out := make([]api.Hash, n)
	for i := range out {
		rnd.Read(out[i][:])
	}
	return out
}

// from is so many indices, one behind the other.
func from(first uint64, n int) []uint64 {
	out := make([]uint64, n)
	for i := range out {
		out[i] = first + uint64(i)
	}
	return out
}

// spread is so many random indices that increase.
func spread(rnd *rand.Rand, n int) []uint64 {
	all := map[uint64]bool{}
	for len(all) < n {
		all[uint64(rnd.Uint32())] = true
	}
	var out []uint64
	for index := range all {
		out = append(out, index)
	}
	slices.Sort(out)
	return out
}

// lists is lists of indices: of one index, of few, and of as many as there may be, at both ends and between.
func lists(rnd *rand.Rand) [][]uint64 {
	return [][]uint64{
		{0}, {1}, {255}, {256}, {1 << 31}, {lastIndex - 1}, {lastIndex}, {0, 1}, {0, lastIndex}, {lastIndex - 1, lastIndex}, {1, 2, 258}, {0x01020304, 0x05060708},
		spread(rnd, 7), spread(rnd, 255), spread(rnd, 256), from(0, 255), from(0, 256), from(lastIndex-255, 256),
	}
}

// noLists is lists that are none of indices: too few or too many, such with an index that is too great, at either end or between, and such that don't increase.
func noLists(rnd *rand.Rand) [][]uint64 {
	same, falls, late := from(0, 256), from(0, 256), from(lastIndex-254, 256)
	same[255], falls[255] = 254, 3
	return [][]uint64{
		nil, {}, from(0, 257), spread(rnd, 257), from(0, 512), from(0, 513),
		{1 << 32}, {1<<32 + 1}, {math.MaxUint64}, {0, 1 << 32}, {0, 1, math.MaxUint64}, {lastIndex, 1 << 32}, {1 << 32, 1<<32 + 1}, late,
		{0, 0}, {5, 5}, {lastIndex, lastIndex}, {1, 2, 2, 3}, {1, 1, 2}, {1, 2, 2}, same,
		{1, 0}, {lastIndex, 0}, {1, 3, 2}, {3, 1, 2}, {1 << 32, 0}, {math.MaxUint64, 0}, {0, math.MaxUint64, 1}, falls,
	}
}

// epochs is numbers that the epoch of a request may be: all there are, since the chapter has no bound for it.
func epochs() []uint64 {
	return []uint64{0, 1, 2, 255, 256, 1 << 32, 0x0102030405060708, 1 << 63, lastEpoch, math.MaxUint64}
}

// noKinds is numbers that are no kind, among them those whose last byte is one's.
func noKinds() []int {
	return []int{0, 6, 7, 255, 256, 257, 258, 259, 260, 261, 1<<16 + 1, 1<<32 + 1, 1<<32 + 5, math.MaxInt, math.MaxInt - 1, -1, -2, -5, -251, -253, -255, -256, math.MinInt, math.MinInt + 1, math.MinInt + 5}
}

// noErrs is numbers that are no error, and not none, among them those whose last byte is one's.
func noErrs() []int {
	return []int{-1, 15, 16, 255, 256, 257, 270, 1<<16 + 1, 1 << 32, 1<<32 + 14, math.MaxInt, -2, -14, -242, -255, -256, math.MinInt, math.MinInt + 1}
}

// randomSealed is something as long as a sealed block, of an epoch: nobody asks here whether it can be opened.
func randomSealed(rnd *rand.Rand, epoch uint64) seal.Sealed {
	return seal.Sealed{Epoch: epoch, Data: api.Block(text(rnd, 32)), Tag: [16]byte(text(rnd, 16))}
}

func randomSealeds(rnd *rand.Rand, epoch uint64, n int) []seal.Sealed {
	out := make([]seal.Sealed, n)
	for i := range out {
		out[i] = randomSealed(rnd, epoch)
	}
	return out
}

func writeOf(rnd *rand.Rand, epoch uint64, indices []uint64) ticket.Order {
	return ticket.Order{Kind: ticket.Write, Indices: indices, Sealed: randomSealeds(rnd, epoch, len(indices))}
}

func trimOf(indices []uint64) ticket.Order {
	return ticket.Order{Kind: ticket.Trim, Indices: indices}
}

func resizeTo(blocks uint64) ticket.Order {
	return ticket.Order{Kind: ticket.Resize, Blocks: blocks}
}

// tagged is a ticket with any tag: who has no key can't ask for more.
func tagged(rnd *rand.Rand, prev, epoch uint64, o ticket.Order) ticket.Ticket {
	return ticket.Ticket{Prev: prev, Epoch: epoch, Order: o, Tag: [16]byte(text(rnd, 16))}
}

// fewTickets is tickets of each kind, with few indices, at the edges of their epochs.
func fewTickets(rnd *rand.Rand) []ticket.Ticket {
	return []ticket.Ticket{
		tagged(rnd, 0, 1, writeOf(rnd, 1, []uint64{0})), tagged(rnd, 4, 9, writeOf(rnd, 9, []uint64{1, 258, lastIndex})), tagged(rnd, lastEpoch-1, lastEpoch, writeOf(rnd, lastEpoch, spread(rnd, 5))),
		tagged(rnd, 0, lastEpoch, trimOf([]uint64{lastIndex})), tagged(rnd, 1, 2, trimOf([]uint64{0, 1, 2})), {Prev: 254, Epoch: 256, Order: trimOf(spread(rnd, 6))},
		tagged(rnd, 0, 1, resizeTo(1)), tagged(rnd, 700, 1<<33+5, resizeTo(5)), {Prev: lastEpoch - 1, Epoch: lastEpoch, Order: resizeTo(1 << 32)},
	}
}

// tickets is tickets of each kind, with as few indices as there may be, and as many.
func tickets(rnd *rand.Rand) []ticket.Ticket {
	out := fewTickets(rnd)
	for _, list := range lists(rnd) {
		out = append(out, tagged(rnd, 8, 9, writeOf(rnd, 9, list)), tagged(rnd, 0, 1<<40, trimOf(list)))
	}
	return out
}

// noTickets is what isn't a ticket, by one fault of layer 13 each.
func noTickets(rnd *rand.Rand) []ticket.Ticket {
	out := []ticket.Ticket{{}}
	add := func(prev, epoch uint64, o ticket.Order) { out = append(out, tagged(rnd, prev, epoch, o)) }
	for _, o := range []ticket.Order{writeOf(rnd, 5, []uint64{3, 8}), trimOf([]uint64{3, 8}), resizeTo(9)} {
		sealedIn := func(epoch uint64) ticket.Order {
			if o.Kind == ticket.Write {
				return writeOf(rnd, epoch, []uint64{3, 8})
			}
			return o
		}
		for _, at := range [][2]uint64{{0, 0}, {5, 5}, {6, 5}, {math.MaxUint64, 5}, {0, math.MaxUint64}, {math.MaxUint64, math.MaxUint64}, {lastEpoch, lastEpoch}} {
			add(at[0], at[1], sealedIn(at[1]))
		}
		for _, kind := range []int{0, 4, 255, 256, 257, 258, 259, -1, math.MaxInt, math.MinInt} {
			other := o
			other.Kind = kind
			add(4, 5, other)
		}
	}
	for _, list := range noLists(rnd) {
		add(4, 5, writeOf(rnd, 5, list))
		add(4, 5, trimOf(list))
	}
	for _, n := range []uint64{0, 1<<32 + 1, 1 << 33, 1 << 63, math.MaxUint64} {
		add(4, 5, resizeTo(n))
	}
	one, two := randomSealeds(rnd, 5, 1), randomSealeds(rnd, 5, 2)
	apart := []seal.Sealed{randomSealed(rnd, 5), randomSealed(rnd, 6)}
	for _, list := range [][]seal.Sealed{nil, two, apart, randomSealeds(rnd, 6, 1), randomSealeds(rnd, 0, 1), randomSealeds(rnd, math.MaxUint64, 1)} {
		add(4, 5, ticket.Order{Kind: ticket.Write, Indices: []uint64{3}, Sealed: list})
	}
	add(4, 5, ticket.Order{Kind: ticket.Write, Indices: []uint64{3, 4}, Sealed: one})
	add(4, 5, ticket.Order{Kind: ticket.Write, Indices: []uint64{3, 4}, Sealed: apart})
	add(4, 5, ticket.Order{Kind: ticket.Write, Indices: []uint64{3}, Sealed: one, Blocks: 1})
	add(4, 5, ticket.Order{Kind: ticket.Trim, Indices: []uint64{3}, Sealed: one})
	add(4, 5, ticket.Order{Kind: ticket.Trim, Indices: []uint64{3}, Blocks: 1})
	add(4, 5, ticket.Order{Kind: ticket.Resize, Indices: []uint64{0}, Blocks: 1})
	add(4, 5, ticket.Order{Kind: ticket.Resize, Sealed: one, Blocks: 1})
	return out
}

// ticketFields is tickets of which each has one field alone that isn't zero, and some that are tickets.
func ticketFields(rnd *rand.Rand) []ticket.Ticket {
	out := []ticket.Ticket{
		{Prev: 1}, {Prev: 1 << 63}, {Epoch: 1}, {Epoch: 1 << 63}, {Tag: [16]byte{1}}, {Tag: [16]byte{15: 128}},
		{Order: ticket.Order{Kind: 1}}, {Order: ticket.Order{Kind: 3}}, {Order: ticket.Order{Kind: 256}}, {Order: ticket.Order{Kind: -1}}, {Order: ticket.Order{Blocks: 1}}, {Order: ticket.Order{Blocks: 1 << 63}},
		{Order: ticket.Order{Indices: []uint64{0}}}, {Order: ticket.Order{Sealed: make([]seal.Sealed, 1)}},
	}
	return append(out, fewTickets(rnd)...)
}

// alikeTickets reports whether two tickets have the same in all fields.
func alikeTickets(a, b ticket.Ticket) bool {
	return a.Prev == b.Prev && a.Epoch == b.Epoch && a.Tag == b.Tag && a.Order.Kind == b.Order.Kind && a.Order.Blocks == b.Order.Blocks &&
		slices.Equal(a.Order.Indices, b.Order.Indices) && slices.Equal(a.Order.Sealed, b.Order.Sealed)
}

// ticketLength is how many bytes a ticket has that begins with these, or 0 if they are too few to tell.
func ticketLength(b []byte) int {
	switch {
	case len(b) < 18:
		return 0
	case b[16] == 1:
		return 18 + 60*(int(b[17])+1) + 16
	case b[16] == 2:
		return 18 + 4*(int(b[17])+1) + 16
	}
	return 41
}

// definedTicket is the bytes of a ticket by layer 13.
func definedTicket(t ticket.Ticket) []byte {
	b, err := ticket.Put(t)
	if err != nil {
		panic(err)
	}
	return b
}

// isTicket reports whether it is a ticket by layer 13.
func isTicket(t ticket.Ticket) bool {
	_, err := ticket.Put(t)
	return err == nil
}

// damaged is bytes of which one was changed, a bit of it or all, or left out, or one more put in; mostly one of the first ones.
func damaged(rnd *rand.Rand, b []byte) []byte {
	if len(b) == 0 {
		return []byte{1}
	}
	i := rnd.Intn(len(b))
	if rnd.Intn(2) == 0 {
		i = rnd.Intn(min(len(b), 30))
	}
	switch rnd.Intn(8) {
	case 0:
		return append(slices.Clone(b[:i]), b[i+1:]...)
	case 1:
		return append(append(slices.Clone(b[:i]), byte(rnd.Intn(4))), b[i:]...)
	case 2, 3:
		b[i] = byte(rnd.Intn(7))
	default:
		b[i] ^= 1 << rnd.Intn(8)
	}
	return b
}

// TestKinds is P14.1: the kinds have their numbers.
func TestKinds(t *testing.T) {
	if wire.Read != 1 || wire.Span != 2 || wire.Change != 3 || wire.Chain != 4 || wire.Forget != 5 {
		t.Error(wire.Read, wire.Span, wire.Change, wire.Chain, wire.Forget)
	}
}

// TestWord is P14.1: each kind has its word, and numbers that are none have none.
func TestWord(t *testing.T) {
	for kind, want := range map[int]string{1: "read", 2: "span", 3: "change", 4: "chain", 5: "forget"} {
		if got := wire.Word(kind); got != want {
			t.Errorf("%d: %q", kind, got)
		}
	}
	for _, kind := range noKinds() {
		if got := wire.Word(kind); got != "" {
			t.Errorf("%d: %q", kind, got)
		}
	}
}
