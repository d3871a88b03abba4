package ticket_test

import (
	"encoding/hex"
	"math/rand"
	"slices"
	"testing"

	"entrust/api"
	"entrust/node"
	"entrust/seal"
	"entrust/ticket"
)

// mustLeaves is the leaves of an order.
func mustLeaves(t *testing.T, o ticket.Order) []api.Hash {
	t.Helper()
	leaves, err := ticket.Leaves(o)
	if err != nil {
		t.Fatalf("kind %d, %d indices: %v", o.Kind, len(o.Indices), err)
	}
	return leaves
}

// TestLeaves is P13.1: for each index of a write the leaf that layer 8 has for its sealed block, and of a trim the hash of nothing.
func TestLeaves(t *testing.T) {
	rnd := rand.New(rand.NewSource(31))
	nothing, err := node.Empty(0)
	if err != nil || hex.EncodeToString(nothing[:4]) != "6e340b9c" {
		t.Fatal(nothing, err)
	}
	for _, list := range lists(rnd) {
		for _, epoch := range []uint64{1, 1 << 40, lastEpoch} {
			o := writeOf(rnd, epoch, list)
			var want []api.Hash
			for i, index := range list {
				h, err := node.Leaf(index, o.Sealed[i])
				if err != nil {
					t.Fatal(err)
				}
				want = append(want, h)
			}
			if got := mustLeaves(t, o); !slices.Equal(got, want) {
				t.Errorf("write of %d indices, epoch %d: %x, not %x", len(list), epoch, got, want)
			}
		}
		if got := mustLeaves(t, trimOf(list)); !slices.Equal(got, slices.Repeat([]api.Hash{nothing}, len(list))) {
			t.Errorf("trim of %d indices: %x", len(list), got)
		}
	}
}

// TestLeavesForm is P13.1: ErrForm and no leaves for what isn't an order, and for a resize.
func TestLeavesForm(t *testing.T) {
	rnd := rand.New(rand.NewSource(32))
	none := append(noOrders(rnd, 7), ticket.Order{})
	for _, n := range numbers() {
		none = append(none, resizeTo(n))
	}
	for _, o := range none {
		if leaves, err := ticket.Leaves(o); err != api.ErrForm || len(leaves) != 0 {
			t.Errorf("kind %d, %d indices, %d blocks: %x and %v", o.Kind, len(o.Indices), o.Blocks, leaves, err)
		}
	}
}

// unlike is tickets that differ from one in one field alone, each in its turn.
func unlike(x ticket.Ticket) []ticket.Ticket {
	var out []ticket.Ticket
	differ := func(change func(y *ticket.Ticket)) {
		y := x
		y.Order.Indices, y.Order.Sealed = slices.Clone(x.Order.Indices), slices.Clone(x.Order.Sealed)
		change(&y)
		out = append(out, y)
	}
	differ(func(y *ticket.Ticket) { y.Prev++ })
	differ(func(y *ticket.Ticket) { y.Epoch-- })
	differ(func(y *ticket.Ticket) { y.Order.Kind++ })
	differ(func(y *ticket.Ticket) { y.Order.Kind = ^y.Order.Kind })
	differ(func(y *ticket.Ticket) { y.Order.Blocks++ })
	differ(func(y *ticket.Ticket) { y.Order.Indices = append(y.Order.Indices, 0) })
	differ(func(y *ticket.Ticket) { y.Order.Sealed = append(y.Order.Sealed, seal.Sealed{}) })
	for i := range x.Tag {
		differ(func(y *ticket.Ticket) { y.Tag[i]++ })
	}
	for i := range x.Order.Indices {
		differ(func(y *ticket.Ticket) { y.Order.Indices[i]++ })
		differ(func(y *ticket.Ticket) { y.Order.Indices = slices.Delete(y.Order.Indices, i, i+1) })
	}
	for i := range x.Order.Sealed {
		differ(func(y *ticket.Ticket) { y.Order.Sealed[i].Epoch++ })
		differ(func(y *ticket.Ticket) { y.Order.Sealed[i].Data[31]++ })
		differ(func(y *ticket.Ticket) { y.Order.Sealed[i].Tag[15]++ })
		differ(func(y *ticket.Ticket) { y.Order.Sealed = slices.Delete(y.Order.Sealed, i, i+1) })
	}
	if len(x.Order.Indices) > 1 {
		differ(func(y *ticket.Ticket) { slices.Reverse(y.Order.Indices) })
	}
	if len(x.Order.Sealed) > 1 {
		differ(func(y *ticket.Ticket) { slices.Reverse(y.Order.Sealed) })
	}
	return out
}

// TestSame is P13.1: a ticket is the same as another one with the same in all fields, and not as one that differs in one alone, be these tickets or not.
func TestSame(t *testing.T) {
	rnd := rand.New(rand.NewSource(33))
	key := randomKey(rnd)
	all := []ticket.Ticket{{}, {Order: ticket.Order{Kind: -7, Indices: []uint64{9, 9, 3}, Sealed: randomSealeds(rnd, 0, 2), Blocks: 1 << 60}}}
	for _, o := range append(fewOrders(rnd, 9), writeOf(rnd, 9, spread(rnd, 256)), trimOf(from(3, 256))) {
		all = append(all, mustSign(t, key, 4, 9, o))
	}
	for i, x := range all {
		y := x
		y.Order = changed(x.Order, func(*ticket.Order) {})
		if !ticket.Same(x, x) || !ticket.Same(x, y) || !ticket.Same(y, x) {
			t.Errorf("%d isn't the same as itself", i)
		}
		for j, z := range unlike(x) {
			if ticket.Same(x, z) || ticket.Same(z, x) {
				t.Errorf("%d is the same as %d that differ from it", i, j)
			}
		}
		for j, z := range all {
			if ticket.Same(x, z) != (i == j) {
				t.Errorf("%d and %d: %v", i, j, i != j)
			}
		}
	}
}

// TestSameEmpty is P13.1 with rule 4: nil lists and empty ones are the same, and neither is a list of something.
func TestSameEmpty(t *testing.T) {
	a := ticket.Ticket{Order: resizeTo(3)}
	b := a
	b.Order.Indices, b.Order.Sealed = make([]uint64, 0, 5), make([]seal.Sealed, 3)[:0]
	if !ticket.Same(a, b) || !ticket.Same(b, a) || !ticket.Same(b, b) {
		t.Error("empty lists and none")
	}
	c, d := a, a
	c.Order.Indices, d.Order.Sealed = []uint64{0}, make([]seal.Sealed, 1)
	for i, x := range []ticket.Ticket{a, b} {
		for j, y := range []ticket.Ticket{c, d} {
			if ticket.Same(x, y) || ticket.Same(y, x) {
				t.Error(i, j)
			}
		}
	}
}
