package wire_test

import (
	"math"
	"math/rand"
	"slices"
	"testing"

	"entrust/api"
	"entrust/seal"
	"entrust/ticket"
	"entrust/wire"
)

// copied is a reply with lists of its own.
func copied(p wire.Reply) wire.Reply {
	p.Items, p.A, p.B = slices.Clone(p.Items), slices.Clone(p.A), slices.Clone(p.B)
	p.Ticket.Order.Indices, p.Ticket.Order.Sealed = slices.Clone(p.Ticket.Order.Indices), slices.Clone(p.Ticket.Order.Sealed)
	return p
}

// differing is replies that differ from one in one field alone, each in its turn, whether that makes them none or not.
func differing(p wire.Reply) []wire.Reply {
	var out []wire.Reply
	turn := func(is bool, change func(p *wire.Reply)) {
		if other := copied(p); is {
			change(&other)
			out = append(out, other)
		}
	}
	for _, bit := range []int{0, 1, 7, 8, 31, 32, 62, 63} {
		turn(true, func(p *wire.Reply) { p.Seq ^= 1 << bit })
		turn(true, func(p *wire.Reply) { p.Kind ^= 1 << bit })
		turn(true, func(p *wire.Reply) { p.Err ^= 1 << bit })
		turn(true, func(p *wire.Reply) { p.Ticket.Prev ^= 1 << bit })
		turn(true, func(p *wire.Reply) { p.Ticket.Epoch ^= 1 << bit })
		turn(true, func(p *wire.Reply) { p.Ticket.Order.Kind ^= 1 << bit })
		turn(true, func(p *wire.Reply) { p.Ticket.Order.Blocks ^= 1 << bit })
		for i := range p.Ticket.Order.Indices {
			turn(true, func(p *wire.Reply) { p.Ticket.Order.Indices[i] ^= 1 << bit })
		}
		for i := range p.Items {
			turn(true, func(p *wire.Reply) { p.Items[i].Sealed.Epoch ^= 1 << bit })
		}
	}
	turn(true, func(p *wire.Reply) { p.There = !p.There })
	for i := range 16 {
		turn(true, func(p *wire.Reply) { p.Ticket.Tag[i] ^= 1 })
	}
	turn(true, func(p *wire.Reply) { p.Ticket.Order.Indices = append(p.Ticket.Order.Indices, 0) })
	turn(true, func(p *wire.Reply) { p.Ticket.Order.Sealed = append(p.Ticket.Order.Sealed, seal.Sealed{}) })
	for i := range p.Ticket.Order.Sealed {
		turn(true, func(p *wire.Reply) { p.Ticket.Order.Sealed[i].Data[31] ^= 1 })
	}
	turn(true, func(p *wire.Reply) { p.Items = append(p.Items, wire.Item{}) })
	turn(len(p.Items) > 0, func(p *wire.Reply) { p.Items = p.Items[1:] })
	turn(len(p.Items) > 0, func(p *wire.Reply) { p.Items = p.Items[:len(p.Items)-1] })
	for i := range p.Items {
		turn(true, func(p *wire.Reply) { p.Items[i].There = !p.Items[i].There })
		turn(true, func(p *wire.Reply) { p.Items[i].Sealed.Data[0] ^= 1 })
		turn(true, func(p *wire.Reply) { p.Items[i].Sealed.Data[31] ^= 128 })
		turn(true, func(p *wire.Reply) { p.Items[i].Sealed.Tag[0] ^= 1 })
		turn(true, func(p *wire.Reply) { p.Items[i].Sealed.Tag[15] ^= 128 })
	}
	for _, list := range []func(p *wire.Reply) *[]api.Hash{func(p *wire.Reply) *[]api.Hash { return &p.A }, func(p *wire.Reply) *[]api.Hash { return &p.B }} {
		n := len(*list(&p))
		turn(true, func(p *wire.Reply) { *list(p) = append(*list(p), api.Hash{}) })
		turn(n > 0, func(p *wire.Reply) { *list(p) = (*list(p))[:n-1] })
		for i := range n {
			turn(true, func(p *wire.Reply) { (*list(p))[i][0] ^= 1 })
			turn(true, func(p *wire.Reply) { (*list(p))[i][31] ^= 128 })
		}
	}
	turn(!slices.Equal(p.A, p.B), func(p *wire.Reply) { p.A, p.B = p.B, p.A })
	return out
}

// TestSameReply is P14.1: replies with the same in all fields are the same, wherever their lists are, and those that differ in one field alone, each in its turn, aren't; whether they are replies isn't asked.
func TestSameReply(t *testing.T) {
	rnd := rand.New(rand.NewSource(31))
	list := append(fewReplies(rnd), errorReplies(rnd)[:3]...)
	list = append(list, wire.Reply{}, wire.Reply{Seq: 5, Kind: -1, Err: math.MinInt, Items: items(rnd, 3), There: true, Ticket: fewTickets(rnd)[1], A: hashes(rnd, 300), B: hashes(rnd, 3)})
	list = append(list, wire.Reply{Kind: 1, Items: []wire.Item{{Sealed: randomSealed(rnd, 3)}}, Ticket: ticket.Ticket{Epoch: 7}})
	for i, p := range list {
		if !wire.SameReply(p, p) || !wire.SameReply(p, copied(p)) || !wire.SameReply(copied(p), p) {
			t.Errorf("%d isn't itself", i)
		}
		for j, other := range differing(p) {
			if wire.SameReply(p, other) || wire.SameReply(other, p) || !wire.SameReply(other, copied(other)) {
				t.Errorf("%d is %d: %v and %v", i, j, p, other)
			}
		}
	}
}

// TestSameReplies is P14.1: of all replies and what is none, each is the same as itself alone, or as what is alike in all fields.
func TestSameReplies(t *testing.T) {
	rnd := rand.New(rand.NewSource(32))
	list := append(fewReplies(rnd), errorReplies(rnd)...)
	list = append(list, foreignReplies(rnd)[:400]...)
	for i, p := range list {
		for j, other := range list {
			if got := wire.SameReply(p, other); got != alikeReplies(p, other) || i == j && !got {
				t.Fatalf("%d and %d: %v", i, j, got)
			}
		}
	}
}
