package wire_test

import (
	"bytes"
	"math/rand"
	"slices"
	"testing"

	"entrust/api"
	"entrust/ticket"
	"entrust/wire"
)

// roomy is a list with spare capacity in which there is something, so that who writes there is seen.
func roomy[T any](list, rest []T) []T {
	return append(slices.Clone(list), rest...)[:len(list)]
}

// whole is a list with what stands in its spare capacity.
func whole[T any](list []T) []T {
	return list[:cap(list)]
}

// roomyTicket is a ticket whose lists have spare capacity in which there is something.
func roomyTicket(rnd *rand.Rand, x ticket.Ticket) ticket.Ticket {
	x.Order.Indices, x.Order.Sealed = roomy(x.Order.Indices, from(900, 300)), roomy(x.Order.Sealed, randomSealeds(rnd, 77, 300))
	return x
}

// wholeTicket is a ticket with what stands in its lists' spare capacity, as it is now.
func wholeTicket(x ticket.Ticket) ticket.Ticket {
	x.Order.Indices, x.Order.Sealed = slices.Clone(whole(x.Order.Indices)), slices.Clone(whole(x.Order.Sealed))
	return x
}

// wholeReply is the same for a reply.
func wholeReply(p wire.Reply) wire.Reply {
	p.Items, p.A, p.B, p.Ticket = slices.Clone(whole(p.Items)), slices.Clone(whole(p.A)), slices.Clone(whole(p.B)), wholeTicket(p.Ticket)
	return p
}

// wipeTicket clears a ticket's lists, with their spare capacity.
func wipeTicket(x ticket.Ticket) {
	clear(whole(x.Order.Indices))
	clear(whole(x.Order.Sealed))
}

// wipeReply clears a reply's lists, with their spare capacity.
func wipeReply(p wire.Reply) {
	clear(whole(p.Items))
	clear(whole(p.A))
	clear(whole(p.B))
	wipeTicket(p.Ticket)
}

// TestRequestArguments is P14.1 with rule 5: a request is left as it is, with its spare capacity, by every call, whether it has an error or not.
func TestRequestArguments(t *testing.T) {
	rnd := rand.New(rand.NewSource(41))
	for _, q := range append(requests(rnd), noRequests(rnd)...) {
		q.Indices, q.Ticket = roomy(q.Indices, from(900, 300)), roomyTicket(rnd, q.Ticket)
		before := with(q, func(q *wire.Request) { q.Indices, q.Ticket = slices.Clone(whole(q.Indices)), wholeTicket(q.Ticket) })
		indices := slices.Clone(whole(q.Indices))
		wire.PutRequest(q)
		wire.RightRequest(q)
		if !slices.Equal(whole(q.Indices), indices) || !alikeTickets(wholeTicket(q.Ticket), before.Ticket) {
			t.Fatalf("kind %d, %d indices: changed", q.Kind, len(q.Indices))
		}
	}
}

// TestReplyArguments is P14.1 with rule 5: a reply is left as it is, with its spare capacity, by every call, whether it has an error or not.
func TestReplyArguments(t *testing.T) {
	rnd := rand.New(rand.NewSource(42))
	list := append(fewReplies(rnd), errorReplies(rnd)[:5]...)
	list = append(list, foreignReplies(rnd)[:300]...)
	for i, p := range list {
		p.Items, p.A, p.B, p.Ticket = roomy(p.Items, items(rnd, 5)), roomy(p.A, hashes(rnd, 5)), roomy(p.B, hashes(rnd, 5)), roomyTicket(rnd, p.Ticket)
		before := wholeReply(p)
		wire.PutReply(p)
		wire.RightReply(p)
		wire.SameReply(p, p)
		wire.SameReply(p, list[i])
		wire.SameReply(list[i], p)
		if !alikeReplies(wholeReply(p), before) {
			t.Fatalf("kind %d, error %d, %d items: changed", p.Kind, p.Err, len(p.Items))
		}
	}
}

// TestParseRequestArgument is P14.1 with rule 5: bytes are left as they are, with what stands before and behind them, and a request doesn't change with them.
func TestParseRequestArgument(t *testing.T) {
	rnd := rand.New(rand.NewSource(43))
	for _, q := range fewRequests(rnd) {
		b := mustPutRequest(t, q)
		memory := append(append(text(rnd, 50), b...), text(rnd, 50)...)
		before := bytes.Clone(memory)
		for n := range len(b) + 30 {
			wire.ParseRequest(memory[50 : 50+n])
		}
		got, err := wire.ParseRequest(memory[50 : 50+len(b)])
		if err != nil || !bytes.Equal(memory, before) {
			t.Fatalf("kind %d: changed, or %v", q.Kind, err)
		}
		clear(memory)
		if !alikeRequests(got, q) {
			t.Fatalf("kind %d: %x, not %x", q.Kind, got, q)
		}
	}
}

// TestParseReplyArgument is P14.1 with rule 5: bytes are left as they are, with what stands before and behind them, and a reply doesn't change with them.
func TestParseReplyArgument(t *testing.T) {
	rnd := rand.New(rand.NewSource(44))
	for _, p := range append(fewReplies(rnd), errorReplies(rnd)[:5]...) {
		b := mustPutReply(t, p)
		memory := append(append(text(rnd, 50), b...), text(rnd, 50)...)
		before := bytes.Clone(memory)
		for n := range len(b) + 30 {
			wire.ParseReply(memory[50 : 50+n])
		}
		got, err := wire.ParseReply(memory[50 : 50+len(b)])
		if err != nil || !bytes.Equal(memory, before) {
			t.Fatalf("kind %d: changed, or %v", p.Kind, err)
		}
		clear(memory)
		if !alikeReplies(got, p) {
			t.Fatalf("kind %d: %v, not %v", p.Kind, got, p)
		}
	}
}

// TestRequestResultsAreNew is P14.1 with rules 5 and 8: who changes bytes or a request that were returned, with their spare capacity, changes no other answer, nor what it was made of.
func TestRequestResultsAreNew(t *testing.T) {
	rnd := rand.New(rand.NewSource(45))
	for _, q := range requests(rnd) {
		want := requestBytes(q)
		first, second := mustPutRequest(t, q), mustPutRequest(t, q)
		clear(whole(first))
		if !bytes.Equal(second, want) || !bytes.Equal(mustPutRequest(t, q), want) {
			t.Fatalf("kind %d: bytes share memory", q.Kind)
		}
		a, _ := wire.ParseRequest(want)
		b, _ := wire.ParseRequest(want)
		clear(whole(a.Indices))
		wipeTicket(a.Ticket)
		if !alikeRequests(b, q) {
			t.Fatalf("kind %d: requests share memory", q.Kind)
		}
		isParsedRequest(t, want, q)
	}
}

// TestReplyResultsAreNew is P14.1 with rules 5 and 8: who changes bytes or a reply that were returned, with their spare capacity, changes no other answer, nor what it was made of.
func TestReplyResultsAreNew(t *testing.T) {
	rnd := rand.New(rand.NewSource(46))
	for _, p := range replies(rnd) {
		want := replyBytes(p)
		first, second := mustPutReply(t, p), mustPutReply(t, p)
		clear(whole(first))
		if !bytes.Equal(second, want) || !bytes.Equal(mustPutReply(t, p), want) {
			t.Fatalf("kind %d: bytes share memory", p.Kind)
		}
		a, _ := wire.ParseReply(want)
		b, _ := wire.ParseReply(want)
		wipeReply(a)
		if !alikeReplies(b, p) {
			t.Fatalf("kind %d: replies share memory", p.Kind)
		}
		isParsedReply(t, want, p)
	}
}

// TestListsOfOneReply is P14.1 with rule 5: no two lists of one reply share memory, so that who appends to one, or clears it, changes no other.
func TestListsOfOneReply(t *testing.T) {
	rnd := rand.New(rand.NewSource(47))
	for _, p := range fewReplies(rnd) {
		for list := range 5 {
			got, err := wire.ParseReply(replyBytes(p))
			if err != nil {
				t.Fatal(err)
			}
			want := p
			switch list {
			case 0:
				clear(whole(got.Items))
				want.Items = make([]wire.Item, len(p.Items))
			case 1:
				clear(whole(got.A))
				want.A = make([]api.Hash, len(p.A))
			case 2:
				clear(whole(got.B))
				want.B = make([]api.Hash, len(p.B))
			case 3:
				clear(whole(got.Ticket.Order.Indices))
				want.Ticket.Order.Indices = make([]uint64, len(p.Ticket.Order.Indices))
			case 4:
				clear(whole(got.Ticket.Order.Sealed))
				want.Ticket.Order.Sealed = slices.Clone(p.Ticket.Order.Sealed)
				clear(want.Ticket.Order.Sealed)
			}
			if !alikeReplies(got, want) {
				t.Fatalf("kind %d, list %d: %v, not %v", p.Kind, list, got, want)
			}
		}
	}
}

// TestSameAnswers is P14.1 with rules 3 and 8: many calls by turns, with errors between, of which none hangs on what was asked before.
func TestSameAnswers(t *testing.T) {
	rnd := rand.New(rand.NewSource(48))
	asked := append(fewRequests(rnd), foreignRequests(rnd)[:200]...)
	answered := append(fewReplies(rnd), foreignReplies(rnd)[:200]...)
	n := min(len(asked), len(answered))
	ask := func(i int) []byte {
		a, one := wire.PutRequest(asked[i])
		b, two := wire.PutReply(answered[i])
		if (one == nil) != wire.RightRequest(asked[i]) || (two == nil) != wire.RightReply(answered[i]) {
			t.Fatalf("%d: %v and %v", i, one, two)
		}
		wire.ParseRequest(b)
		wire.ParseReply(a)
		return append(a, b...)
	}
	var first [][]byte
	for i := range n {
		first = append(first, ask(i))
	}
	for _, i := range append(rnd.Perm(n), rnd.Perm(n)...) {
		if got := ask(i); !bytes.Equal(got, first[i]) {
			t.Fatalf("%d: %x, not %x", i, got, first[i])
		}
	}
}
