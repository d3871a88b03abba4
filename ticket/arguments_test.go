package ticket_test

import (
	"bytes"
	"math/rand"
	"slices"
	"testing"

	"entrust/api"
	"entrust/octets"
	"entrust/seal"
	"entrust/ticket"
)

// roomy is a list with spare capacity in which there is something, so that who writes there is seen.
func roomy[T any](list, rest []T) []T {
	return append(slices.Clone(list), rest...)[:len(list)]
}

// whole is a list with what stands in its spare capacity.
func whole[T any](list []T) []T {
	return list[:cap(list)]
}

// roomyOrder is an order whose lists have spare capacity in which there is something.
func roomyOrder(rnd *rand.Rand, o ticket.Order) ticket.Order {
	o.Indices, o.Sealed = roomy(o.Indices, from(900, 300)), roomy(o.Sealed, randomSealeds(rnd, 77, 300))
	return o
}

// all is an order with what stands in its lists' spare capacity, as it is now.
func all(o ticket.Order) ticket.Order {
	o.Indices, o.Sealed = slices.Clone(whole(o.Indices)), slices.Clone(whole(o.Sealed))
	return o
}

// wipe clears an order's lists, with their spare capacity.
func wipe(o ticket.Order) {
	clear(whole(o.Indices))
	clear(whole(o.Sealed))
}

// someOrders is orders of all kinds, right and wrong.
func someOrders(rnd *rand.Rand) []ticket.Order {
	out := append(orders(rnd, 9), noOrders(rnd, 9)...)
	return append(out, fewOrders(rnd, 8)...)
}

// TestArguments is P13.1 with rule 5: an order is left as it is, with its spare capacity, by every call, whether it has an error or not.
func TestArguments(t *testing.T) {
	rnd := rand.New(rand.NewSource(51))
	key := randomKey(rnd)
	for _, o := range someOrders(rnd) {
		o = roomyOrder(rnd, o)
		before := all(o)
		for _, epoch := range []uint64{9, 0} {
			x, _ := ticket.Sign(key, 4, epoch, o)
			x.Order = o
			ticket.Check(key, x)
			ticket.Put(x)
			ticket.Same(x, x)
			ticket.Same(x, ticket.Ticket{Prev: x.Prev, Epoch: x.Epoch, Order: before, Tag: x.Tag})
		}
		ticket.Right(o)
		ticket.Fits(o, 1000)
		ticket.Leaves(o)
		if !alikeOrders(all(o), before) {
			t.Fatalf("kind %d, %d indices: changed", o.Kind, len(o.Indices))
		}
	}
}

// TestBytesArgument is P13.1 with rule 5: bytes are left as they are, with what stands before and behind them, and a ticket doesn't change with them.
func TestBytesArgument(t *testing.T) {
	rnd := rand.New(rand.NewSource(52))
	key := randomKey(rnd)
	for _, o := range fewOrders(rnd, 9) {
		x := mustSign(t, key, 4, 9, o)
		b := mustPut(t, x)
		memory := append(append(text(rnd, 50), b...), text(rnd, 50)...)
		before := bytes.Clone(memory)
		for n := range len(b) + 30 {
			ticket.Parse(memory[50 : 50+n])
			ticket.Read(octets.From(memory[50 : 50+n]))
		}
		got, err := ticket.Parse(memory[50 : 50+len(b)])
		if err != nil || !bytes.Equal(memory, before) {
			t.Fatalf("kind %d: changed, or %v", o.Kind, err)
		}
		clear(memory)
		if !alike(got, x) {
			t.Fatalf("kind %d: %x, not %x", o.Kind, got, x)
		}
	}
}

// TestSealArguments is P13.1 with rule 5: indices and blocks are left as they are, with their spare capacity, and the order doesn't change with them.
func TestSealArguments(t *testing.T) {
	rnd := rand.New(rand.NewSource(53))
	s := seal.New(api.Key(text(rnd, 16)))
	for _, list := range append(lists(rnd)[:14], noLists(rnd)...) {
		indices, blocks := roomy(list, from(900, 20)), roomy(randomBlocks(rnd, len(list)), randomBlocks(rnd, 20))
		allIndices, allBlocks := slices.Clone(whole(indices)), slices.Clone(whole(blocks))
		ticket.Seal(s, 9, indices, blocks[:len(blocks)/2])
		ticket.Seal(s, 0, indices, blocks)
		o, err := ticket.Seal(s, 9, indices, blocks)
		if !slices.Equal(whole(indices), allIndices) || !slices.Equal(whole(blocks), allBlocks) {
			t.Fatalf("%d indices: changed", len(list))
		}
		if err != nil {
			continue
		}
		want := changed(o, func(*ticket.Order) {})
		clear(whole(indices))
		clear(whole(blocks))
		if !alikeOrders(o, want) || !slices.Equal(o.Indices, list) {
			t.Fatalf("%d indices: the order changed with them", len(list))
		}
		again := mustSealOrder(t, s, 9, list, allBlocks[:len(list)])
		wipe(again)
		if third := mustSealOrder(t, s, 9, list, allBlocks[:len(list)]); !alikeOrders(o, want) || !alikeOrders(third, want) {
			t.Fatalf("%d indices: two orders share memory", len(list))
		}
	}
}

// TestSignedIsNew is P13.1 with rule 5: a ticket that was signed doesn't change with its order, and who changes it changes neither the order nor another ticket.
func TestSignedIsNew(t *testing.T) {
	rnd := rand.New(rand.NewSource(54))
	key := randomKey(rnd)
	for _, plain := range orders(rnd, 9) {
		o := roomyOrder(rnd, plain)
		before := all(o)
		first, second := mustSign(t, key, 4, 9, o), mustSign(t, key, 4, 9, o)
		wipe(first.Order)
		if !alikeOrders(all(o), before) || !alikeOrders(second.Order, plain) || ticket.Check(key, second) != nil {
			t.Fatalf("kind %d, %d indices: changed with a ticket", o.Kind, len(o.Indices))
		}
		wipe(o)
		if !alikeOrders(second.Order, plain) || ticket.Check(key, second) != nil {
			t.Fatalf("kind %d, %d indices: changed with the order", o.Kind, len(o.Indices))
		}
	}
}

// TestResultsAreNew is P13.1 with rules 5 and 8: who changes bytes, leaves or a parsed ticket that were returned, with their spare capacity, changes no other answer.
func TestResultsAreNew(t *testing.T) {
	rnd := rand.New(rand.NewSource(55))
	key := randomKey(rnd)
	for _, o := range orders(rnd, 9) {
		x := mustSign(t, key, 4, 9, o)
		want := definedBytes(x)
		first, second := mustPut(t, x), mustPut(t, x)
		clear(whole(first))
		if !bytes.Equal(second, want) || !bytes.Equal(mustPut(t, x), want) || ticket.Check(key, x) != nil {
			t.Fatalf("kind %d, %d indices: bytes share memory", o.Kind, len(o.Indices))
		}
		r := octets.From(append(bytes.Clone(want), want...))
		a, b := ticket.Read(r), ticket.Read(r)
		wipe(a.Order)
		if !alike(b, x) {
			t.Fatalf("kind %d, %d indices: tickets share memory", o.Kind, len(o.Indices))
		}
		isParsed(t, want, x)
		if o.Kind == ticket.Resize {
			continue
		}
		leaves, others := mustLeaves(t, o), mustLeaves(t, o)
		again := slices.Clone(others)
		clear(whole(leaves))
		if !slices.Equal(others, again) || !slices.Equal(mustLeaves(t, o), again) {
			t.Fatalf("kind %d, %d indices: leaves share memory", o.Kind, len(o.Indices))
		}
	}
}

// TestSameAnswers is P13.1 with rules 3 and 8: many orders by turns, with errors between, of which none hangs on what was asked before.
func TestSameAnswers(t *testing.T) {
	rnd := rand.New(rand.NewSource(56))
	keys := []api.Hash{{}, randomKey(rnd), randomKey(rnd)}
	list := someOrders(rnd)
	type answer struct {
		x   ticket.Ticket
		err error
		is  bool
	}
	ask := func(i int) answer {
		x, err := ticket.Sign(keys[i%3], uint64(i%4), 9, list[i])
		return answer{x, err, ticket.Right(list[i])}
	}
	first := make([]answer, len(list))
	for i := range list {
		first[i] = ask(i)
	}
	for _, i := range append(rnd.Perm(len(list)), rnd.Perm(len(list))...) {
		if got := ask(i); !alike(got.x, first[i].x) || got.err != first[i].err || got.is != first[i].is {
			t.Fatalf("%d: %x and %v, not %x and %v", i, got.x, got.err, first[i].x, first[i].err)
		}
	}
}
