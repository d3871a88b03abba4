package wire_test

import (
	"bytes"
	"encoding/hex"
	"math"
	"math/rand"
	"slices"
	"testing"

	"entrust/api"
	"entrust/seal"
	"entrust/ticket"
	"entrust/wire"
)

// items is so many items, of which some are present, with sealed blocks of any epochs.
func items(rnd *rand.Rand, n int) []wire.Item {
	out := make([]wire.Item, n)
	for i := range out {
		if rnd.Intn(2) == 0 {
			out[i] = wire.Item{There: true, Sealed: randomSealed(rnd, rnd.Uint64())}
		}
	}
	return out
}

// present is items of which each is present, with sealed blocks of these epochs, by turns.
func present(rnd *rand.Rand, n int, epochs ...uint64) []wire.Item {
	out := make([]wire.Item, n)
	for i := range out {
		out[i] = wire.Item{There: true, Sealed: randomSealed(rnd, epochs[i%len(epochs)])}
	}
	return out
}

// itemLists is lists of items: of one, of few, and of as many as there may be, none of them present, all, and some.
func itemLists(rnd *rand.Rand) [][]wire.Item {
	out := [][]wire.Item{
		{{}}, {{There: true}}, {{}, {There: true}}, {{There: true}, {}}, make([]wire.Item, 256), present(rnd, 256, 7),
		items(rnd, 2), items(rnd, 7), items(rnd, 255), items(rnd, 256),
	}
	for _, epoch := range epochs() {
		out = append(out, present(rnd, 1, epoch))
	}
	return append(out, present(rnd, 10, epochs()...))
}

// noItemLists is lists that are none of items: too few or too many, and such with a sealed block that isn't present.
func noItemLists(rnd *rand.Rand) [][]wire.Item {
	out := [][]wire.Item{nil, {}, make([]wire.Item, 257), present(rnd, 257, 7), items(rnd, 257), items(rnd, 512)}
	for _, x := range []seal.Sealed{{Epoch: 1}, {Epoch: 1 << 63}, {Data: api.Block{1}}, {Data: api.Block{31: 128}}, {Tag: [16]byte{1}}, {Tag: [16]byte{15: 128}}, randomSealed(rnd, 5)} {
		for _, at := range []int{0, 100, 255} {
			list := items(rnd, 256)
			list[at] = wire.Item{Sealed: x}
			out = append(out, list)
		}
		out = append(out, []wire.Item{{Sealed: x}}, []wire.Item{{There: true, Sealed: x}, {Sealed: x}})
	}
	return out
}

// fewReplies is replies of each kind, with few bytes each.
func fewReplies(rnd *rand.Rand) []wire.Reply {
	out := []wire.Reply{
		{Seq: 1, Kind: 1, Items: []wire.Item{{}}}, {Seq: math.MaxUint64, Kind: 1, Items: items(rnd, 3), B: hashes(rnd, 2)}, {Seq: rnd.Uint64(), Kind: 1, Items: present(rnd, 1, 0), B: hashes(rnd, 1)},
		{Kind: 2, Items: []wire.Item{{}}}, {Seq: rnd.Uint64(), Kind: 2, Items: present(rnd, 2, 9), A: hashes(rnd, 1), B: hashes(rnd, 2)}, {Seq: 7, Kind: 2, Items: items(rnd, 5), A: hashes(rnd, 3)},
		{Kind: 3}, {Seq: rnd.Uint64(), Kind: 3, A: hashes(rnd, 2), B: hashes(rnd, 3)}, {Seq: 8, Kind: 3, A: hashes(rnd, 1)}, {Seq: 8, Kind: 3, B: hashes(rnd, 1)},
		{Kind: 4}, {Seq: rnd.Uint64(), Kind: 4, A: hashes(rnd, 1)}, {Seq: 8, Kind: 4, B: hashes(rnd, 2)}, {Seq: 8, Kind: 4, A: hashes(rnd, 2), B: hashes(rnd, 1)},
		{Kind: 5}, {Seq: rnd.Uint64(), Kind: 5}, {Seq: math.MaxUint64, Kind: 5},
	}
	for i, x := range fewTickets(rnd) {
		out = append(out, wire.Reply{Seq: rnd.Uint64(), Kind: 4, There: true, Ticket: x, A: hashes(rnd, i%3), B: hashes(rnd, i/3)})
	}
	return out
}

// errorReplies is replies with each error.
func errorReplies(rnd *rand.Rand) []wire.Reply {
	var out []wire.Reply
	for kind := 1; kind <= 5; kind++ {
		for err := 1; err <= 14; err++ {
			out = append(out, wire.Reply{Seq: []uint64{0, rnd.Uint64(), math.MaxUint64}[err%3], Kind: kind, Err: err})
		}
	}
	return out
}

// replies is replies of each kind, with all edges of their fields.
func replies(rnd *rand.Rand) []wire.Reply {
	out := append(fewReplies(rnd), errorReplies(rnd)...)
	for _, list := range itemLists(rnd) {
		out = append(out, wire.Reply{Seq: rnd.Uint64(), Kind: 1, Items: list, B: hashes(rnd, rnd.Intn(5))}, wire.Reply{Seq: rnd.Uint64(), Kind: 2, Items: list, A: hashes(rnd, rnd.Intn(5)), B: hashes(rnd, rnd.Intn(5))})
	}
	for _, x := range tickets(rnd) {
		out = append(out, wire.Reply{Seq: rnd.Uint64(), Kind: 4, There: true, Ticket: x, A: hashes(rnd, rnd.Intn(5)), B: hashes(rnd, rnd.Intn(5))})
	}
	for _, a := range []int{0, 1, 2, 255, 256} {
		for _, b := range []int{0, 1, 255, 256, 257, 8191, 8192} {
			for _, p := range []wire.Reply{{Kind: 1, Items: items(rnd, 2)}, {Kind: 2, Items: items(rnd, 2)}, {Kind: 3}, {Kind: 4}, {Kind: 4, There: true, Ticket: fewTickets(rnd)[1]}} {
				p.Seq, p.B = rnd.Uint64(), hashes(rnd, b)
				if p.Kind != 1 {
					p.A = hashes(rnd, a)
				}
				out = append(out, p)
			}
		}
	}
	return out
}

// foreignReplies is replies that have a field which their kind doesn't have, or any that one with an error doesn't.
func foreignReplies(rnd *rand.Rand) []wire.Reply {
	var out []wire.Reply
	for _, p := range append(fewReplies(rnd), errorReplies(rnd)...) {
		add := func(is bool, change func(p *wire.Reply)) {
			if other := p; is {
				change(&other)
				out = append(out, other)
			}
		}
		for _, list := range [][]wire.Item{make([]wire.Item, 1), {{There: true}}, items(rnd, 2), make([]wire.Item, 256), make([]wire.Item, 257)} {
			add(p.Err != 0 || p.Kind > 2, func(p *wire.Reply) { p.Items = list })
		}
		for _, x := range ticketFields(rnd) {
			add(!p.There, func(p *wire.Reply) { p.Ticket = x })
			add(p.Err != 0 || p.Kind != 4, func(p *wire.Reply) { p.There, p.Ticket = true, x })
		}
		add(!p.There, func(p *wire.Reply) { p.There = true })
		for _, n := range []int{1, 2, 256, 257} {
			add(p.Err != 0 || p.Kind == 1 || p.Kind == 5, func(p *wire.Reply) { p.A = make([]api.Hash, n) })
			add(p.Err != 0 || p.Kind == 5, func(p *wire.Reply) { p.B = make([]api.Hash, n) })
			add(p.Err != 0 || p.Kind == 5, func(p *wire.Reply) { p.A, p.B = hashes(rnd, n), hashes(rnd, n) })
		}
	}
	return out
}

// noReplies is what isn't a reply, by one fault each.
func noReplies(rnd *rand.Rand) []wire.Reply {
	out := foreignReplies(rnd)
	for _, list := range noItemLists(rnd) {
		out = append(out, wire.Reply{Seq: 4, Kind: 1, Items: list}, wire.Reply{Seq: 4, Kind: 2, Items: list}, wire.Reply{Seq: 4, Kind: 2, Items: list, A: hashes(rnd, 2), B: hashes(rnd, 2)})
	}
	for _, x := range noTickets(rnd) {
		out = append(out, wire.Reply{Seq: 4, Kind: 4, There: true, Ticket: x, A: hashes(rnd, 1), B: hashes(rnd, 1)})
	}
	for _, p := range fewReplies(rnd) {
		for _, n := range []int{257, 258, 512, 8192} {
			p := p
			p.A = hashes(rnd, n)
			out = append(out, p)
		}
		for _, n := range []int{8193, 8194, 65535, 65536} {
			p := p
			p.B = hashes(rnd, n)
			out = append(out, p)
		}
	}
	for _, err := range noErrs() {
		for _, p := range append(errorReplies(rnd), fewReplies(rnd)...) {
			p.Err = err
			out = append(out, p)
		}
	}
	for _, kind := range noKinds() {
		for _, p := range append(append(fewReplies(rnd), errorReplies(rnd)...), wire.Reply{}) {
			p.Kind = kind
			out = append(out, p)
		}
	}
	return out
}

// isReply is the chapter's definition of a reply.
func isReply(p wire.Reply) bool {
	noItems, noTicket, noA, noB := len(p.Items) == 0, !p.There && alikeTickets(p.Ticket, ticket.Ticket{}), len(p.A) == 0, len(p.B) == 0
	if p.Kind < 1 || p.Kind > 5 || p.Err < 0 || p.Err > 14 {
		return false
	}
	if p.Err != 0 {
		return noItems && noTicket && noA && noB
	}
	areItems := len(p.Items) >= 1 && len(p.Items) <= 256
	for _, x := range p.Items {
		areItems = areItems && (x.There || x.Sealed == seal.Sealed{})
	}
	isA, isB := len(p.A) <= 256, len(p.B) <= 8192
	switch p.Kind {
	case 1:
		return areItems && noTicket && noA && isB
	case 2:
		return areItems && noTicket && isA && isB
	case 3:
		return noItems && noTicket && isA && isB
	case 4:
		return noItems && (noTicket || p.There && isTicket(p.Ticket)) && isA && isB
	}
	return noItems && noTicket && noA && noB
}

// alikeReplies reports whether two replies have the same in all fields.
func alikeReplies(a, b wire.Reply) bool {
	return a.Seq == b.Seq && a.Kind == b.Kind && a.Err == b.Err && slices.Equal(a.Items, b.Items) && a.There == b.There && alikeTickets(a.Ticket, b.Ticket) && slices.Equal(a.A, b.A) && slices.Equal(a.B, b.B)
}

// mustPutReply is a reply's bytes.
func mustPutReply(t *testing.T, p wire.Reply) []byte {
	t.Helper()
	b, err := wire.PutReply(p)
	if err != nil || !wire.RightReply(p) {
		t.Fatalf("kind %d, error %d, %d items, %v, %d and %d hashes: %v, %v", p.Kind, p.Err, len(p.Items), p.There, len(p.A), len(p.B), err, wire.RightReply(p))
	}
	return b
}

// notReply fails if it is a reply, or has any bytes, or another error than ErrForm.
func notReply(t *testing.T, p wire.Reply) {
	t.Helper()
	b, err := wire.PutReply(p)
	if err != api.ErrForm || len(b) != 0 || wire.RightReply(p) {
		t.Fatalf("kind %d, error %d, %d items, %v, ticket of epoch %d, %d and %d hashes: %x and %v, %v", p.Kind, p.Err, len(p.Items), p.There, p.Ticket.Epoch, len(p.A), len(p.B), b[:min(40, len(b))], err, wire.RightReply(p))
	}
}

// TestPutReply is P14.1 and P14.2: the bytes of replies of each kind, at all edges, are those of the definition, and are parsed as the same reply.
func TestPutReply(t *testing.T) {
	rnd := rand.New(rand.NewSource(11))
	for _, p := range replies(rnd) {
		b := mustPutReply(t, p)
		if !bytes.Equal(b, replyBytes(p)) {
			t.Fatalf("kind %d: %x", p.Kind, b[:min(100, len(b))])
		}
		isParsedReply(t, b, p)
	}
}

// TestNotReply is P14.1: what isn't a reply: items and hashes just too many, or none, items that aren't present but have something, tickets that are none, fields of another kind, or beside an error, and errors and kinds that are none.
func TestNotReply(t *testing.T) {
	rnd := rand.New(rand.NewSource(12))
	for _, p := range noReplies(rnd) {
		notReply(t, p)
	}
	notReply(t, wire.Reply{})
}

// TestPutReplyKnown is P14.1: bytes that were written out by hand.
func TestPutReplyKnown(t *testing.T) {
	const zeros16, zeros32 = "00000000000000000000000000000000", "0000000000000000000000000000000000000000000000000000000000000000"
	const one, two = "0100000000000000000000000000000000000000000000000000000000000000", "0200000000000000000000000000000000000000000000000000000000000003"
	sealed := seal.Sealed{Epoch: 258, Data: api.Block{0xaa, 31: 0xbb}, Tag: [16]byte{0xcc, 15: 0xdd}}
	const sealedBytes = "0000000000000102" + "aa000000000000000000000000000000000000000000000000000000000000bb" + "cc0000000000000000000000000000dd"
	a, b := api.Hash{1}, api.Hash{2, 31: 3}
	resize := ticket.Ticket{Prev: 1, Epoch: 2, Order: resizeTo(5)}
	for i, c := range []struct {
		p    wire.Reply
		want string
	}{
		{wire.Reply{Seq: 1, Kind: wire.Forget}, "0000000000000001" + "05" + "00"},
		{wire.Reply{Seq: 1, Kind: wire.Forget, Err: 6}, "0000000000000001" + "05" + "06"},
		{wire.Reply{Seq: 0x0102030405060708, Kind: wire.Read, Err: 14}, "0102030405060708" + "01" + "0e"},
		{wire.Reply{Seq: 2, Kind: wire.Chain, Err: 1}, "0000000000000002" + "04" + "01"},
		{wire.Reply{Seq: 2, Kind: wire.Read, Items: []wire.Item{{}}}, "0000000000000002" + "01" + "00" + "00" + "00" + "0000"},
		{wire.Reply{Seq: 2, Kind: wire.Read, Items: []wire.Item{{}, {There: true, Sealed: sealed}}, B: []api.Hash{b}}, "0000000000000002" + "01" + "00" + "01" + "00" + "01" + sealedBytes + "0001" + two},
		{wire.Reply{Seq: 3, Kind: wire.Span, Items: []wire.Item{{There: true}}, A: []api.Hash{a}, B: []api.Hash{b, {}}}, "0000000000000003" + "02" + "00" + "00" + "01" + "0000000000000000" + zeros32 + zeros16 + "0001" + one + "0002" + two + zeros32},
		{wire.Reply{Seq: 3, Kind: wire.Span, Items: []wire.Item{{}}}, "0000000000000003" + "02" + "00" + "00" + "00" + "0000" + "0000"},
		{wire.Reply{Seq: 4, Kind: wire.Change}, "0000000000000004" + "03" + "00" + "0000" + "0000"},
		{wire.Reply{Seq: 4, Kind: wire.Change, A: []api.Hash{a, b}}, "0000000000000004" + "03" + "00" + "0002" + one + two + "0000"},
		{wire.Reply{Seq: 4, Kind: wire.Change, B: []api.Hash{a, b}}, "0000000000000004" + "03" + "00" + "0000" + "0002" + one + two},
		{wire.Reply{Seq: 5, Kind: wire.Chain}, "0000000000000005" + "04" + "00" + "00" + "0000" + "0000"},
		{wire.Reply{Seq: 5, Kind: wire.Chain, There: true, Ticket: resize}, "0000000000000005" + "04" + "00" + "01" + "0000000000000001" + "0000000000000002" + "03" + "0000000000000005" + zeros16 + "0000" + "0000"},
		{wire.Reply{Seq: 5, Kind: wire.Chain, There: true, Ticket: resize, A: []api.Hash{a}, B: []api.Hash{b}}, "0000000000000005" + "04" + "00" + "01" + "0000000000000001" + "0000000000000002" + "03" + "0000000000000005" + zeros16 + "0001" + one + "0001" + two},
	} {
		want, err := hex.DecodeString(c.want)
		if err != nil {
			t.Fatal(err)
		}
		if got := mustPutReply(t, c.p); !bytes.Equal(got, want) {
			t.Errorf("%d: %x", i, got)
		}
		isParsedReply(t, want, c.p)
	}
}

// TestReplyLengths is P14.1: the number of 256 items has one byte, that of hashes has two.
func TestReplyLengths(t *testing.T) {
	rnd := rand.New(rand.NewSource(13))
	for _, n := range []int{1, 2, 255, 256} {
		b := mustPutReply(t, wire.Reply{Kind: wire.Read, Items: make([]wire.Item, n)})
		if len(b) != 11+n+2 || b[10] != byte(n-1) {
			t.Errorf("%d items: %d bytes, %d", n, len(b), b[10])
		}
		b = mustPutReply(t, wire.Reply{Kind: wire.Change, A: hashes(rnd, n)})
		if len(b) != 12+32*n+2 || b[10] != byte(n>>8) || b[11] != byte(n) {
			t.Errorf("%d hashes A: %d bytes, %d", n, len(b), b[10:12])
		}
	}
	for _, n := range []int{1, 255, 256, 8191, 8192} {
		b := mustPutReply(t, wire.Reply{Kind: wire.Change, B: hashes(rnd, n)})
		if len(b) != 14+32*n || b[12] != byte(n>>8) || b[13] != byte(n) {
			t.Errorf("%d hashes B: %d bytes, %d", n, len(b), b[12:14])
		}
	}
}

// TestChain is P14.1: a chain with a ticket has it, be the tag what it may, and one without has none of its fields; both have hashes A and B, as many as there are.
func TestChain(t *testing.T) {
	rnd := rand.New(rand.NewSource(14))
	for _, a := range []int{0, 1, 256, 257} {
		for _, b := range []int{0, 1, 8192, 8193} {
			for _, x := range fewTickets(rnd) {
				with := wire.Reply{Seq: 6, Kind: wire.Chain, There: true, Ticket: x, A: hashes(rnd, a), B: hashes(rnd, b)}
				without := wire.Reply{Seq: 6, Kind: wire.Chain, A: with.A, B: with.B}
				if a > 256 || b > 8192 {
					notReply(t, with)
					notReply(t, without)
					continue
				}
				if n, m := len(mustPutReply(t, with)), len(mustPutReply(t, without)); m != 15+32*(a+b) || n != m+len(definedTicket(x)) {
					t.Fatalf("%d and %d bytes", n, m)
				}
				with.There = false
				notReply(t, with)
				without.There = true
				notReply(t, without)
			}
		}
	}
}

// TestErrors is P14.1: a reply with each error from 1 to 14 has nothing else, and no reply has any other one.
func TestErrors(t *testing.T) {
	for kind := 1; kind <= 5; kind++ {
		for err := -1; err <= 255; err++ {
			p := wire.Reply{Seq: 3, Kind: kind, Err: err}
			switch {
			case err >= 1 && err <= 14:
				want := []byte{7: 3, 8: byte(kind), 9: byte(err)}
				if got := mustPutReply(t, p); !bytes.Equal(got, want) {
					t.Errorf("kind %d, error %d: %x", kind, err, got)
				}
				isParsedReply(t, want, p)
				notParsedReply(t, append(want, 0, 0))
				notParsedReply(t, append(want, 0, 0, 0, 0))
			case err != 0:
				notReply(t, p)
				notParsedReply(t, []byte{7: 3, 8: byte(kind), 9: byte(max(err, 15))})
			}
		}
		for _, err := range noErrs() {
			notReply(t, wire.Reply{Seq: 3, Kind: kind, Err: err})
		}
	}
}

// TestReplyEmptyFields is P14.1 with rule 4: a list that has nothing may be nil or empty.
func TestReplyEmptyFields(t *testing.T) {
	rnd := rand.New(rand.NewSource(15))
	for _, p := range append(fewReplies(rnd), errorReplies(rnd)...) {
		for _, room := range []int{0, 3} {
			other := p
			if len(p.Items) == 0 {
				other.Items = items(rnd, room)[:0]
			}
			if len(p.A) == 0 {
				other.A = hashes(rnd, room)[:0]
			}
			if len(p.B) == 0 {
				other.B = hashes(rnd, room)[:0]
			}
			if len(p.Ticket.Order.Indices) == 0 {
				other.Ticket.Order.Indices = from(5, room)[:0]
			}
			if len(p.Ticket.Order.Sealed) == 0 {
				other.Ticket.Order.Sealed = randomSealeds(rnd, 5, room)[:0]
			}
			if got := mustPutReply(t, other); !bytes.Equal(got, mustPutReply(t, p)) || !wire.SameReply(p, other) || !wire.SameReply(other, p) {
				t.Errorf("kind %d, error %d: %x", p.Kind, p.Err, got)
			}
		}
	}
	for _, p := range []wire.Reply{{Kind: wire.Read, Items: []wire.Item{}, B: hashes(rnd, 2)}, {Kind: wire.Span, Items: []wire.Item{}, A: []api.Hash{}, B: []api.Hash{}}} {
		notReply(t, p)
	}
}

// TestReplyAny is P14.1: small random replies, right and wrong by several faults at once, are what the definition says.
func TestReplyAny(t *testing.T) {
	rnd := rand.New(rand.NewSource(16))
	right, errs, bad := fewReplies(rnd), errorReplies(rnd), noReplies(rnd)
	count := 0
	for range 60000 {
		p := right[rnd.Intn(len(right))]
		if rnd.Intn(5) == 0 {
			p = errs[rnd.Intn(len(errs))]
		}
		for range rnd.Intn(4) {
			other := right[rnd.Intn(len(right))]
			if rnd.Intn(3) == 0 {
				other = bad[rnd.Intn(len(bad))]
			}
			mixReply(rnd, &p, other)
		}
		if !isReply(p) {
			notReply(t, p)
			continue
		}
		count++
		if got := mustPutReply(t, p); !bytes.Equal(got, replyBytes(p)) {
			t.Fatalf("%v: %x", p, got)
		}
	}
	if count < 15000 || count > 45000 {
		t.Error(count, "are replies")
	}
}

// mixReply gives a reply one field of another one.
func mixReply(rnd *rand.Rand, p *wire.Reply, other wire.Reply) {
	switch rnd.Intn(9) {
	case 0:
		p.Seq = other.Seq
	case 1:
		p.Kind = other.Kind
	case 2:
		p.Err = other.Err
	case 3:
		p.Items = other.Items
	case 4:
		p.There = other.There
	case 5:
		p.Ticket = other.Ticket
	case 6:
		p.There, p.Ticket = other.There, other.Ticket
	case 7:
		p.A = other.A
	case 8:
		p.B = other.B
	}
}
