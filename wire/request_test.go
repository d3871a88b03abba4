package wire_test

import (
	"bytes"
	"encoding/binary"
	"encoding/hex"
	"math"
	"math/rand"
	"slices"
	"testing"

	"entrust/api"
	"entrust/ticket"
	"entrust/wire"
)

// at is a span by its first index and its number of indices.
type at struct {
	first uint64
	many  int
}

// spans is spans at the ends of what there may be for height 32, and between.
func spans() []at {
	return []at{
		{0, 1}, {0, 2}, {0, 255}, {0, 256}, {1, 1}, {1, 256}, {255, 3}, {256, 256}, {0x01020304, 5}, {1 << 31, 256},
		{lastIndex, 1}, {lastIndex - 1, 1}, {lastIndex - 1, 2}, {lastIndex - 254, 255}, {lastIndex - 255, 255}, {lastIndex - 255, 256},
	}
}

// noSpans is what is just beyond them, or far.
func noSpans() []at {
	return []at{
		{0, 0}, {0, 257}, {0, 512}, {0, -1}, {0, -255}, {0, math.MaxInt}, {0, math.MinInt}, {5, 0}, {5, 257}, {5, -256}, {0, 1<<32 + 1}, {0, math.MinInt + 1},
		{lastIndex, 0}, {lastIndex, 2}, {lastIndex, 256}, {lastIndex - 1, 3}, {lastIndex - 254, 256}, {lastIndex - 255, 257},
		{1 << 32, 0}, {1 << 32, 1}, {1<<32 + 1, 1}, {1 << 33, 256}, {1 << 63, 1}, {math.MaxUint64, 1}, {math.MaxUint64, 2}, {math.MaxUint64 - 254, 256}, {math.MaxUint64 - 255, 256},
	}
}

// fewRequests is requests of each kind, with few bytes each.
func fewRequests(rnd *rand.Rand) []wire.Request {
	out := []wire.Request{
		{Seq: 1, Kind: 1, Epoch: 6, Indices: []uint64{0}}, {Seq: 1 << 40, Kind: 1, Indices: []uint64{1, 258, lastIndex}}, {Seq: rnd.Uint64(), Kind: 1, Epoch: rnd.Uint64(), Indices: spread(rnd, 5)},
		{Seq: 2, Kind: 2, Epoch: 7, First: 0, Many: 1}, {Seq: 9, Kind: 2, First: lastIndex - 255, Many: 256}, {Seq: rnd.Uint64(), Kind: 2, Epoch: rnd.Uint64(), First: uint64(rnd.Uint32() / 2), Many: 77},
		{Kind: 4}, {Seq: rnd.Uint64(), Kind: 4, Epoch: rnd.Uint64()}, {Seq: math.MaxUint64, Kind: 4, Epoch: math.MaxUint64},
		{Kind: 5}, {Seq: rnd.Uint64(), Kind: 5, Epoch: rnd.Uint64()}, {Seq: math.MaxUint64, Kind: 5, Epoch: math.MaxUint64},
	}
	for i, x := range fewTickets(rnd) {
		out = append(out, wire.Request{Seq: []uint64{0, rnd.Uint64(), math.MaxUint64}[i%3], Kind: 3, Ticket: x})
	}
	return out
}

// requests is requests of each kind, with all edges of their fields.
func requests(rnd *rand.Rand) []wire.Request {
	out := fewRequests(rnd)
	for _, list := range lists(rnd) {
		out = append(out, wire.Request{Seq: rnd.Uint64(), Kind: 1, Epoch: rnd.Uint64(), Indices: list})
	}
	for _, x := range spans() {
		out = append(out, wire.Request{Seq: rnd.Uint64(), Kind: 2, Epoch: rnd.Uint64(), First: x.first, Many: x.many})
	}
	for _, x := range tickets(rnd) {
		out = append(out, wire.Request{Seq: rnd.Uint64(), Kind: 3, Ticket: x})
	}
	for _, epoch := range epochs() {
		for _, seq := range epochs() {
			out = append(out, wire.Request{Seq: seq, Kind: 4, Epoch: epoch}, wire.Request{Seq: seq, Kind: 5, Epoch: epoch})
			out = append(out, wire.Request{Seq: seq, Kind: 1, Epoch: epoch, Indices: []uint64{7, 9}}, wire.Request{Seq: seq, Kind: 2, Epoch: epoch, First: 7, Many: 2})
		}
	}
	return out
}

// with is a request with something done to it.
func with(q wire.Request, change func(q *wire.Request)) wire.Request {
	q.Indices = slices.Clone(q.Indices)
	change(&q)
	return q
}

// foreignRequests is requests that have a field which their kind doesn't have.
func foreignRequests(rnd *rand.Rand) []wire.Request {
	var out []wire.Request
	for _, q := range fewRequests(rnd) {
		add := func(is bool, change func(q *wire.Request)) {
			if is {
				out = append(out, with(q, change))
			}
		}
		for _, list := range [][]uint64{{0}, {1}, spread(rnd, 3), from(0, 256), from(0, 257), {1 << 32}} {
			add(q.Kind != 1, func(q *wire.Request) { q.Indices = list })
		}
		for _, n := range []uint64{1, lastIndex, 1 << 32, 1 << 63, math.MaxUint64} {
			add(q.Kind != 2, func(q *wire.Request) { q.First = n })
			add(q.Kind == 3, func(q *wire.Request) { q.Epoch = n })
		}
		for _, n := range []int{1, 2, 256, 257, -1, math.MaxInt, math.MinInt} {
			add(q.Kind != 2, func(q *wire.Request) { q.Many = n })
			add(q.Kind != 2, func(q *wire.Request) { q.First, q.Many = 3, n })
		}
		for _, x := range ticketFields(rnd) {
			add(q.Kind != 3, func(q *wire.Request) { q.Ticket = x })
		}
	}
	return out
}

// noRequests is what isn't a request, by one fault each.
func noRequests(rnd *rand.Rand) []wire.Request {
	out := foreignRequests(rnd)
	for _, epoch := range []uint64{0, 5, math.MaxUint64} {
		for _, list := range noLists(rnd) {
			out = append(out, wire.Request{Seq: 4, Kind: 1, Epoch: epoch, Indices: list})
		}
		for _, x := range noSpans() {
			out = append(out, wire.Request{Seq: 4, Kind: 2, Epoch: epoch, First: x.first, Many: x.many})
		}
	}
	for _, x := range noTickets(rnd) {
		out = append(out, wire.Request{Seq: 4, Kind: 3, Ticket: x})
	}
	for _, kind := range noKinds() {
		for _, q := range append(fewRequests(rnd), wire.Request{}) {
			q.Kind = kind
			out = append(out, q)
		}
	}
	return out
}

// isRequest is the chapter's definition of a request.
func isRequest(q wire.Request) bool {
	list := len(q.Indices) >= 1 && len(q.Indices) <= 256
	for i, index := range q.Indices {
		list = list && index < 1<<32 && (i == 0 || q.Indices[i-1] < index)
	}
	isSpan := q.Many >= 1 && q.Many <= 256 && q.First < 1<<32 && q.First+uint64(q.Many) <= 1<<32
	noList, noSpan, noTicket := len(q.Indices) == 0, q.First == 0 && q.Many == 0, alikeTickets(q.Ticket, ticket.Ticket{})
	switch q.Kind {
	case 1:
		return list && noSpan && noTicket
	case 2:
		return isSpan && noList && noTicket
	case 3:
		return isTicket(q.Ticket) && noList && noSpan && q.Epoch == 0
	case 4, 5:
		return noList && noSpan && noTicket
	}
	return false
}

// definedRequest is the bytes of a request as the chapter defines them, with whatever its ticket has as its bytes.
func definedRequest(q wire.Request, ticketBytes []byte) []byte {
	b := append(binary.BigEndian.AppendUint64(nil, q.Seq), byte(q.Kind))
	if q.Kind == 3 {
		return append(b, ticketBytes...)
	}
	b = binary.BigEndian.AppendUint64(b, q.Epoch)
	switch q.Kind {
	case 1:
		b = append(b, byte(len(q.Indices)-1))
		for _, index := range q.Indices {
			b = binary.BigEndian.AppendUint32(b, uint32(index))
		}
	case 2:
		b = append(binary.BigEndian.AppendUint32(b, uint32(q.First)), byte(q.Many-1))
	}
	return b
}

// requestBytes is the bytes of what is a request.
func requestBytes(q wire.Request) []byte {
	if q.Kind == 3 {
		return definedRequest(q, definedTicket(q.Ticket))
	}
	return definedRequest(q, nil)
}

// decodeRequest is the request of bytes, if there is one, as the definition has it.
func decodeRequest(b []byte) (wire.Request, bool) {
	if len(b) < 17 {
		return wire.Request{}, false
	}
	q := wire.Request{Seq: binary.BigEndian.Uint64(b), Kind: int(b[8]), Epoch: binary.BigEndian.Uint64(b[9:])}
	rest := b[17:]
	switch {
	case q.Kind == 1 && len(rest) > 0 && len(rest) == 1+4*(int(rest[0])+1):
		for i := 1; i < len(rest); i += 4 {
			q.Indices = append(q.Indices, uint64(binary.BigEndian.Uint32(rest[i:])))
		}
	case q.Kind == 2 && len(rest) == 5:
		q.First, q.Many = uint64(binary.BigEndian.Uint32(rest)), int(rest[4])+1
	case q.Kind == 3:
		x, err := ticket.Parse(b[9:])
		if err != nil {
			return wire.Request{}, false
		}
		q.Ticket, q.Epoch = x, 0
	case q.Kind != 4 && q.Kind != 5 || len(rest) != 0:
		return wire.Request{}, false
	}
	if !isRequest(q) {
		return wire.Request{}, false
	}
	return q, true
}

// alikeRequests reports whether two requests have the same in all fields.
func alikeRequests(a, b wire.Request) bool {
	return a.Seq == b.Seq && a.Kind == b.Kind && slices.Equal(a.Indices, b.Indices) && a.First == b.First && a.Many == b.Many && alikeTickets(a.Ticket, b.Ticket) && a.Epoch == b.Epoch
}

// mustPutRequest is a request's bytes.
func mustPutRequest(t *testing.T, q wire.Request) []byte {
	t.Helper()
	b, err := wire.PutRequest(q)
	if err != nil || !wire.RightRequest(q) {
		t.Fatalf("kind %d, %d indices, %d from %d on, epoch %d: %v, %v", q.Kind, len(q.Indices), q.Many, q.First, q.Epoch, err, wire.RightRequest(q))
	}
	return b
}

// notRequest fails if it is a request, or has any bytes, or another error than ErrForm.
func notRequest(t *testing.T, q wire.Request) {
	t.Helper()
	b, err := wire.PutRequest(q)
	if err != api.ErrForm || len(b) != 0 || wire.RightRequest(q) {
		t.Fatalf("kind %d, %d indices %d, %d from %d on, epoch %d, ticket of epoch %d: %x and %v, %v", q.Kind, len(q.Indices), q.Indices[:min(4, len(q.Indices))], q.Many, q.First, q.Epoch, q.Ticket.Epoch, b[:min(40, len(b))], err, wire.RightRequest(q))
	}
}

// isParsedRequest fails if bytes aren't parsed as a request.
func isParsedRequest(t *testing.T, b []byte, want wire.Request) {
	t.Helper()
	got, err := wire.ParseRequest(b)
	if err != nil || !alikeRequests(got, want) {
		t.Fatalf("%x: %x and %v", b[:min(100, len(b))], got, err)
	}
}

// notParsedRequest fails if bytes are parsed as a request, or have another error than ErrForm, or anything beside it.
func notParsedRequest(t *testing.T, b []byte) {
	t.Helper()
	got, err := wire.ParseRequest(b)
	if err != api.ErrForm || !alikeRequests(got, wire.Request{}) {
		t.Fatalf("%x: %x and %v", b[:min(100, len(b))], got, err)
	}
}

// TestPutRequest is P14.1 and P14.2: the bytes of requests of each kind, at all edges, are those of the definition, and are parsed as the same request.
func TestPutRequest(t *testing.T) {
	rnd := rand.New(rand.NewSource(1))
	for _, q := range requests(rnd) {
		b := mustPutRequest(t, q)
		if !bytes.Equal(b, requestBytes(q)) {
			t.Fatalf("kind %d: %x", q.Kind, b[:min(100, len(b))])
		}
		isParsedRequest(t, b, q)
	}
}

// TestNotRequest is P14.1: what isn't a request: indices and spans just outside, tickets that are none, fields of another kind, and kinds that are none.
func TestNotRequest(t *testing.T) {
	rnd := rand.New(rand.NewSource(2))
	for _, q := range noRequests(rnd) {
		notRequest(t, q)
	}
	notRequest(t, wire.Request{})
}

// TestPutRequestKnown is P14.1: bytes that were written out by hand; the chapter's example is the first one.
func TestPutRequestKnown(t *testing.T) {
	resize := ticket.Ticket{Prev: 1, Epoch: 2, Order: resizeTo(5), Tag: [16]byte{0xaa, 15: 0xbb}}
	trim := ticket.Ticket{Epoch: 1, Order: trimOf([]uint64{7, 9})}
	for _, c := range []struct {
		q    wire.Request
		want string
	}{
		{wire.Request{Seq: 1, Kind: wire.Forget, Epoch: 3}, "0000000000000001" + "05" + "0000000000000003"},
		{wire.Request{Seq: 0x0102030405060708, Kind: wire.Chain, Epoch: math.MaxUint64}, "0102030405060708" + "04" + "ffffffffffffffff"},
		{wire.Request{Seq: 2, Kind: wire.Read, Epoch: 6, Indices: []uint64{0}}, "0000000000000002" + "01" + "0000000000000006" + "00" + "00000000"},
		{wire.Request{Seq: 2, Kind: wire.Read, Indices: []uint64{1, 258, lastIndex}}, "0000000000000002" + "01" + "0000000000000000" + "02" + "00000001" + "00000102" + "ffffffff"},
		{wire.Request{Seq: 3, Kind: wire.Span, Epoch: 256, First: 0x01020304, Many: 2}, "0000000000000003" + "02" + "0000000000000100" + "01020304" + "01"},
		{wire.Request{Seq: 3, Kind: wire.Span, Epoch: 1, First: lastIndex - 255, Many: 256}, "0000000000000003" + "02" + "0000000000000001" + "ffffff00" + "ff"},
		{wire.Request{Seq: 4, Kind: wire.Change, Ticket: resize}, "0000000000000004" + "03" + "0000000000000001" + "0000000000000002" + "03" + "0000000000000005" + "aa0000000000000000000000000000bb"},
		{wire.Request{Seq: 4, Kind: wire.Change, Ticket: trim}, "0000000000000004" + "03" + "0000000000000000" + "0000000000000001" + "02" + "01" + "00000007" + "00000009" + "00000000000000000000000000000000"},
	} {
		want, err := hex.DecodeString(c.want)
		if err != nil {
			t.Fatal(err)
		}
		if got := mustPutRequest(t, c.q); !bytes.Equal(got, want) {
			t.Errorf("kind %d: %x", c.q.Kind, got)
		}
		isParsedRequest(t, want, c.q)
	}
}

// TestRequestLengths is P14.1: a read of 256 indices has its number in one byte, and so has a span of 256.
func TestRequestLengths(t *testing.T) {
	for _, n := range []int{1, 2, 255, 256} {
		b := mustPutRequest(t, wire.Request{Kind: wire.Read, Indices: from(lastIndex-255, n)})
		if len(b) != 18+4*n || b[17] != byte(n-1) {
			t.Errorf("%d indices: %d bytes, %d", n, len(b), b[17])
		}
		b = mustPutRequest(t, wire.Request{Kind: wire.Span, First: 9, Many: n})
		if len(b) != 22 || b[21] != byte(n-1) {
			t.Errorf("span of %d: %d bytes, %d", n, len(b), b[21])
		}
	}
}

// TestRequestEmptyFields is P14.1 with rule 4: a list that a kind doesn't have may be nil or empty.
func TestRequestEmptyFields(t *testing.T) {
	rnd := rand.New(rand.NewSource(3))
	for _, q := range fewRequests(rnd) {
		for _, room := range []int{0, 3} {
			other := q
			if q.Kind != 1 {
				other.Indices = from(5, room)[:0]
			}
			switch {
			case q.Kind != 3:
				other.Ticket.Order.Indices, other.Ticket.Order.Sealed = from(5, room)[:0], randomSealeds(rnd, 5, room)[:0]
			case q.Ticket.Order.Kind == ticket.Resize:
				other.Ticket.Order.Indices = from(5, room)[:0]
			}
			if got := mustPutRequest(t, other); !bytes.Equal(got, mustPutRequest(t, q)) {
				t.Errorf("kind %d: %x", q.Kind, got)
			}
		}
		q.Kind = 1
		q.Indices = []uint64{}
		notRequest(t, q)
	}
}

// TestRequestAny is P14.1: small random requests, right and wrong by several faults at once, are what the definition says.
func TestRequestAny(t *testing.T) {
	rnd := rand.New(rand.NewSource(4))
	right, bad := fewRequests(rnd), noRequests(rnd)
	count := 0
	for range 60000 {
		q := right[rnd.Intn(len(right))]
		for range rnd.Intn(3) {
			other := right[rnd.Intn(len(right))]
			if rnd.Intn(3) == 0 {
				other = bad[rnd.Intn(len(bad))]
			}
			mixRequest(rnd, &q, other)
		}
		if !isRequest(q) {
			notRequest(t, q)
			continue
		}
		count++
		if got := mustPutRequest(t, q); !bytes.Equal(got, requestBytes(q)) {
			t.Fatalf("%x: %x", q, got)
		}
	}
	if count < 15000 || count > 45000 {
		t.Error(count, "are requests")
	}
}

// mixRequest gives a request one field of another one.
func mixRequest(rnd *rand.Rand, q *wire.Request, other wire.Request) {
	switch rnd.Intn(7) {
	case 0:
		q.Seq = other.Seq
	case 1:
		q.Kind = other.Kind
	case 2:
		q.Indices = other.Indices
	case 3:
		q.First = other.First
	case 4:
		q.Many = other.Many
	case 5:
		q.Ticket = other.Ticket
	case 6:
		q.Epoch = other.Epoch
	}
}

// TestRequestCutShort is P14.1: a request's bytes that end too early, wherever, are ErrForm and the zero request, and so are some with more behind them.
func TestRequestCutShort(t *testing.T) {
	rnd := rand.New(rand.NewSource(5))
	big := []wire.Request{{Kind: wire.Read, Indices: spread(rnd, 256)}, {Kind: wire.Change, Ticket: tagged(rnd, 4, 9, writeOf(rnd, 9, spread(rnd, 40)))}, {Kind: wire.Change, Ticket: tagged(rnd, 4, 9, trimOf(from(7, 256)))}}
	for _, q := range append(fewRequests(rnd), big...) {
		b := mustPutRequest(t, q)
		for n := range b {
			notParsedRequest(t, b[:n])
		}
		for _, rest := range [][]byte{{0}, {1}, {255}, text(rnd, 4), text(rnd, 60), b} {
			notParsedRequest(t, append(bytes.Clone(b), rest...))
		}
		isParsedRequest(t, b, q)
	}
	notParsedRequest(t, nil)
	notParsedRequest(t, []byte{})
}

// TestParseRequestKinds is P14.1: ErrForm for each byte that is no kind; each kind in front of another one's bytes is what the definition says.
func TestParseRequestKinds(t *testing.T) {
	rnd := rand.New(rand.NewSource(6))
	for _, q := range fewRequests(rnd) {
		b := mustPutRequest(t, q)
		for kind := range 256 {
			b[8] = byte(kind)
			want, is := decodeRequest(b)
			switch {
			case is:
				isParsedRequest(t, b, want)
			case kind == q.Kind:
				t.Fatalf("kind %d is none", kind)
			default:
				notParsedRequest(t, b)
				notParsedRequest(t, append(bytes.Clone(b), make([]byte, 20000)...))
			}
		}
	}
	for n := range 300 {
		notParsedRequest(t, make([]byte, n))
	}
}

// TestParseRequestFields is P14.1: ErrForm for bytes of what a field makes no request: indices that don't increase, spans that end beyond the last index, tickets that are none.
func TestParseRequestFields(t *testing.T) {
	rnd := rand.New(rand.NewSource(7))
	for _, list := range noLists(rnd) {
		if len(list) == 0 || len(list) > 256 || slices.Max(list) > lastIndex {
			continue // such as can't be written in these bytes at all
		}
		notParsedRequest(t, definedRequest(wire.Request{Seq: 4, Kind: 1, Epoch: 5, Indices: list}, nil))
	}
	for _, x := range noSpans() {
		if x.first > lastIndex || x.many < 1 || x.many > 256 {
			continue
		}
		notParsedRequest(t, definedRequest(wire.Request{Seq: 4, Kind: 2, Epoch: 5, First: x.first, Many: x.many}, nil))
	}
	for _, x := range fewTickets(rnd) {
		b := definedTicket(x)
		for _, change := range []func(b []byte){
			func(b []byte) { copy(b, b[8:16]) },
			func(b []byte) { clear(b[8:16]) },
			func(b []byte) { copy(b[8:], bytes.Repeat([]byte{255}, 8)) },
			func(b []byte) { b[16] = 0 },
			func(b []byte) { b[16] = 4 },
			func(b []byte) { b[17] ^= 128 },
		} {
			bad := bytes.Clone(b)
			change(bad)
			notParsedRequest(t, definedRequest(wire.Request{Seq: 4, Kind: 3}, bad))
		}
		isParsedRequest(t, definedRequest(wire.Request{Seq: 4, Kind: 3}, b), wire.Request{Seq: 4, Kind: 3, Ticket: x})
	}
}

// TestParseRequestAny is P14.1 and P14.2: small requests' bytes with some of them changed, left out or put in are parsed as the definition has it; what is parsed is put as it was.
func TestParseRequestAny(t *testing.T) {
	rnd := rand.New(rand.NewSource(8))
	few := fewRequests(rnd)
	parsed := 0
	for range 60000 {
		b := requestBytes(few[rnd.Intn(len(few))])
		for range rnd.Intn(4) {
			b = damaged(rnd, b)
		}
		want, is := decodeRequest(b)
		if !is {
			notParsedRequest(t, b)
			continue
		}
		parsed++
		isParsedRequest(t, b, want)
		if got := mustPutRequest(t, want); !bytes.Equal(got, b) {
			t.Fatalf("%x, not %x", got, b)
		}
	}
	if parsed < 10000 || parsed > 50000 {
		t.Error(parsed, "are requests")
	}
}
