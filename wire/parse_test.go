package wire_test

import (
	"bytes"
	"encoding/binary"
	"math"
	"math/rand"
	"testing"

	"entrust/api"
	"entrust/seal"
	"entrust/ticket"
	"entrust/wire"
)

// definedHead is the bytes that each reply begins with.
func definedHead(p wire.Reply) []byte {
	return append(binary.BigEndian.AppendUint64(nil, p.Seq), byte(p.Kind), byte(p.Err))
}

// definedItems is the bytes of items, as the chapter defines them.
func definedItems(list []wire.Item) []byte {
	b := []byte{byte(len(list) - 1)}
	for _, x := range list {
		if !x.There {
			b = append(b, 0)
			continue
		}
		b = binary.BigEndian.AppendUint64(append(b, 1), x.Sealed.Epoch)
		b = append(append(b, x.Sealed.Data[:]...), x.Sealed.Tag[:]...)
	}
	return b
}

// definedHashes is the bytes of hashes, as the chapter defines them.
func definedHashes(list []api.Hash) []byte {
	b := binary.BigEndian.AppendUint16(nil, uint16(len(list)))
	for _, h := range list {
		b = append(b, h[:]...)
	}
	return b
}

// replyBytes is the bytes of what is a reply, as the chapter defines them.
func replyBytes(p wire.Reply) []byte {
	b := definedHead(p)
	if p.Err != 0 {
		return b
	}
	switch {
	case p.Kind <= 2:
		b = append(b, definedItems(p.Items)...)
	case p.Kind == 4 && p.There:
		b = append(append(b, 1), definedTicket(p.Ticket)...)
	case p.Kind == 4:
		b = append(b, 0)
	}
	if p.Kind >= 2 && p.Kind <= 4 {
		b = append(b, definedHashes(p.A)...)
	}
	if p.Kind != 5 {
		b = append(b, definedHashes(p.B)...)
	}
	return b
}

// decodeHashes is the hashes that bytes begin with, and the bytes behind them.
func decodeHashes(b []byte) (list []api.Hash, rest []byte, is bool) {
	if len(b) < 2 || len(b) < 2+32*int(binary.BigEndian.Uint16(b)) {
		return nil, nil, false
	}
	n := int(binary.BigEndian.Uint16(b))
	for i := range n {
		list = append(list, api.Hash(b[2+32*i:34+32*i]))
	}
	return list, b[2+32*n:], true
}

// decodeItems is the items that bytes begin with, and the bytes behind them.
func decodeItems(b []byte) (list []wire.Item, rest []byte, is bool) {
	if len(b) < 1 {
		return nil, nil, false
	}
	n := int(b[0]) + 1
	b = b[1:]
	for range n {
		switch {
		case len(b) >= 1 && b[0] == 0:
			list, b = append(list, wire.Item{}), b[1:]
		case len(b) >= 57 && b[0] == 1:
			x := seal.Sealed{Epoch: binary.BigEndian.Uint64(b[1:]), Data: api.Block(b[9:41]), Tag: [16]byte(b[41:57])}
			list, b = append(list, wire.Item{There: true, Sealed: x}), b[57:]
		default:
			return nil, nil, false
		}
	}
	return list, b, true
}

// decodeAnswer is a reply, if there is one, with what stands behind the head.
func decodeAnswer(p wire.Reply, b []byte) (wire.Reply, bool) {
	is := true
	switch {
	case p.Kind == 1 || p.Kind == 2:
		p.Items, b, is = decodeItems(b)
	case p.Kind == 4 && len(b) > 0 && b[0] == 0:
		b = b[1:]
	case p.Kind == 4 && len(b) > 1 && b[0] == 1:
		n := ticketLength(b[1:])
		if n == 0 || len(b) < 1+n {
			return p, false
		}
		x, err := ticket.Parse(b[1 : 1+n])
		p.There, p.Ticket, b, is = true, x, b[1+n:], err == nil
	case p.Kind == 4:
		is = false
	}
	if is && p.Kind >= 2 && p.Kind <= 4 {
		p.A, b, is = decodeHashes(b)
	}
	if is && p.Kind <= 4 {
		p.B, b, is = decodeHashes(b)
	}
	return p, is && len(b) == 0
}

// decodeReply is the reply of bytes, if there is one, as the definition has it.
func decodeReply(b []byte) (wire.Reply, bool) {
	if len(b) < 10 {
		return wire.Reply{}, false
	}
	p, is := wire.Reply{Seq: binary.BigEndian.Uint64(b), Kind: int(b[8]), Err: int(b[9])}, len(b) == 10
	if p.Err == 0 {
		p, is = decodeAnswer(p, b[10:])
	}
	if !is || !isReply(p) {
		return wire.Reply{}, false
	}
	return p, true
}

// isParsedReply fails if bytes aren't parsed as a reply.
func isParsedReply(t *testing.T, b []byte, want wire.Reply) {
	t.Helper()
	got, err := wire.ParseReply(b)
	if err != nil || !alikeReplies(got, want) || !wire.SameReply(got, want) {
		t.Fatalf("%x: %v and %v", b[:min(100, len(b))], got, err)
	}
}

// notParsedReply fails if bytes are parsed as a reply, or have another error than ErrForm, or anything beside it.
func notParsedReply(t *testing.T, b []byte) {
	t.Helper()
	got, err := wire.ParseReply(b)
	if err != api.ErrForm || !alikeReplies(got, wire.Reply{}) {
		t.Fatalf("%x: %v and %v", b[:min(100, len(b))], got, err)
	}
}

// TestReplyCutShort is P14.1: a reply's bytes that end too early, wherever, are ErrForm and the zero reply, and so are some with more behind them.
func TestReplyCutShort(t *testing.T) {
	rnd := rand.New(rand.NewSource(21))
	big := []wire.Reply{
		{Kind: wire.Read, Items: items(rnd, 256), B: hashes(rnd, 40)}, {Kind: wire.Span, Items: items(rnd, 30), A: hashes(rnd, 256), B: hashes(rnd, 3)},
		{Kind: wire.Change, A: hashes(rnd, 5), B: hashes(rnd, 300)}, {Kind: wire.Chain, There: true, Ticket: tagged(rnd, 4, 9, writeOf(rnd, 9, spread(rnd, 40))), A: hashes(rnd, 40), B: hashes(rnd, 20)},
	}
	for _, p := range append(append(fewReplies(rnd), errorReplies(rnd)...), big...) {
		b := mustPutReply(t, p)
		for n := range b {
			notParsedReply(t, b[:n])
		}
		for _, rest := range [][]byte{{0}, {1}, {255}, {0, 0}, text(rnd, 32), text(rnd, 60), b} {
			notParsedReply(t, append(bytes.Clone(b), rest...))
		}
		isParsedReply(t, b, p)
	}
	notParsedReply(t, nil)
	notParsedReply(t, []byte{})
}

// TestParseReplyKinds is P14.1: ErrForm for each byte that is no kind; each kind, and each byte of an error, in front of another one's bytes is what the definition says.
func TestParseReplyKinds(t *testing.T) {
	rnd := rand.New(rand.NewSource(22))
	for _, p := range append(fewReplies(rnd), errorReplies(rnd)...) {
		good := mustPutReply(t, p)
		for _, at := range []int{8, 9} {
			for n := range 256 {
				b := bytes.Clone(good)
				b[at] = byte(n)
				want, is := decodeReply(b)
				switch {
				case is:
					isParsedReply(t, b, want)
				case n == int(good[at]):
					t.Fatalf("%x is none", b)
				default:
					notParsedReply(t, b)
				}
			}
		}
	}
	for n := range 300 {
		notParsedReply(t, make([]byte, n))
		notParsedReply(t, append([]byte{8: 6, 9: 0}, make([]byte, n)...))
		notParsedReply(t, append([]byte{8: 255, 9: 1}, make([]byte, n)...))
	}
}

// TestParseReplyFlags is P14.1: ErrForm for each byte that is no flag, of an item, wherever it stands, and of a chain.
func TestParseReplyFlags(t *testing.T) {
	rnd := rand.New(rand.NewSource(23))
	for _, kind := range []int{wire.Read, wire.Span} {
		p := wire.Reply{Kind: kind, Items: []wire.Item{{}, {There: true, Sealed: randomSealed(rnd, 9)}, {}}}
		b := mustPutReply(t, p)
		for _, at := range []int{11, 12, 69} {
			for flag := 2; flag < 256; flag++ {
				bad := bytes.Clone(b)
				bad[at] = byte(flag)
				notParsedReply(t, bad)
			}
		}
		isParsedReply(t, b, p)
	}
	for _, p := range []wire.Reply{{Kind: wire.Chain, A: hashes(rnd, 1)}, {Kind: wire.Chain, There: true, Ticket: fewTickets(rnd)[0]}} {
		b := mustPutReply(t, p)
		for flag := 2; flag < 256; flag++ {
			b[10] = byte(flag)
			notParsedReply(t, b)
		}
	}
}

// TestParseReplyHashes is P14.1: as many hashes as there may be are parsed, and ErrForm is for one more, with all their bytes or without, and for numbers where there may be none.
func TestParseReplyHashes(t *testing.T) {
	rnd := rand.New(rand.NewSource(24))
	for _, p := range []wire.Reply{{Kind: 1, Items: items(rnd, 2)}, {Kind: 2, Items: items(rnd, 2)}, {Kind: 3}, {Kind: 4}, {Kind: 4, There: true, Ticket: fewTickets(rnd)[3]}} {
		head := replyBytes(p)
		head = head[:len(head)-2]
		if p.Kind != 1 {
			head = head[:len(head)-2]
		}
		for _, n := range []int{0, 1, 256, 257, 258, 8192, 65535} {
			for _, m := range []int{0, 1, 256, 8192, 8193, 8194, 65535} {
				q := p
				q.A, q.B = hashes(rnd, n), hashes(rnd, m)
				b := bytes.Clone(head)
				if p.Kind != 1 {
					b = append(b, definedHashes(q.A)...)
				} else if q.A = nil; n != 0 {
					continue
				}
				b = append(b, definedHashes(q.B)...)
				if len(q.A) <= 256 && m <= 8192 {
					isParsedReply(t, b, q)
				} else {
					notParsedReply(t, b)
				}
			}
			notParsedReply(t, append(append(bytes.Clone(head), byte(n>>8), byte(n)), 1))
		}
	}
	for _, b := range [][]byte{{8: 5, 11: 0}, {8: 5, 13: 0}, append([]byte{8: 5, 11: 1}, text(rnd, 32)...)} {
		notParsedReply(t, b)
	}
}

// TestParseReplyTickets is P14.1: ErrForm for a chain whose ticket's bytes are those of none.
func TestParseReplyTickets(t *testing.T) {
	rnd := rand.New(rand.NewSource(25))
	for _, x := range fewTickets(rnd) {
		b := definedTicket(x)
		p := wire.Reply{Seq: 4, Kind: wire.Chain, There: true, Ticket: x, A: hashes(rnd, 2), B: hashes(rnd, 1)}
		whole := func(b []byte) []byte {
			out := append(append(definedHead(p), 1), b...)
			return append(append(out, definedHashes(p.A)...), definedHashes(p.B)...)
		}
		for _, change := range []func(b []byte){
			func(b []byte) { copy(b, b[8:16]) },
			func(b []byte) { clear(b[8:16]) },
			func(b []byte) { binary.BigEndian.PutUint64(b[8:], math.MaxUint64) },
			func(b []byte) { b[16] = 0 },
			func(b []byte) { b[16] = 4 },
			func(b []byte) { b[17] ^= 128 },
		} {
			bad := bytes.Clone(b)
			change(bad)
			notParsedReply(t, whole(bad))
		}
		isParsedReply(t, whole(b), p)
	}
}

// TestParseReplyAny is P14.1 and P14.2: small replies' bytes with some of them changed, left out or put in are parsed as the definition has it; what is parsed is put as it was.
func TestParseReplyAny(t *testing.T) {
	rnd := rand.New(rand.NewSource(26))
	few, errs := fewReplies(rnd), errorReplies(rnd)
	parsed := 0
	for i := range 60000 {
		b := replyBytes(few[rnd.Intn(len(few))])
		if i%8 == 0 {
			b = replyBytes(errs[rnd.Intn(len(errs))])
		}
		for range rnd.Intn(4) {
			b = damaged(rnd, b)
		}
		want, is := decodeReply(b)
		if !is {
			notParsedReply(t, b)
			continue
		}
		parsed++
		isParsedReply(t, b, want)
		if got := mustPutReply(t, want); !bytes.Equal(got, b) {
			t.Fatalf("%x, not %x", got, b)
		}
	}
	if parsed < 10000 || parsed > 50000 {
		t.Error(parsed, "are replies")
	}
}
