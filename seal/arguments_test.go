package seal_test

import (
	"bytes"
	"math/rand"
	"testing"

	"entrust/api"
	"entrust/octets"
	"entrust/seal"
)

// TestArguments is P7.1 with rule 5: keys, blocks, sealed blocks and bytes are left as they are, with what stands before and behind the bytes in one memory.
func TestArguments(t *testing.T) {
	rnd := rand.New(rand.NewSource(13))
	for n := range 120 {
		key, b, index, epoch := api.Key(text(rnd, 16)), api.Block(text(rnd, 32)), rnd.Uint64()>>32, 1+rnd.Uint64()>>1
		oldKey, oldB := key, b
		s := seal.New(key)
		x := mustSeal(t, s, index, epoch, b)
		old := x
		opens(t, s, index, x, b)
		refuses(t, s, index^1, x, api.ErrAuth)
		whole := seal.Put(x)
		if key != oldKey || b != oldB || x != old {
			t.Fatalf("%x, %x, %x: changed", oldKey, oldB, old)
		}
		all := append(append(text(rnd, 100), whole...), text(rnd, 100)...)
		before := bytes.Clone(all)
		seal.Parse(all[100 : 100+n])
		seal.Read(octets.From(all[100 : 100+n]))
		if !bytes.Equal(all, before) {
			t.Fatalf("%d bytes: changed", n)
		}
	}
}

// TestNothingIsKept is P7.1 with rules 5 and 8: who changes a key, bytes or a result behind the call changes no other answer.
func TestNothingIsKept(t *testing.T) {
	rnd := rand.New(rand.NewSource(14))
	key, b := api.Key(text(rnd, 16)), api.Block(text(rnd, 32))
	s := seal.New(key)
	want := librarySealed(t, key, 5, 6, b)
	clear(key[:])
	x := mustSeal(t, s, 5, 6, b)
	clear(b[:])
	if x != want {
		t.Fatalf("%x, not %x", x, want)
	}
	first, second := seal.Put(x), seal.Put(x)
	clear(first)
	clear(first[:cap(first)])
	if !bytes.Equal(second, seal.Put(want)) {
		t.Error("two results share memory")
	}
	parsed, err := seal.Parse(second)
	if err != nil {
		t.Fatal(err)
	}
	clear(second)
	if parsed != want {
		t.Error("bytes that were changed are another sealed block's")
	}
	block, err := s.Open(5, x)
	if err != nil {
		t.Fatal(err)
	}
	old := block
	clear(block[:])
	clear(x.Data[:])
	opens(t, s, 5, want, old)
}

// TestSameAnswers is P7.1 with rules 3 and 8: many blocks by turns, with errors between, of which none hangs on what was asked before.
func TestSameAnswers(t *testing.T) {
	rnd := rand.New(rand.NewSource(15))
	sealers := []*seal.Sealer{nil, seal.New(counted()), seal.New(ones())}
	type question struct {
		sealer       int
		index, epoch uint64
		b            api.Block
	}
	questions := make([]question, 60)
	first := make([]seal.Sealed, len(questions))
	for i := range questions {
		q := question{rnd.Intn(len(sealers)), rnd.Uint64() >> 32, 1 + rnd.Uint64()>>1, api.Block(text(rnd, 32))}
		questions[i], first[i] = q, mustSeal(t, sealers[q.sealer], q.index, q.epoch, q.b)
	}
	for _, i := range append(rnd.Perm(len(questions)), rnd.Perm(len(questions))...) {
		q := questions[i]
		s := sealers[q.sealer]
		if x := mustSeal(t, s, q.index, q.epoch, q.b); x != first[i] {
			t.Fatalf("%x: %x, not %x", q, x, first[i])
		}
		refuses(t, s, q.index^1, first[i], api.ErrAuth)
		refuses(t, s, 1<<32, first[i], api.ErrRange)
		if _, err := s.Seal(q.index, 0, q.b); err != api.ErrRange {
			t.Fatal(err)
		}
		opens(t, s, q.index, first[i], q.b)
	}
}
