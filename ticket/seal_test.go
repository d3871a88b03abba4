package ticket_test

import (
	"math"
	"math/rand"
	"testing"

	"entrust/api"
	"entrust/seal"
	"entrust/ticket"
)

func randomBlocks(rnd *rand.Rand, n int) []api.Block {
	out := make([]api.Block, n)
	for i := range out {
		out[i] = api.Block(text(rnd, 32))
	}
	return out
}

// mustSealOrder is an order to write blocks.
func mustSealOrder(t *testing.T, s *seal.Sealer, epoch uint64, indices []uint64, blocks []api.Block) ticket.Order {
	t.Helper()
	o, err := ticket.Seal(s, epoch, indices, blocks)
	if err != nil {
		t.Fatalf("epoch %d, %d indices: %v", epoch, len(indices), err)
	}
	return o
}

// noSeal fails if Seal has another error than the one that is asked for, or any result beside it.
func noSeal(t *testing.T, want error, s *seal.Sealer, epoch uint64, indices []uint64, blocks []api.Block) {
	t.Helper()
	o, err := ticket.Seal(s, epoch, indices, blocks)
	if err != want || !alikeOrders(o, ticket.Order{}) {
		t.Fatalf("epoch %d, %d indices %d, %d blocks: %v, not %v, and %x", epoch, len(indices), indices[:min(len(indices), 4)], len(blocks), err, want, o)
	}
}

// sealers is sealers of several keys, and none, which has the key of zeros.
func sealers(rnd *rand.Rand) []*seal.Sealer {
	return []*seal.Sealer{nil, seal.New(api.Key{}), seal.New(api.Key(text(rnd, 16)))}
}

// TestSeal is P13.1: an order to write has the indices, and for each the block that layer 7 seals for it in the epoch; it fits, is signed, and its blocks are opened again.
func TestSeal(t *testing.T) {
	rnd := rand.New(rand.NewSource(41))
	for i, s := range sealers(rnd) {
		for _, epoch := range []uint64{1, 2, 1 << 40, lastEpoch} {
			for _, list := range [][]uint64{{0}, {lastIndex}, {1, 2, 258}, spread(rnd, 9)} {
				blocks := randomBlocks(rnd, len(list))
				blocks[0] = api.Block{}
				o := mustSealOrder(t, s, epoch, list, blocks)
				want := ticket.Order{Kind: 1, Indices: list}
				for j, index := range list {
					x, err := s.Seal(index, epoch, blocks[j])
					if err != nil {
						t.Fatal(err)
					}
					want.Sealed = append(want.Sealed, x)
					if b, err := s.Open(index, o.Sealed[j]); err != nil || b != blocks[j] {
						t.Fatalf("sealer %d, epoch %d, index %d: %x and %v", i, epoch, index, b, err)
					}
				}
				if !alikeOrders(o, want) || !ticket.Right(o) || !isOrder(o) {
					t.Fatalf("sealer %d, epoch %d, %d indices: %x, not %x", i, epoch, len(list), o, want)
				}
				mustSign(t, randomKey(rnd), epoch-1, epoch, o)
			}
		}
	}
}

// TestSealMany is P13.1: as many blocks as there may be, and one more, which is ErrForm.
func TestSealMany(t *testing.T) {
	rnd := rand.New(rand.NewSource(42))
	s := seal.New(api.Key(text(rnd, 16)))
	for _, list := range [][]uint64{from(0, 256), from(lastIndex-255, 256), spread(rnd, 256), spread(rnd, 255)} {
		blocks := randomBlocks(rnd, len(list))
		o := mustSealOrder(t, s, 9, list, blocks)
		for _, i := range []int{0, 100, len(list) - 1} {
			if b, err := s.Open(list[i], o.Sealed[i]); err != nil || b != blocks[i] || !ticket.Right(o) || len(o.Sealed) != len(list) {
				t.Fatalf("%d: %x and %v", i, b, err)
			}
		}
	}
	noSeal(t, api.ErrForm, s, 9, spread(rnd, 257), randomBlocks(rnd, 257))
	noSeal(t, api.ErrForm, s, 9, from(0, 1000000), make([]api.Block, 1000000))
}

// TestSealNone is P13.1: no blocks for no indices are ErrForm, in whatever epoch: there is none that layer 7 has an error for.
func TestSealNone(t *testing.T) {
	rnd := rand.New(rand.NewSource(43))
	for _, s := range sealers(rnd) {
		for _, epoch := range []uint64{0, 1, 9, lastEpoch, math.MaxUint64} {
			noSeal(t, api.ErrForm, s, epoch, nil, nil)
			noSeal(t, api.ErrForm, s, epoch, []uint64{}, nil)
			noSeal(t, api.ErrForm, s, epoch, nil, []api.Block{})
			noSeal(t, api.ErrForm, s, epoch, []uint64{}, []api.Block{})
		}
	}
}

// TestSealCounts is P13.1: ErrForm if there are more blocks than indices, or fewer, which comes ahead of the error of layer 7.
func TestSealCounts(t *testing.T) {
	rnd := rand.New(rand.NewSource(44))
	for _, s := range sealers(rnd) {
		for _, epoch := range []uint64{0, 9, math.MaxUint64} {
			for _, list := range append(lists(rnd), []uint64{1 << 32}, []uint64{3, math.MaxUint64}, []uint64{5, 5}) {
				for _, n := range []int{0, len(list) - 1, len(list) + 1, 2 * len(list)} {
					noSeal(t, api.ErrForm, s, epoch, list, randomBlocks(rnd, n))
				}
			}
			noSeal(t, api.ErrForm, s, epoch, nil, randomBlocks(rnd, 1))
		}
	}
}

// TestSealRange is P13.1: the error of layer 7 for an epoch or an index that is out of range, whichever of the indices it is, which comes ahead of ErrForm for indices that are no list.
func TestSealRange(t *testing.T) {
	rnd := rand.New(rand.NewSource(45))
	for _, s := range sealers(rnd) {
		for _, epoch := range []uint64{0, math.MaxUint64} {
			for _, list := range append(lists(rnd), noLists(rnd)[2:]...) {
				noSeal(t, api.ErrRange, s, epoch, list, make([]api.Block, len(list)))
			}
		}
		for _, bad := range []uint64{1 << 32, 1<<32 + 1, 1 << 63, math.MaxUint64} {
			for _, list := range [][]uint64{{bad}, {0, bad}, {bad, 0}, {4, 4, bad}, {bad, bad}, {1, bad, 3}, append(from(0, 255), bad), append(from(0, 256), bad), append(from(0, 300), bad)} {
				for _, epoch := range []uint64{0, 1, 9, lastEpoch} {
					noSeal(t, api.ErrRange, s, epoch, list, make([]api.Block, len(list)))
				}
			}
		}
	}
}

// TestSealForm is P13.1: ErrForm for indices that don't increase, or are too many, all of which are in range.
func TestSealForm(t *testing.T) {
	rnd := rand.New(rand.NewSource(46))
	for _, s := range sealers(rnd) {
		for _, list := range [][]uint64{{0, 0}, {lastIndex, lastIndex}, {1, 0}, {1, 2, 2, 3}, {1, 3, 2}, append(from(0, 255), 254), append(from(1, 255), 0), from(0, 257), spread(rnd, 300)} {
			for _, epoch := range []uint64{1, 9, lastEpoch} {
				noSeal(t, api.ErrForm, s, epoch, list, make([]api.Block, len(list)))
			}
		}
	}
}
