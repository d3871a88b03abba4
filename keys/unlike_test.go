package keys_test

import (
	"math/rand"
	"slices"
	"testing"

	"entrust/api"
	"entrust/keys"
)

// TestUnlikeLabels is P6.2: no two labels have the same key, with one volume's key, nor the same first half of it, which Enc is made of.
func TestUnlikeLabels(t *testing.T) {
	rnd := rand.New(rand.NewSource(5))
	all := labels(rnd)
	for a := range 256 {
		for _, b := range []byte{0, 1, 128, 255} {
			all = append(all, string([]byte{byte(a), b}), string([]byte{b, byte(a)}))
		}
	}
	for range 500 {
		all = append(all, string(text(rnd, rnd.Intn(100))))
	}
	for _, key := range []api.Key{{}, ones(), counted(), api.Key(text(rnd, 16))} {
		of, half := map[api.Hash]string{}, map[api.Key]string{}
		for _, label := range all {
			h := keys.Label(key, label)
			if old, is := of[h]; is && old != label {
				t.Fatalf("key %x: %q and %q have %x", key, old, label, h)
			}
			if old, is := half[api.Key(h[:16])]; is && old != label {
				t.Fatalf("key %x: %q and %q begin with %x", key, old, label, h[:16])
			}
			of[h], half[api.Key(h[:16])] = label, label
		}
	}
}

// TestUnlikeBits is P6.2: a label with one bit inverted, with a byte more, or with one less has another key, at any length.
func TestUnlikeBits(t *testing.T) {
	rnd := rand.New(rand.NewSource(6))
	key := api.Key(text(rnd, 16))
	for _, n := range []int{1, 12, 55, 56, 63, 64, 65, 300} {
		label := text(rnd, n)
		old := keys.Label(key, string(label))
		for i := range 8 * n {
			label[i/8] ^= 1 << (i % 8)
			if keys.Label(key, string(label)) == old {
				t.Fatalf("key %x, %q: the same with bit %d inverted", key, label, i)
			}
			label[i/8] ^= 1 << (i % 8)
		}
		for a := range 256 {
			if keys.Label(key, string(append(slices.Clone(label), byte(a)))) == old {
				t.Fatalf("key %x, %q: the same with a byte %d more", key, label, a)
			}
		}
		if keys.Label(key, string(label[:n-1])) == old || keys.Label(key, string(label[1:])) == old {
			t.Fatalf("key %x, %q: the same with a byte less", key, label)
		}
	}
}

// TestUnlikeSessions is P6.2: no two sessions have the same key, with one link.
func TestUnlikeSessions(t *testing.T) {
	rnd := rand.New(rand.NewSource(7))
	all := numbers(rnd)
	for n := range uint64(2000) {
		all = append(all, n, ^n, n<<32, n<<48)
	}
	for _, set := range []keys.Set{keys.Of(api.Key{}), keys.Of(api.Key(text(rnd, 16))), {}, {Link: api.Hash(text(rnd, 32))}} {
		of := map[api.Hash]uint64{}
		for _, n := range all {
			h := set.Session(n)
			if old, is := of[h]; is && old != n {
				t.Fatalf("link %x: %d and %d have %x", set.Link, old, n, h)
			}
			of[h] = n
		}
	}
}

// TestUnlikeSets is P6.1 and P6.2: the keys of volumes' keys that differ in one bit or more have none in common, among one volume's keys, between them, or with sessions' keys.
func TestUnlikeSets(t *testing.T) {
	rnd := rand.New(rand.NewSource(8))
	seen := map[string]api.Key{}
	for _, key := range volumeKeys(rnd) {
		set := keys.Of(key)
		all := [][]byte{key[:], set.Enc[:], set.Tag[:16], set.Ticket[:16], set.Link[:16], set.Tag[16:], set.Ticket[16:], set.Link[16:]}
		for n := range uint64(10) {
			h := set.Session(n)
			all = append(all, h[:16], h[16:])
		}
		for _, b := range all {
			if old, is := seen[string(b)]; is {
				t.Fatalf("%x is of keys %x and %x", b, old, key)
			}
			seen[string(b)] = key
		}
	}
}

// TestUnlikeLinks is P6.1: one session's keys with links that differ in one bit.
func TestUnlikeLinks(t *testing.T) {
	rnd := rand.New(rand.NewSource(9))
	link := api.Hash(text(rnd, 32))
	for _, n := range []uint64{0, 1, 1<<64 - 1} {
		old := keys.Session(link, n)
		for i := range 8 * len(link) {
			other := link
			other[i/8] ^= 1 << (i % 8)
			if keys.Session(other, n) == old || (keys.Set{Link: other}).Session(n) == old {
				t.Fatalf("link %x, session %d: the same with bit %d inverted", link, n, i)
			}
		}
	}
}
