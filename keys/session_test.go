package keys_test

import (
	"bytes"
	"encoding/binary"
	"math"
	"math/rand"
	"testing"

	"entrust/api"
	"entrust/hmac"
	"entrust/keys"
)

// numbers are sessions' numbers: the least and the greatest, those about which a byte or a bit more is needed, each byte at each place, and random ones.
func numbers(rnd *rand.Rand) []uint64 {
	out := []uint64{0, 1, 2, 255, 256, 257, 0x0102030405060708, 0x0807060504030201, math.MaxUint64, math.MaxUint64 - 1, api.MaxEpoch}
	for bit := range 64 {
		n := uint64(1) << bit
		out = append(out, n, n-1, n+1, ^n)
	}
	for place := range 8 {
		for a := range 256 {
			out = append(out, uint64(a)<<(8*place))
		}
	}
	for range 200 {
		out = append(out, rnd.Uint64())
	}
	return out
}

// links are the keys of links: those of a Set, and any other hash.
func links(rnd *rand.Rand) []api.Hash {
	out := []api.Hash{keys.Of(api.Key{}).Link, keys.Of(counted()).Link, {}, {0: 1}, {31: 1}, api.Hash(bytes.Repeat([]byte{255}, 32))}
	for range 3 {
		out = append(out, keys.Of(api.Key(text(rnd, 16))).Link, api.Hash(text(rnd, 32)))
	}
	return out
}

// checkSession holds a session's key against the tag of its number, by Go's library and by layer 3, in eight bytes; by the package's call, and by those of Sets that have the link, whatever their other keys are.
func checkSession(t *testing.T, link api.Hash, n uint64) {
	t.Helper()
	number := binary.BigEndian.AppendUint64(nil, n)
	want := libraryMac(link[:], number)
	if other := hmac.Mac(link[:], number); other != want {
		t.Fatalf("link %x, session %d: %x of layer 3, not %x", link, n, other, want)
	}
	if got := keys.Session(link, n); got != want {
		t.Fatalf("link %x, session %d: %x, not %x", link, n, got, want)
	}
	for _, set := range []keys.Set{
		{Link: link},
		{Enc: api.Key{1}, Tag: api.Hash{2}, Ticket: api.Hash{3}, Link: link},
		{Enc: ones(), Tag: link, Ticket: link, Link: link},
	} {
		if got := set.Session(n); got != want {
			t.Fatalf("set %x, session %d: %x, not %x", set, n, got, want)
		}
		if got := (&set).Session(n); got != want {
			t.Fatalf("set %x, session %d by its address: %x, not %x", set, n, got, want)
		}
	}
}

// TestSession is P6.1: sessions of all kinds, with the links of Sets and with other hashes.
func TestSession(t *testing.T) {
	rnd := rand.New(rand.NewSource(3))
	for _, link := range links(rnd) {
		for _, n := range []uint64{0, 1, 255, 256, math.MaxUint64} {
			checkSession(t, link, n)
		}
	}
	link := keys.Of(api.Key(text(rnd, 16))).Link
	for _, n := range numbers(rnd) {
		checkSession(t, link, n)
		checkSession(t, api.Hash(text(rnd, 32)), n)
	}
}

// TestSessionOfSet is P6.1: the sessions of a Set that Of made are those with its Link, which is the link's label's tag.
func TestSessionOfSet(t *testing.T) {
	rnd := rand.New(rand.NewSource(4))
	for _, key := range volumeKeys(rnd) {
		set := keys.Of(key)
		for _, n := range []uint64{0, 1, 255, 256, math.MaxUint64, rnd.Uint64()} {
			link := libraryMac(key[:], []byte("entrust link"))
			want := libraryMac(link[:], binary.BigEndian.AppendUint64(nil, n))
			if got := set.Session(n); got != want {
				t.Fatalf("key %x, session %d: %x, not %x", key, n, got, want)
			}
			if got := keys.Session(set.Link, n); got != want {
				t.Fatalf("key %x, session %d with Link: %x, not %x", key, n, got, want)
			}
			if got := keys.Session(keys.Label(key, "entrust link"), n); got != want {
				t.Fatalf("key %x, session %d with the label's tag: %x, not %x", key, n, got, want)
			}
		}
	}
}

// TestZeroSet is P6.1: a Set that Of didn't make has the sessions of its Link too, which is zeros in a zero one, unlike that of the key of zeros.
func TestZeroSet(t *testing.T) {
	var set keys.Set
	for _, n := range []uint64{0, 1, 255, 256, math.MaxUint64} {
		want := libraryMac(make([]byte, 32), binary.BigEndian.AppendUint64(nil, n))
		if got := set.Session(n); got != want {
			t.Errorf("session %d: %x, not %x", n, got, want)
		}
		if got := keys.Session(api.Hash{}, n); got != want {
			t.Errorf("session %d with zeros: %x, not %x", n, got, want)
		}
		if set.Session(n) == keys.Of(api.Key{}).Session(n) {
			t.Errorf("session %d: that of the key of zeros", n)
		}
	}
}

// TestKnownSessions is P6.1: sessions' keys that other programs (Python's hmac, and OpenSSL) made, with the link of the key of the bytes 0 to 15, and with zeros.
func TestKnownSessions(t *testing.T) {
	set := keys.Of(counted())
	for _, x := range []struct {
		n             uint64
		want, ofZeros string
	}{
		{0, "1cba3e59db1ed4f2ce3e50c9d6f2ff795765a1dc208d61ffd995ac04bea21550", "f375180aba92888401f1919be4a8715a62763b65c1c10e1d0858e81d4d6f9fd2"},
		{1, "574b65d3c08c33213a7695cec2679422536e42c5237d5e462dffde12e9fc38ba", "a4a11ce5fbe8f96bf3028035286c2c9274cd4259cbc224e37a73d971923903d3"},
		{255, "626ecf1634d67c0f0c1932affeab978b2daac4e257cf48b7caa3de35a5512b8d", "9c8292eeefa8fc1515b6ea28d6768c93b948ebbd9511ba175025c18e87ae9f2b"},
		{256, "bd78e8c32e26c63ec1929658d90a7a3bae216b439c0d1a9929f666fa835df603", "68662895448ced301eda548a8bb6d380c20ae410d2c2a310144e08709da10dcd"},
		{math.MaxUint64, "b18d5da06da10d5eaa8a0bc5cf314d7e7195e098ae09476bb4abc37f09d9cabc", "408ac12673ac14b4acff15c51497df11906b1eacc13c5685bbd09cb502ddc901"},
	} {
		if got, other := set.Session(x.n), keys.Session(set.Link, x.n); got != hash(t, x.want) || other != got {
			t.Errorf("session %d: %x, and %x, not %s", x.n, got, other, x.want)
		}
		if got, other := keys.Session(api.Hash{}, x.n), (keys.Set{}).Session(x.n); got != hash(t, x.ofZeros) || other != got {
			t.Errorf("session %d with zeros: %x, and %x, not %s", x.n, got, other, x.ofZeros)
		}
	}
}
