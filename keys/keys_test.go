package keys_test

import (
	"bytes"
	libraryhmac "crypto/hmac"
	"crypto/sha256"
	"encoding/hex"
	"math/rand"
	"strings"
	"testing"

	"entrust/api"
	"entrust/hmac"
	"entrust/keys"
)

// libraryMac is the tag as Go's library has it.
func libraryMac(key, b []byte) api.Hash {
	h := libraryhmac.New(sha256.New, key)
	h.Write(b)
	return api.Hash(h.Sum(nil))
}

// text is n random bytes.
func text(rnd *rand.Rand, n int) []byte {
	b := make([]byte, n)
	rnd.Read(b)
	return b
}

// hash is the hash that is written in hexadecimal digits.
func hash(t *testing.T, s string) api.Hash {
	t.Helper()
	b, err := hex.DecodeString(s)
	if err != nil || len(b) != len(api.Hash{}) {
		t.Fatal(s, err)
	}
	return api.Hash(b)
}

// counted is the key of the bytes 0 to 15.
func counted() api.Key {
	return api.Key{0, 1, 2, 3, 4, 5, 6, 7, 8, 9, 10, 11, 12, 13, 14, 15}
}

// ones is the key of 16 bytes 255.
func ones() api.Key {
	return api.Key(bytes.Repeat([]byte{255}, 16))
}

// volumeKeys are keys of volumes: zeros, others of bytes that are easily mistaken, each with one bit, and random ones.
func volumeKeys(rnd *rand.Rand) []api.Key {
	out := []api.Key{{}, ones(), counted(), api.Key([]byte("entrust seal\x00\x00\x00\x00"))}
	for bit := range 128 {
		key := api.Key{}
		key[bit/8] = 1 << (bit % 8)
		out = append(out, key)
	}
	for range 50 {
		out = append(out, api.Key(text(rnd, 16)))
	}
	return out
}

// known are tags of the four labels that other programs (Python's hmac, and OpenSSL) made, Enc's one whole.
func known() []struct {
	key                    api.Key
	enc, tag, ticket, link string
} {
	return []struct {
		key                    api.Key
		enc, tag, ticket, link string
	}{
		{
			api.Key{},
			"3953fae4d89bdb45b222c639aa3efcf0e7c57a7e9566e090071820d5e9b188f2",
			"bdf8952ace60023146c16806e27972f3050e085768669a02ba616877a0d425fd",
			"7dc93af0a50a03c9f2065762e1bc51af5a44826c1619e076d0217f9198229bc7",
			"473d42e161b95798f18d2c61594e373232fb4141de8a0ecab32aa29ad92b02cb",
		},
		{
			counted(),
			"566faa4fe90378a41b01a5976c45979b033de89f8a62a2156441f8d9de6b7b7e",
			"9a5f8f2759a1ebe4bfc301755a9c318dff4b7377b0750770712b9bae2b7227f0",
			"0192f0c0c069e9766321a2639507ce5fa6da415f01fd406f5037ca04df6724be",
			"5bee1b3a4b16dd5e05b61bacbe2688ca45c314da3f585f96e0814b8c8c988a41",
		},
		{
			ones(),
			"1b30ff4c397dcfbbc900631accc556b24134830da4142c1f2ddc107eb100ceea",
			"b87aa0f815b57a74c194ddf08c3ed9048a7f5804c99f0c10661aecec1b252219",
			"3242f4195d5cad3d490526f6cbf359334f0952e5f650be202a4e58ee3e136fc5",
			"fa3fe70993e8c860d70b9af43859daee9202d536893118fb548307342d24f978",
		},
	}
}

// TestKnown is P6.1: the keys that other programs' tags make.
func TestKnown(t *testing.T) {
	for _, x := range known() {
		enc := hash(t, x.enc)
		want := keys.Set{Enc: api.Key(enc[:16]), Tag: hash(t, x.tag), Ticket: hash(t, x.ticket), Link: hash(t, x.link)}
		if got := keys.Of(x.key); got != want {
			t.Errorf("key %x: %x, not %x", x.key, got, want)
		}
		if got := keys.Label(x.key, "entrust seal"); got != enc {
			t.Errorf("key %x: %x, not %x", x.key, got, enc)
		}
	}
}

// TestZeros is P6.1: for the key of zeros, neither Enc nor another key is zeros.
func TestZeros(t *testing.T) {
	set := keys.Of(api.Key{})
	if set.Enc == (api.Key{}) || set.Tag == (api.Hash{}) || set.Ticket == (api.Hash{}) || set.Link == (api.Hash{}) {
		t.Errorf("%x", set)
	}
	if want := (api.Key{0x39, 0x53, 0xfa, 0xe4, 0xd8, 0x9b, 0xdb, 0x45, 0xb2, 0x22, 0xc6, 0x39, 0xaa, 0x3e, 0xfc, 0xf0}); set.Enc != want {
		t.Errorf("%x, not %x", set.Enc, want)
	}
}

// TestOf is P6.1: each of the keys is its own label's tag with the volume's key, by Go's library, by layer 3 and by Label; Enc is the first half of it.
func TestOf(t *testing.T) {
	for _, key := range volumeKeys(rand.New(rand.NewSource(1))) {
		set := keys.Of(key)
		for _, x := range []struct {
			label string
			got   []byte
		}{
			{"entrust seal", set.Enc[:]},
			{"entrust tag", set.Tag[:]},
			{"entrust ticket", set.Ticket[:]},
			{"entrust link", set.Link[:]},
		} {
			if want := libraryMac(key[:], []byte(x.label)); !bytes.Equal(x.got, want[:len(x.got)]) {
				t.Fatalf("key %x, %s: %x, not %x", key, x.label, x.got, want)
			}
			if want := hmac.Mac(key[:], []byte(x.label)); !bytes.Equal(x.got, want[:len(x.got)]) {
				t.Fatalf("key %x, %s: %x, not %x of layer 3", key, x.label, x.got, want)
			}
			if want := keys.Label(key, x.label); !bytes.Equal(x.got, want[:len(x.got)]) {
				t.Fatalf("key %x, %s: %x, not %x of Label", key, x.label, x.got, want)
			}
		}
		if short := hmac.Short(key[:], []byte("entrust seal")); !bytes.Equal(set.Enc[:], short) {
			t.Fatalf("key %x: Enc is %x, not %x", key, set.Enc, short)
		}
	}
}

// labels are labels at the edges: empty, each of one byte, bytes that are no text, with zeros before, within and behind, the labels of a set and some that are nearly those, and the lengths about which a hash's text has one block more.
func labels(rnd *rand.Rand) []string {
	out := []string{
		"", "\x00\x00", "\xff\xfe", "\xc3\x28", "\xed\xa0\x80", "\xf0\x28\x8c\xbc", "a\x00", "\x00a", "a\x00b", "\u00e9", "e\u0301", "\ufffd",
		"entrust seal", "entrust tag", "entrust ticket", "entrust link",
		"entrust", "entrust ", "entrust seal ", " entrust seal", "entrust  seal", "entrust seal\n", "entrust seal\x00", "Entrust seal", "ENTRUST SEAL", "entrustseal", "entrust-seal", "seal", "entrust sea", "entrust links", "entrust tickets", "entrust session",
	}
	for a := range 256 {
		out = append(out, string([]byte{byte(a)}))
	}
	for _, n := range []int{2, 7, 8, 9, 15, 16, 17, 31, 32, 33, 54, 55, 56, 57, 58, 59, 60, 61, 62, 63, 64, 65, 66, 118, 119, 120, 127, 128, 129, 200, 255, 256, 257, 300, 500, 900} {
		out = append(out, string(text(rnd, n)), strings.Repeat("a", n), strings.Repeat("\xff", n), strings.Repeat("\x00", n+1))
	}
	return out
}

// TestLabel is P6.1: labels' tags with volumes' keys, by Go's library and by layer 3.
func TestLabel(t *testing.T) {
	rnd := rand.New(rand.NewSource(2))
	for _, label := range labels(rnd) {
		for _, key := range []api.Key{{}, ones(), counted(), api.Key(text(rnd, 16))} {
			got := keys.Label(key, label)
			if want := libraryMac(key[:], []byte(label)); got != want {
				t.Fatalf("key %x, %q: %x, not %x", key, label, got, want)
			}
			if want := hmac.Mac(key[:], []byte(label)); got != want {
				t.Fatalf("key %x, %q: %x, not %x of layer 3", key, label, got, want)
			}
		}
	}
	for range 300 {
		key, label := api.Key(text(rnd, 16)), string(text(rnd, rnd.Intn(400)))
		if got, want := keys.Label(key, label), libraryMac(key[:], []byte(label)); got != want {
			t.Fatalf("key %x, %q: %x, not %x", key, label, got, want)
		}
	}
}

// TestEmptyLabel is P6.1: the empty label's tags as other programs made them; that of the key of zeros is the tag of nothing with no key.
func TestEmptyLabel(t *testing.T) {
	for _, x := range []struct {
		key  api.Key
		want string
	}{
		{api.Key{}, "b613679a0814d9ec772f95d778c35fc5ff1697c493715653c6c712144292c5ad"},
		{counted(), "07eff8b326b7798c9ccfcbdbe579489ac785a7995a04618b1a2813c26744777d"},
		{ones(), "f736e3f010fe212bd98792a717eeb26fd8d2c8c7d8709f43b9f61be3e82f288d"},
	} {
		if got := keys.Label(x.key, ""); got != hash(t, x.want) {
			t.Errorf("key %x: %x, not %s", x.key, got, x.want)
		}
	}
	if got, want := keys.Label(api.Key{}, ""), hmac.Mac(nil); got != want {
		t.Errorf("%x, not %x", got, want)
	}
}
