package node_test

import (
	"crypto/sha256"
	"testing"

	"entrust/api"
	"entrust/node"
	"entrust/sha"
)

// knownEmpties are the empty hashes as another program (Python's hashlib) made them.
func knownEmpties() [33]string {
	return [33]string{
		"6e340b9cffb37a989ca544e6bb780a2c78901d3fb33738768511a30617afa01d",
		"49e3c52b8a46692e9027fc5e631c8caca894b1a7ad0c15798a72efa85e3610be",
		"44689225da3ca899d150a068c724f94dd63a9363211aa0b9d99d8fcfa89f2594",
		"281044bde3f05e62d0aa4a597583d2784e3261bef7ff318b82ff8ffac29f0ad4",
		"914c7f242bf6e5dcea46412572caf596c16a9c3a7f38baf8e74d30401e5baa4e",
		"a8597a8a71f60afd453584fe2eb1f0b8c5cee390479f36a4f68254a66060e5d0",
		"9e4d13e023c2530a22aff9ef2cbd42e0ebbd8470bb856a40021751c2bf0351ff",
		"a56f6c6f780af7a37a7d43e97d1cf8fac61a1d4dfa4cb3a2250ea92e152133d5",
		"63e62d3fe4b308c0bf75d7c37455772b432b330c7076c40e4aa2a6dfce2d296c",
		"aa25c836ba6f814fb6aa6cbef851a1c3261d27d1137de7cb1419861d61e046e2",
		"51634a1847c2ac93ee1fd6e85759aff552c26968a2c6dbf36bf19460cba8cc7c",
		"ecaf54e36c6df026a8e81abb4d5cb04e8083bfd42a7b8d7b054b16c3469027b1",
		"4d3d56a9d2203b7547bfe072de594d9c33cbb271812f4b704eb28857b23c5734",
		"a9189d1f6db115168582831565dd4d03cc16c2dd6a3da425e2882a6092d7e956",
		"c31e680934a3ecb1ade3bd71fc5057fd15d4c3bf62e54853c8fb50383f64f300",
		"35945c7911cb3b7236bd16f3231c76835697d28493cf1d0e8536ea149e640303",
		"2982f1d3a7baa33019cf2c54931f374c9617b80299d017becabf79407d0e46dc",
		"936c9b8ac1ef0d529d2a30c37625fbb3efa9ee9b56d371e87f2239a65144bd9e",
		"bbf2deb892ce5857a75cc8ae737920e37076bce411dfd360a636906cf2d446b9",
		"0687b8b69971355310415fd3d95b9221d5ba674b557cf8edeaa6505215400195",
		"07449f599880b5d273feae5e0503a1f7005aec2c3a630b1c043e2db90ccc3f38",
		"07cdf88729becc8a40826a432471d6d33f948d7081a0449cd048571406b7c6c7",
		"bb5d10d55d767b649b95e73050742e24f381c576c1d664984d0dac28552ea875",
		"cb9c15db23bdafb84ebad377d81f1dd8582c762025e01c2ff2915ee5bd17cfd2",
		"88cc4367df59409027615622448388d4cc2f4819cd78babcbda07d0a4af979d8",
		"b9144e17ad581dbade5c669f7218f8000ccf62daebb5e0e8345314f2053ebd0f",
		"ed5e808c2c64c9421c921ba3b2555ebfb57254e5728ae628fdd3eca4d1d26824",
		"a088bd4be1e41c56014536bec0719e763855047dbcadc5b985e7f88bb392d6c5",
		"72f8cfa14ec6cb285f7b27cf2059c65ec58d8042d93b2b8873b3d8d4cd970a15",
		"d4009a0ff7682ade61a70c57efeb753d270ac87b07d7739adc6ea2f2872d6a44",
		"031ab208d11e68bbd586d9339926f34aa82b231079cdec8f9539501795f978d6",
		"c5127ef6da4a1d798b45572b8273d175dadd564ca2941f6467486b24b4fa01b1",
		"186c2d9d56e05d2fe355f79faf742b089bc5cb5a1e1b43c8e2046e3484316a9b",
	}
}

// TestKnownEmpties is P8.1: all empty hashes, by Empty and by Empties, are those of another program, and each is alone.
func TestKnownEmpties(t *testing.T) {
	all := node.Empties()
	if len(all) != 33 || api.MaxHeight != 32 {
		t.Fatal(len(all), api.MaxHeight)
	}
	seen := map[api.Hash]int{}
	for height, s := range knownEmpties() {
		want := hash(t, s)
		if h, err := node.Empty(height); err != nil || h != want {
			t.Errorf("height %d: %x and %v, not %x", height, h, err, want)
		}
		if all[height] != want {
			t.Errorf("height %d: %x, not %x", height, all[height], want)
		}
		if low, is := seen[want]; is {
			t.Errorf("heights %d and %d have the same", low, height)
		}
		seen[want] = height
	}
}

// TestEmptyOfNothing is P8.1: the empty hash of height 0 is that of a byte 0, by Go's library and by layer 2, and neither that of no bytes nor zeros.
func TestEmptyOfNothing(t *testing.T) {
	h, err := node.Empty(0)
	if err != nil || h != sha256.Sum256([]byte{0}) || h != sha.Sum([]byte{0}) || h == sha256.Sum256(nil) || h == (api.Hash{}) {
		t.Errorf("%x and %v", h, err)
	}
	if [4]byte(h[:]) != [4]byte{0x6e, 0x34, 0x0b, 0x9c} {
		t.Errorf("%x", h)
	}
}

// TestEmptiesAreJoined is P8.1: each empty hash but the first is the node's of its height with two empty hashes of the height below, by Join and by Go's library.
func TestEmptiesAreJoined(t *testing.T) {
	all := node.Empties()
	for height := 1; height <= 32; height++ {
		below, err := node.Empty(height - 1)
		if err != nil || below != all[height-1] {
			t.Fatalf("height %d: %x and %v, not %x", height-1, below, err, all[height-1])
		}
		h, err := node.Join(height, below, below)
		if err != nil || h != all[height] || h != sha256.Sum256(joinText(height, below, below)) {
			t.Errorf("height %d: %x and %v, not %x", height, all[height], err, h)
		}
	}
}

// TestNoSuchEmpty is P8.1: a height that isn't between 0 and 32 is ErrRange and zeros.
func TestNoSuchEmpty(t *testing.T) {
	for _, height := range badHeights() {
		if height == 0 {
			continue
		}
		if h, err := node.Empty(height); err != api.ErrRange || h != (api.Hash{}) {
			t.Errorf("height %d: %x and %v", height, h, err)
		}
	}
}
