package keys_test

import (
	"bytes"
	"math/rand"
	"slices"
	"testing"
	"unsafe"

	"entrust/api"
	"entrust/keys"
)

// TestArguments is P6.1 with rule 5: keys, links and sets are left as they are.
func TestArguments(t *testing.T) {
	rnd := rand.New(rand.NewSource(10))
	for range 50 {
		key, link := api.Key(text(rnd, 16)), api.Hash(text(rnd, 32))
		oldKey, oldLink := key, link
		set := keys.Of(key)
		old := set
		keys.Label(key, "entrust seal")
		keys.Session(link, rnd.Uint64())
		set.Session(rnd.Uint64())
		(&set).Session(rnd.Uint64())
		if key != oldKey || link != oldLink || set != old {
			t.Fatalf("%x, %x, %x: changed", oldKey, oldLink, old)
		}
	}
}

// TestLabelIsLeft is P6.1 with rule 5: a label is left as it is, with what stands before and behind it in one memory.
func TestLabelIsLeft(t *testing.T) {
	rnd := rand.New(rand.NewSource(11))
	all := text(rnd, 500)
	before := slices.Clone(all)
	for n := range 300 {
		label := unsafe.String(&all[100], n)
		got := keys.Label(counted(), label)
		if !bytes.Equal(all, before) {
			t.Fatalf("label of %d bytes: changed", n)
		}
		if want := keys.Label(counted(), string(before[100:100+n])); got != want {
			t.Fatalf("label of %d bytes: %x, not %x", n, got, want)
		}
	}
}

// TestNothingIsKept is P6.1 with rules 5 and 8: who changes a key, a label's memory, a set or a result behind the call changes no other answer.
func TestNothingIsKept(t *testing.T) {
	rnd := rand.New(rand.NewSource(12))
	key, b := api.Key(text(rnd, 16)), text(rnd, 70)
	type answers struct {
		set                    keys.Set
		label, session, ofLink api.Hash
	}
	ask := func() answers {
		set := keys.Of(key)
		return answers{set, keys.Label(key, unsafe.String(&b[0], len(b))), set.Session(7), keys.Session(set.Link, 7)}
	}
	before := ask()
	changed := ask()
	clear(changed.set.Enc[:])
	clear(changed.set.Link[:])
	clear(changed.label[:])
	clear(changed.session[:])
	if ask() != before || before.set != keys.Of(key) {
		t.Error("another answer since a result was changed")
	}
	if changed.set.Session(7) != keys.Session(api.Hash{}, 7) || changed.set.Session(7) == before.session {
		t.Error("a set whose Link was changed has the old one's session")
	}
	b[3] ^= 1
	if ask().label == before.label || ask().set != before.set {
		t.Error("a label that was changed has the old one's key")
	}
	b[3] ^= 1
	key[9] ^= 1
	if other := ask(); other.set == before.set || other.label == before.label || other.session == before.session {
		t.Error("a key that was changed has the old one's keys")
	}
	key[9] ^= 1
	if ask() != before {
		t.Error("another answer to the same question")
	}
}

// TestSameAnswers is P6.1 with rule 8: many keys, labels and sessions by turns, of which none hangs on what was asked before.
func TestSameAnswers(t *testing.T) {
	rnd := rand.New(rand.NewSource(13))
	type question struct {
		key   api.Key
		label string
		n     uint64
	}
	type answer struct {
		set            keys.Set
		label, session api.Hash
	}
	ask := func(q question) answer {
		set := keys.Of(q.key)
		return answer{set, keys.Label(q.key, q.label), set.Session(q.n)}
	}
	questions := make([]question, 60)
	first := make([]answer, len(questions))
	for i := range questions {
		questions[i] = question{api.Key(text(rnd, 16)), string(text(rnd, rnd.Intn(200))), rnd.Uint64()}
		first[i] = ask(questions[i])
	}
	for _, i := range append(rnd.Perm(len(questions)), rnd.Perm(len(questions))...) {
		if got := ask(questions[i]); got != first[i] {
			t.Fatalf("%x: %x, not %x", questions[i], got, first[i])
		}
	}
}
