package hmac_test

import (
	"os"
	"runtime/debug"
	"syscall"
	"testing"

	"entrust/hmac"
)

// unreadableEnd is n bytes of which the last one can't be read: who examines it is stopped by a fault. The others are zeros.
func unreadableEnd(t *testing.T, n int) []byte {
	t.Helper()
	page := os.Getpagesize()
	memory, err := syscall.Mmap(-1, 0, 2*page, syscall.PROT_READ|syscall.PROT_WRITE, syscall.MAP_ANON|syscall.MAP_PRIVATE)
	if err != nil {
		t.Fatal(err)
	}
	t.Cleanup(func() {
		if err := syscall.Munmap(memory); err != nil {
			t.Error(err)
		}
	})
	if err := syscall.Mprotect(memory[page:], syscall.PROT_NONE); err != nil {
		t.Fatal(err)
	}
	return memory[page+1-n : page+1]
}

// faults reports whether Same reads what can't be read. Its answer is used, for otherwise the compiler may leave the reading out.
func faults(t *testing.T, a, b []byte) (is bool) {
	defer debug.SetPanicOnFault(debug.SetPanicOnFault(true))
	defer func() { is = recover() != nil }()
	t.Logf("%d bytes and %d: %v, without reading the last one", len(a), len(b), hmac.Same(a, b))
	return false
}

// TestSameExaminesAll is P3.1: Same examines the last byte, whatever the others are, and on whichever side; also if the lengths are unlike.
func TestSameExaminesAll(t *testing.T) {
	for _, n := range []int{1, 2, 16, 32, 100} {
		end := unreadableEnd(t, n)
		other := make([]byte, n)
		for i := range n {
			other[i] = 255
			if !faults(t, end, other) || !faults(t, other, end) {
				t.Errorf("%d bytes, of which byte %d differs: the last one isn't examined", n, i)
			}
			other[i] = 0
		}
		for _, length := range []int{0, n - 1, n + 1, 2 * n} {
			if b := make([]byte, length); !faults(t, end, b) || !faults(t, b, end) {
				t.Errorf("%d bytes and %d: the last one isn't examined", n, length)
			}
		}
		if faults(t, end[:n-1], other) || faults(t, other, end[:n-1]) {
			t.Errorf("%d bytes: one behind them is examined", n)
		}
	}
}
