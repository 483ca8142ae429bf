package mark_test

import (
	"math"
	"math/big"
	"strings"
	"testing"

	"keyholder/api"
	"keyholder/mark"
)

const top = 1000000006 // the greatest mark

var wrongKeys = []int{0, -1, api.MaxKey + 1, math.MinInt, math.MaxInt}

// slow reckons a mark as P10 tells it, with numbers that have no bound.
func slow(key, n int, s string) int {
	m := big.NewInt(int64(n))
	for i := 0; i < len(s); i++ {
		m.Mul(m, big.NewInt(257))
		m.Add(m, big.NewInt(int64(s[i])))
		m.Add(m, big.NewInt(1))
		m.Add(m, big.NewInt(int64(key)))
		m.Mod(m, big.NewInt(1000000007))
	}
	return int(m.Int64())
}

func texts() []string {
	return []string{"", "a", "ab", "ba", "hello", "ann bob 3", "\x00", "\x00\x00", "\xff", "\xff\xfe\x80", "é", "日本", "a\nb\x00c", strings.Repeat("\xff", 300), strings.Repeat("keyholder ", 1000)}
}

func keys() []int { return []int{1, 2, 5, 256, 257, 123456789, api.MaxKey - 1, api.MaxKey} }

func of(t *testing.T, key int, s string) int {
	t.Helper()
	n, err := mark.Of(key, s)
	if err != nil {
		t.Fatalf("Of(%d, %q): %v", key, s, err)
	}
	return n
}

func more(t *testing.T, key, n int, s string) int {
	t.Helper()
	m, err := mark.More(key, n, s)
	if err != nil {
		t.Fatalf("More(%d, %d, %q): %v", key, n, s, err)
	}
	return m
}

// P10, numbers reckoned by hand.
func TestOfByHand(t *testing.T) {
	for _, c := range []struct {
		key  int
		s    string
		want int
	}{
		{5, "", 5},
		{5, "a", 1388},
		{5, "ab", 356820},
		{1, "\x00", 259},
		{1, "\xff", 514},
		{1, "\x00\x00", 66565},
		{api.MaxKey, "", api.MaxKey},
		{api.MaxKey, "\x00", 999999750}, // -257 + 0 + 1 - 1
		{api.MaxKey, "\xff", 1000000005},
	} {
		if n := of(t, c.key, c.s); n != c.want {
			t.Errorf("Of(%d, %q): %d, not %d", c.key, c.s, n, c.want)
		}
	}
}

// P10, against another way to reckon.
func TestMarksReckonedSlowly(t *testing.T) {
	for _, key := range keys() {
		for _, s := range texts() {
			if n := of(t, key, s); n != slow(key, key, s) {
				t.Errorf("Of(%d, %.20q): %d, not %d", key, s, n, slow(key, key, s))
			}
			for _, n := range []int{0, 1, 77, 500000003, top - 1, top} {
				if m := more(t, key, n, s); m != slow(key, n, s) {
					t.Errorf("More(%d, %d, %.20q): %d, not %d", key, n, s, m, slow(key, n, s))
				}
			}
		}
	}
}

// P10: bytes count, not letters of more bytes.
func TestBytesNotRunes(t *testing.T) {
	if n := of(t, 1, "é"); n != (257+0xc3+1+1)*257+0xa9+1+1 {
		t.Error(n)
	}
	if of(t, 1, "\xff") == of(t, 1, "\uFFFD") || of(t, 1, "\xff") == of(t, 1, "\xfe") {
		t.Error("bytes that are no letter are told apart")
	}
}

func TestEmptyText(t *testing.T) {
	for _, key := range keys() {
		if n := of(t, key, ""); n != key {
			t.Errorf("Of(%d, empty): %d", key, n)
		}
		for _, n := range []int{0, 1, top} {
			if m := more(t, key, n, ""); m != n {
				t.Errorf("More(%d, %d, empty): %d", key, n, m)
			}
		}
	}
}

// P10: begun with n, and yet the key counts with each byte.
func TestMoreHangsOnBoth(t *testing.T) {
	if n := more(t, 5, 0, "a"); n != 97+1+5 {
		t.Error(n)
	}
	if n := more(t, 6, 0, "a"); n != 97+1+6 {
		t.Error(n)
	}
	if n := more(t, 5, 2, "a"); n != 2*257+97+1+5 {
		t.Error(n)
	}
	if n := more(t, 5, top, "a"); n != -257+97+1+5+1000000007 {
		t.Error(n)
	}
}

// P10 with P3: ErrKey goes ahead of all else; errors are bare, and what is beside them is zero.
func TestWrongKeys(t *testing.T) {
	for _, key := range wrongKeys {
		for _, s := range []string{"", "a", "\xff"} {
			if n, err := mark.Of(key, s); n != 0 || err != api.ErrKey {
				t.Errorf("Of(%d, %q): %d, %v", key, s, n, err)
			}
			for _, n := range []int{math.MinInt, -1, 0, 1, key, top, top + 1, math.MaxInt} {
				if m, err := mark.More(key, n, s); m != 0 || err != api.ErrKey {
					t.Errorf("More(%d, %d, %q): %d, %v", key, n, s, m, err)
				}
				if err := mark.Right(key, s, n); err != api.ErrKey {
					t.Errorf("Right(%d, %q, %d): %v", key, s, n, err)
				}
			}
		}
	}
}

func TestWrongBeginnings(t *testing.T) {
	for _, key := range keys() {
		for _, n := range []int{math.MinInt, -2, -1, top + 1, top + 2, math.MaxInt} {
			for _, s := range []string{"", "a"} {
				if m, err := mark.More(key, n, s); m != 0 || err != api.ErrBound {
					t.Errorf("More(%d, %d, %q): %d, %v", key, n, s, m, err)
				}
			}
		}
	}
}

func TestRight(t *testing.T) {
	for _, key := range keys() {
		for _, s := range texts() {
			n := of(t, key, s)
			if err := mark.Right(key, s, n); err != nil {
				t.Errorf("Right(%d, %.20q, %d): %v", key, s, n, err)
			}
			// Numbers that are no marks are other ones as well, also where they are the same modulo.
			for _, other := range []int{n - 1, n + 1, n + top + 1, n - top - 1, -n - 1, math.MinInt, math.MaxInt} {
				if err := mark.Right(key, s, other); err != api.ErrMark {
					t.Errorf("Right(%d, %.20q, %d): %v", key, s, other, err)
				}
			}
		}
	}
}

// P11: every other byte at every place.
func TestAnotherByteIsAnotherMark(t *testing.T) {
	for _, key := range keys() {
		for _, s := range []string{"a", "\x00\xff", "ann bob 3 7 9 1", strings.Repeat("\xff", 40)} {
			n := of(t, key, s)
			for at := range len(s) {
				for b := range 256 {
					changed := s[:at] + string([]byte{byte(b)}) + s[at+1:]
					if same := of(t, key, changed) == n; same != (changed == s) {
						t.Fatalf("key %d, %q and %q: same mark is %v", key, s, changed, same)
					}
					if err := mark.Right(key, changed, n); (err == nil) != (changed == s) {
						t.Fatalf("key %d, %q with the mark of %q: %v", key, changed, s, err)
					}
				}
			}
		}
	}
}

// P11: cut anywhere, also ahead of the first byte, behind the last, and inside a letter of more bytes.
func TestTwoPartsAsOne(t *testing.T) {
	for _, key := range keys() {
		for _, s := range texts() {
			s = s[:min(len(s), 300)]
			whole := of(t, key, s)
			wholeMore := more(t, key, 77, s)
			for cut := range len(s) + 1 {
				if n := more(t, key, of(t, key, s[:cut]), s[cut:]); n != whole {
					t.Fatalf("key %d, %.20q cut at %d: %d, not %d", key, s, cut, n, whole)
				}
				if n := more(t, key, more(t, key, 77, s[:cut]), s[cut:]); n != wholeMore {
					t.Fatalf("key %d, 77, %.20q cut at %d: %d, not %d", key, s, cut, n, wholeMore)
				}
			}
		}
	}
}

// P1 and P2: whatever is given, a call ends, and a second one answers the same; marks stay from 0 to 1000000006.
func FuzzMarks(f *testing.F) {
	f.Add(5, 0, "a")
	f.Add(0, -1, "")
	f.Add(api.MaxKey, top, "\xff\xff")
	f.Add(math.MaxInt, math.MinInt, "é")
	f.Fuzz(func(t *testing.T, key, n int, s string) {
		m, err := mark.More(key, n, s)
		again, errAgain := mark.More(key, n, s)
		if m != again || err != errAgain || m < 0 || m > top {
			t.Fatal(m, again, err, errAgain)
		}
		if err == nil && m != slow(key, n, s) {
			t.Fatal(m, slow(key, n, s))
		}
		o, err := mark.Of(key, s)
		if right := mark.Right(key, s, o); right != err {
			t.Fatal(o, err, right)
		}
	})
}
