package seal_test

import (
	"errors"
	"math"
	"math/big"
	"slices"
	"strconv"
	"strings"
	"testing"

	"keyholder/api"
	"keyholder/mark"
	"keyholder/seal"
)

const (
	top     = 1000000006 // the greatest mark
	modulus = top + 1
	letters = "abcdefghijklmnopqrstuvwxyz0123456789"
)

var wrongKeys = []int{0, -1, api.MaxKey + 1, math.MinInt, math.MaxInt}

func keys() []int { return []int{1, 5, 257, 123456789, api.MaxKey} }

func lists() [][]string {
	return [][]string{
		{"a"},
		{"0"},
		{"*"},
		{"-"},
		{"-1"},
		{"007"},
		{"ann", "bob", "3", "7", "9", "1"},
		{"a", "a", "a"},
		{"1", "2", "3", "4", "5", "6", "7", "8", "9", "10"},
		{strings.Repeat("z", 20)},
		slices.Repeat([]string{"abc-def*ghi-jkl*0129"}, 10),
	}
}

func mustMake(t *testing.T, key int, w []string) string {
	t.Helper()
	s, err := seal.Make(key, w)
	if err != nil {
		t.Fatalf("Make(%d, %q): %v", key, w, err)
	}
	return s
}

// keyFor finds the key by which a text of one byte has that mark: a mark of it is 258 times the key, and the byte, and 1.
func keyFor(b byte, want int) int {
	p := big.NewInt(modulus)
	n := big.NewInt(int64(want) - int64(b) - 1)
	n.Mul(n, new(big.Int).ModInverse(big.NewInt(258), p))
	return int(n.Mod(n, p).Int64())
}

// fault: is it a *api.Fault of ErrText at that place, itself?
func fault(err error, at int) bool {
	f, ok := err.(*api.Fault)
	return ok && f.At == at && f.Err == api.ErrText
}

// wants asks both Open and Look of a text that is none.
func wants(t *testing.T, s string, want error) {
	t.Helper()
	if w, err := seal.Open(5, s); len(w) != 0 || err != want {
		t.Errorf("Open(5, %.60q): %q, %v, not %v", s, w, err, want)
	}
	if w, err := seal.Look(s); len(w) != 0 || err != want {
		t.Errorf("Look(%.60q): %q, %v, not %v", s, w, err, want)
	}
}

// P20, marks reckoned by hand.
func TestMakeByHand(t *testing.T) {
	for _, c := range []struct {
		key  int
		w    []string
		want string
	}{
		{5, []string{"a"}, "a 1388"},
		{5, []string{"ab"}, "ab 356820"},
		{1, []string{"*"}, "* 301"},
		{5, []string{"a", "b"}, "a b 91685882"}, // (1388*257+32+1+5)*257+98+1+5
		{api.MaxKey, []string{"a"}, "a 999999847"},
	} {
		if s := mustMake(t, c.key, c.w); s != c.want {
			t.Errorf("Make(%d, %q): %q, not %q", c.key, c.w, s, c.want)
		}
	}
}

// P20 and P22.
func TestSealedIsOpenedAsItWas(t *testing.T) {
	for _, key := range keys() {
		for _, w := range lists() {
			s := mustMake(t, key, w)
			ahead := strings.Join(w, " ")
			n, _ := mark.Of(key, ahead)
			if s != ahead+" "+strconv.Itoa(n) {
				t.Errorf("Make(%d, %q): %q", key, w, s)
			}
			if got, err := seal.Open(key, s); !slices.Equal(got, w) || err != nil {
				t.Errorf("Open(%d, %q): %q, %v", key, s, got, err)
			}
			if got, err := seal.Look(s); !slices.Equal(got, w) || err != nil {
				t.Errorf("Look(%q): %q, %v", s, got, err)
			}
		}
	}
}

// P20: the least mark and the greatest one, of texts that have them.
func TestMarksAtTheEdges(t *testing.T) {
	for _, n := range []int{0, 1, 9, 999999999, 1000000000, top} {
		key := keyFor('a', n)
		s := "a " + strconv.Itoa(n)
		if got := mustMake(t, key, []string{"a"}); got != s {
			t.Errorf("Make(%d, a): %q, not %q", key, got, s)
		}
		if w, err := seal.Open(key, s); !slices.Equal(w, []string{"a"}) || err != nil {
			t.Errorf("Open(%d, %q): %q, %v", key, s, w, err)
		}
	}
}

// P20: every byte, alone, and at the end of a word.
func TestWordsOfEveryByte(t *testing.T) {
	for b := range 256 {
		one := string([]byte{byte(b)})
		is := strings.Contains(letters+"-*", one)
		for _, word := range []string{one, "a" + one, one + "a"} {
			if seal.Word(word) != is {
				t.Errorf("Word(%q) is not %v", word, is)
			}
			s, err := seal.Make(5, []string{"x", word})
			if is != (err == nil) || is != (s != "") || !is && !fault(err, 1) {
				t.Errorf("Make of %q: %q, %v", word, s, err)
			}
		}
		if b == ' ' {
			continue
		}
		w, err := seal.Look("x " + one + " 1")
		if is && (!slices.Equal(w, []string{"x", one}) || err != nil) || !is && (len(w) != 0 || err != api.ErrText) {
			t.Errorf("Look with %q: %q, %v", one, w, err)
		}
	}
}

// P20: 1 to 20, and 1 to 10.
func TestLengths(t *testing.T) {
	for length := range 30 {
		word := strings.Repeat("a", length)
		s, err := seal.Make(5, []string{word})
		if is := length >= 1 && length <= 20; is != (err == nil) || is != seal.Word(word) || !is && (s != "" || !fault(err, 0)) {
			t.Errorf("Make of %d letters: %q, %v", length, s, err)
		}
		if length > 20 {
			wants(t, word+" 1", api.ErrText)
			wants(t, "b "+word+" 1", api.ErrText)
		}
	}
	for count := range 15 {
		w := slices.Repeat([]string{"a"}, count)
		s, err := seal.Make(5, w)
		if is := count >= 1 && count <= 10; is != (err == nil) || !is && (s != "" || err != api.ErrShape) {
			t.Errorf("Make of %d words: %q, %v", count, s, err)
		}
		if count > 10 {
			wants(t, strings.Join(w, " ")+" 1", api.ErrText)
		}
	}
}

// P20 with P3: ErrKey goes ahead of ErrShape, and that ahead of ErrText; of several that are none the first is told.
func TestMakeErrorsInOrder(t *testing.T) {
	for _, key := range wrongKeys {
		for _, w := range [][]string{nil, {}, {"a"}, {""}, {"A", "b"}, make([]string, 11)} {
			if s, err := seal.Make(key, w); s != "" || err != api.ErrKey {
				t.Errorf("Make(%d, %q): %q, %v", key, w, s, err)
			}
		}
	}
	for _, w := range [][]string{nil, {}, make([]string, 11), slices.Repeat([]string{"a"}, 11), make([]string, 1000)} {
		if s, err := seal.Make(5, w); s != "" || err != api.ErrShape {
			t.Errorf("Make of %d: %q, %v", len(w), s, err)
		}
	}
	for _, none := range []string{"", " ", "a b", "a ", " a", "A", "a_b", "é", "\xff", "a\x00", "a\n", strings.Repeat("a", 21), strings.Repeat("a", 1<<20)} {
		for at := range 10 {
			w := slices.Repeat([]string{"a"}, 10)
			for later := at; later < 10; later++ {
				w[later] = none
			}
			if s, err := seal.Make(5, w); s != "" || !fault(err, at) || !errors.Is(err, api.ErrText) {
				t.Errorf("Make with %.30q from %d: %q, %v", none, at, s, err)
			}
		}
	}
}

// P20: texts that are no sealed ones.
func TestNoSealedTexts(t *testing.T) {
	for _, s := range []string{
		"", " ", "  ", "a", "1388", "a1388", "a ", " a", " 1388", "  1388", "a  1388", " a 1388", "a 1388 ", "a 1388  ",
		"a b  1", "a  b 1", "A 1", "a_b 1", "a b_ 1", "é 1", "a\t1388", "a\n1388", "a 1388\n", "\na 1388", "a\u00a01388", "a\x00 1",
		"a 01388", "a 00", "a 01", "a +1388", "a -1", "a -0", "a 1388x", "a x1388", "a 1388.0", "a 1_388", "a 0x5", "a *", "a ١",
		"a 1000000007", "a 1000000008", "a 9999999999", "a 10000000000", "a 0000000001", "a 00000001388", "a 18446744073709551617", "a 18446744073709553004",
		"1 2 3 4 5 6 7 8 9 10 11 1", strings.Repeat("a ", 100) + "1", strings.Repeat(" ", 4000), strings.Repeat("a", 4000), "a " + strings.Repeat("1", 3998),
	} {
		wants(t, s, api.ErrText)
	}
}

// P20: a text of MaxText bytes may be no sealed one, and a longer one is not looked at.
func TestBound(t *testing.T) {
	for _, part := range []string{"a", " ", "a ", "1", "\xff"} {
		long := strings.Repeat(part, api.MaxText)
		wants(t, long[:api.MaxText], api.ErrText)
		wants(t, (long + part)[:api.MaxText+1], api.ErrBound)
		wants(t, long+long, api.ErrBound)
	}
}

// P20 with P3: ErrKey ahead of all else.
func TestOpenWithWrongKeys(t *testing.T) {
	for _, key := range wrongKeys {
		for _, s := range []string{"", "a", "a 1388", "a 1", "A 1", strings.Repeat("a", api.MaxText), strings.Repeat("a ", api.MaxText)} {
			if w, err := seal.Open(key, s); len(w) != 0 || err != api.ErrKey {
				t.Errorf("Open(%d, %.20q): %q, %v", key, s, w, err)
			}
		}
	}
}

// P20: another mark is told of Open alone.
func TestAnotherMark(t *testing.T) {
	for _, n := range []int{0, 1, 1387, 1389, 13880, top} {
		s := "a " + strconv.Itoa(n)
		if w, err := seal.Open(5, s); len(w) != 0 || err != api.ErrMark {
			t.Errorf("Open(5, %q): %q, %v", s, w, err)
		}
		if w, err := seal.Look(s); !slices.Equal(w, []string{"a"}) || err != nil {
			t.Errorf("Look(%q): %q, %v", s, w, err)
		}
	}
	for _, key := range keys() {
		s := mustMake(t, key, []string{"a"})
		for _, other := range keys() {
			if w, err := seal.Open(other, s); other != key && (len(w) != 0 || err != api.ErrMark) {
				t.Errorf("Open(%d, %q), sealed with %d: %q, %v", other, s, key, w, err)
			}
		}
	}
	// Look asks of no key, and takes a text of ten words as Open does.
	if w, err := seal.Look("1 2 3 4 5 6 7 8 9 10 0"); len(w) != 10 || err != nil {
		t.Error(w, err)
	}
}

// P22: every other byte at every place; where the last blank stands elsewhere, the mark begins elsewhere.
func TestAnotherByteIsNotOpened(t *testing.T) {
	for _, key := range keys() {
		for _, w := range lists() {
			s := mustMake(t, key, w)
			begins := strings.LastIndex(s, " ")
			for at := range len(s) {
				for b := range 256 {
					changed := s[:at] + string([]byte{byte(b)}) + s[at+1:]
					if changed == s || strings.LastIndex(changed, " ") != begins {
						continue
					}
					got, err := seal.Open(key, changed)
					if len(got) != 0 || err != api.ErrMark && err != api.ErrText {
						t.Fatalf("key %d, %q as %q: %q, %v", key, s, changed, got, err)
					}
				}
			}
		}
	}
}

// P4: a list that is handed over is only read, and nothing behind its length; an answer is its owner's.
func TestMemory(t *testing.T) {
	all := []string{"a", "b", "C", "d"}
	first := mustMake(t, 5, all[:2])
	if !slices.Equal(all, []string{"a", "b", "C", "d"}) {
		t.Error(all)
	}
	all[0] = "x"
	if w, err := seal.Open(5, first); !slices.Equal(w, []string{"a", "b"}) || err != nil {
		t.Error(w, err)
	}
	opened, _ := seal.Open(5, first)
	looked, _ := seal.Look(first)
	opened[0], looked[1] = "written", "written"
	_ = append(opened, "more")
	if w, err := seal.Open(5, first); !slices.Equal(w, []string{"a", "b"}) || err != nil {
		t.Error(w, err)
	}
	if opened[1] != "b" || looked[0] != "a" {
		t.Error(opened, looked)
	}
}

// P21.
func TestName(t *testing.T) {
	for s, want := range map[string]bool{
		"a": true, "z": true, "0": true, "9": true, "ann": true, "9a": true, "abcdefgh": true, "12345678": true,
		"": false, "abcdefghi": false, "123456789": false, "A": false, "annA": false, "a-b": false, "*": false, "a*": false, "-": false,
		" ": false, "a ": false, " a": false, "a b": false, "é": false, "ann\n": false, "a\x00": false, "\xff": false, "٣": false,
	} {
		if seal.Name(s) != want {
			t.Errorf("Name(%q) is not %v", s, want)
		}
	}
	for b := range 256 {
		one := string([]byte{byte(b)})
		is := strings.Contains(letters, one)
		if seal.Name(one) != is || seal.Name("ann"+one) != is || seal.Name(one+"ann") != is {
			t.Errorf("names with %q", one)
		}
	}
	if seal.Name(strings.Repeat("a", 1<<20)) {
		t.Error("a long name")
	}
}

// P21.
func TestNumber(t *testing.T) {
	for _, c := range []struct {
		s       string
		most, n int
		ok      bool
	}{
		{"0", 0, 0, true}, {"0", math.MaxInt, 0, true}, {"1", 1, 1, true}, {"9", 9, 9, true}, {"10", 10, 10, true}, {"77", 77, 77, true}, {"76", 77, 76, true},
		{"1000000006", top, top, true}, {"1073741824", api.MaxNum, api.MaxNum, true}, {"100", 1000, 100, true}, {"9999999999", 9999999999, 9999999999, true}, {"9999999999", math.MaxInt, 9999999999, true},
		{"1", 0, 0, false}, {"78", 77, 0, false}, {"1000000007", top, 0, false}, {"9999999999", 9999999998, 0, false}, {"10000000000", math.MaxInt, 0, false}, {"99999999999999999999", math.MaxInt, 0, false}, {"18446744073709551616", math.MaxInt, 0, false},
		{"0", -1, 0, false}, {"1", -1, 0, false}, {"0", math.MinInt, 0, false}, {"9", math.MinInt, 0, false},
		{"", 9, 0, false}, {"00", 9, 0, false}, {"01", 9, 0, false}, {"007", 9, 0, false}, {"00000000001", 9, 0, false}, {"0000000001", 9, 0, false},
		{"-1", 9, 0, false}, {"-0", 9, 0, false}, {"+1", 9, 0, false}, {" 1", 9, 0, false}, {"1 ", 9, 0, false}, {"1\n", 9, 0, false}, {"1x", 99, 0, false}, {"x1", 99, 0, false}, {"1_0", 99, 0, false}, {"0x1", 99, 0, false}, {"1.0", 99, 0, false}, {"1e1", 99, 0, false}, {"٣", 9, 0, false}, {"\xff", 9, 0, false}, {"*", 9, 0, false},
		{strings.Repeat("1", 1<<20), math.MaxInt, 0, false},
	} {
		if n, ok := seal.Number(c.s, c.most); n != c.n || ok != c.ok {
			t.Errorf("Number(%.30q, %d): %d, %v", c.s, c.most, n, ok)
		}
	}
	for b := range 256 {
		one := string([]byte{byte(b)})
		is := b >= '0' && b <= '9'
		if n, ok := seal.Number(one, 9); ok != is || is && n != b-'0' || !is && n != 0 {
			t.Errorf("Number(%q): %d, %v", one, n, ok)
		}
	}
}

// P1 and P2: whatever is given, a call ends, and a second one answers the same; what is opened is what would be made.
func FuzzSeals(f *testing.F) {
	f.Add(5, "a 1388")
	f.Add(0, "")
	f.Add(5, "a b-1 * 77 1")
	f.Add(api.MaxKey, "a  999999847")
	f.Fuzz(func(t *testing.T, key int, s string) {
		opened, err := seal.Open(key, s)
		again, errAgain := seal.Open(key, s)
		if !slices.Equal(opened, again) || err != errAgain {
			t.Fatal(opened, again, err, errAgain)
		}
		looked, errLook := seal.Look(s)
		if err == nil && (errLook != nil || !slices.Equal(opened, looked)) {
			t.Fatal(opened, looked, errLook)
		}
		made, errMake := seal.Make(key, looked)
		if errLook == nil && (errMake == nil) != (err != api.ErrKey) {
			t.Fatal(errMake, err)
		}
		if errLook == nil && errMake == nil && (made == s) != (err == nil) {
			t.Fatal(made, s, err)
		}
		for _, w := range looked {
			if n, ok := seal.Number(w, math.MaxInt); ok && strconv.Itoa(n) != w {
				t.Fatal(n, w)
			}
		}
	})
}
