package tape_test

import (
	"fmt"
	"math"
	"math/rand"
	"regexp"
	"slices"
	"strconv"
	"strings"
	"testing"

	"keyholder/api"
	"keyholder/tape"
)

const (
	longest = 4000   // bytes of a text
	most    = 262144 // bytes of a tape
)

var (
	isCount = regexp.MustCompile(`\A(0|[1-9][0-9]{0,3}):`)

	texts = []string{"", "a", "\n.", ".", "\n", ":", "0:\n.", "1:a\n.", "a\n.b", "\x00", "\xff\xfe", "é", "tick 3", strings.Repeat("x", 9), strings.Repeat("x", 10), strings.Repeat("1:a\n.", 30)}
)

// pair is a disk, and what it is to be.
type pair struct {
	*testing.T
	disk  *tape.Disk
	bytes []byte
	off   bool
	left  int // bytes until power fails; below 0: it does not
}

func newPair(t *testing.T, b string) *pair {
	t.Helper()
	d, err := tape.NewDisk(b)
	if d == nil || err != nil {
		t.Fatalf("NewDisk of %d bytes: %v, %v", len(b), d, err)
	}
	p := &pair{t, d, []byte(b), false, -1}
	p.check("NewDisk")
	return p
}

// cutting is an empty one whose power fails behind so many bytes.
func cutting(t *testing.T, n int) *pair {
	t.Helper()
	p := newPair(t, "")
	p.cuts(n, nil)
	return p
}

// dark is one whose power is off.
func dark(t *testing.T, b string) *pair {
	t.Helper()
	p := newPair(t, b)
	p.cuts(0, nil)
	p.answers("", api.ErrOff)
	return p
}

func (p *pair) check(what string) {
	p.Helper()
	if got := p.disk.Bytes(); got != string(p.bytes) || p.disk.Power() == p.off {
		p.Fatalf("%s: %.99q of %d bytes, power %v; not %.99q of %d bytes, power %v", what, got, len(got), p.disk.Power(), p.bytes, len(p.bytes), !p.off)
	}
}

// written is a record, as P130 tells it.
func written(s string) string { return fmt.Sprintf("%d:%s\n.", len(s), s) }

// comes tells what is answered, and what is there then, as P130 tells it: byte by byte.
func (p *pair) comes(s string) error {
	record := written(s)
	switch {
	case len(s) > longest:
		return api.ErrBound
	case len(p.bytes)+len(record) > most:
		return api.ErrFull
	case p.off:
		return api.ErrOff
	}
	for i := range len(record) {
		if p.left == 0 {
			p.off = true
			return api.ErrOff
		}
		p.bytes = append(p.bytes, record[i])
		p.left = max(p.left-1, -1)
	}
	return nil
}

// appends tells what is answered, which is what P130 tells.
func (p *pair) appends(s string) error {
	p.Helper()
	want := p.comes(s)
	if err := tape.Append(p.disk, s); err != want {
		p.Fatalf("Append of %d bytes, %.30q: %v, not %v", len(s), s, err, want)
	}
	p.check(fmt.Sprintf("Append of %d bytes, %.30q", len(s), s))
	return want
}

// answers wants that error itself.
func (p *pair) answers(s string, want error) {
	p.Helper()
	if err := p.appends(s); err != want {
		p.Fatalf("Append of %d bytes, %.30q: %v, not %v", len(s), s, err, want)
	}
}

// cuts wants that error.
func (p *pair) cuts(n int, want error) {
	p.Helper()
	if err := p.disk.Cut(n); err != want {
		p.Fatalf("Cut(%d): %v, not %v", n, err, want)
	}
	if want == nil {
		p.left = n
	}
	p.check(fmt.Sprintf("Cut(%d)", n))
}

func (p *pair) on() {
	p.Helper()
	p.disk.On()
	p.off, p.left = false, -1
	p.check("On")
}

// recovers is the list, as P131 tells it.
func (p *pair) recovers() []string {
	p.Helper()
	want, n := slow(string(p.bytes))
	p.bytes, p.off, p.left = p.bytes[:n], false, -1
	got, err := tape.Recover(p.disk)
	if err != nil || !slices.Equal(got, want) {
		p.Fatalf("Recover: %.99q, %v, not %.99q", got, err, want)
	}
	p.check("Recover")
	return want
}

// slow reads as P131 tells it.
func slow(b string) (list []string, n int) {
	for {
		count := isCount.FindStringSubmatch(b[n:])
		if count == nil {
			return list, n
		}
		many, _ := strconv.Atoi(count[1])
		from := n + len(count[0])
		if many > longest || from+many+2 > len(b) || b[from+many] != '\n' || b[from+many+1] != '.' {
			return list, n
		}
		list = append(list, b[from:from+many])
		n = from + many + 2
	}
}

// reads wants what P131 tells.
func reads(t *testing.T, b string) {
	t.Helper()
	want, many := slow(b)
	if got, n := tape.Read(b); n != many || !slices.Equal(got, want) {
		t.Fatalf("Read(%.99q): %.99q, %d, not %.99q, %d", b, got, n, want, many)
	}
}

// P130 and P131, as a tale, spelt out.
func TestByHand(t *testing.T) {
	d, err := tape.NewDisk("")
	if err != nil {
		t.Fatal(err)
	}
	append := func(s string) func() error { return func() error { return tape.Append(d, s) } }
	cut := func(n int) func() error { return func() error { return d.Cut(n) } }
	on := func() error { d.On(); return nil }
	recover := func(want string) func() error {
		return func() error {
			l, err := tape.Recover(d)
			if got := fmt.Sprintf("%q", l); got != want {
				t.Errorf("%s, not %s", got, want)
			}
			return err
		}
	}
	for i, c := range []struct {
		do    func() error
		want  error
		bytes string
		power bool
	}{
		{append("ab"), nil, "2:ab\n.", true},
		{append(""), nil, "2:ab\n.0:\n.", true},
		{cut(-1), api.ErrBound, "2:ab\n.0:\n.", true},
		{cut(9), nil, "2:ab\n.0:\n.", true},
		{append("cd"), nil, "2:ab\n.0:\n.2:cd\n.", true},
		{append("ef"), api.ErrOff, "2:ab\n.0:\n.2:cd\n.2:e", false},
		{append("ef"), api.ErrOff, "2:ab\n.0:\n.2:cd\n.2:e", false},
		{cut(9), api.ErrOff, "2:ab\n.0:\n.2:cd\n.2:e", false},
		{cut(-1), api.ErrBound, "2:ab\n.0:\n.2:cd\n.2:e", false},
		{recover(`["ab" "" "cd"]`), nil, "2:ab\n.0:\n.2:cd\n.", true},
		{append("ef"), nil, "2:ab\n.0:\n.2:cd\n.2:ef\n.", true},
		{cut(1), nil, "2:ab\n.0:\n.2:cd\n.2:ef\n.", true},
		{on, nil, "2:ab\n.0:\n.2:cd\n.2:ef\n.", true},
		{append("g"), nil, "2:ab\n.0:\n.2:cd\n.2:ef\n.1:g\n.", true},
		{cut(4), nil, "2:ab\n.0:\n.2:cd\n.2:ef\n.1:g\n.", true},
		{append("h"), api.ErrOff, "2:ab\n.0:\n.2:cd\n.2:ef\n.1:g\n.1:h\n", false},
		{recover(`["ab" "" "cd" "ef" "g"]`), nil, "2:ab\n.0:\n.2:cd\n.2:ef\n.1:g\n.", true},
		{recover(`["ab" "" "cd" "ef" "g"]`), nil, "2:ab\n.0:\n.2:cd\n.2:ef\n.1:g\n.", true},
	} {
		if err := c.do(); err != c.want || d.Bytes() != c.bytes || d.Power() != c.power {
			t.Fatalf("%d: %v, %q, %v", i, err, d.Bytes(), d.Power())
		}
	}
}

// P130: any bytes, and MaxBytes of them.
func TestNewDisk(t *testing.T) {
	for b := range 256 {
		newPair(t, string([]byte{byte(b)}))
	}
	for _, n := range []int{0, 1, 2, longest + 1, most - 1, most} {
		newPair(t, strings.Repeat("x", n))
	}
	for _, n := range []int{most + 1, most + 2, 4 * most} {
		if d, err := tape.NewDisk(strings.Repeat("x", n)); d != nil || err != api.ErrBound {
			t.Errorf("NewDisk of %d bytes: %v, %v", n, d, err)
		}
	}
}

// P130: what a record is: of every byte, and of every length.
func TestAppend(t *testing.T) {
	p := newPair(t, "")
	for _, s := range texts {
		p.answers(s, nil)
	}
	if l := p.recovers(); !slices.Equal(l, texts) {
		t.Errorf("%q", l)
	}
	for b := range 256 {
		one := string([]byte{byte(b)})
		p := newPair(t, one)
		p.answers(one, nil)
		p.answers(one+"é"+one, nil)
	}
	for _, n := range []int{0, 1, 9, 10, 99, 100, 999, 1000, 3999, 4000, 4001, 4002, 9999, 10000, most, most + 1} {
		var want error
		if n > longest {
			want = api.ErrBound
		}
		newPair(t, "").answers(strings.Repeat("y", n), want)
	}
	for n := range longest + 9 {
		s, d := strings.Repeat("z", n), &tape.Disk{}
		if err := tape.Append(d, s); (err == nil) != (n <= 4000) || err == nil && d.Bytes() != strconv.Itoa(n)+":"+s+"\n." {
			t.Errorf("%d: %v", n, err)
		}
	}
}

// P130: up to MaxBytes, by a whole record; none that has no room is begun.
func TestFull(t *testing.T) {
	for _, s := range []string{"", "a", "123456789", "1234567890", strings.Repeat("x", longest)} {
		for _, n := range []int{0, 1, 2, 3, 4, 5, 9, 100, 4006, 4007, 4008} {
			p := newPair(t, strings.Repeat("b", most-n))
			var want error
			if n < len(written(s)) {
				want = api.ErrFull
			}
			p.answers(s, want)
			p.appends("")
			p.appends(s)
		}
	}
	p := newPair(t, "")
	many := 0
	for p.appends(strings.Repeat("x", longest)) == nil {
		many++
	}
	if many != most/4007 {
		t.Errorf("%d records", many)
	}
	for p.appends("") == nil {
		many++
	}
	if many != most/4007+most%4007/4 || len(p.recovers()) != many {
		t.Errorf("%d records", many)
	}
	p.answers("", api.ErrFull)
	reads(t, p.disk.Bytes())
}

// P130 with P3: ErrShape, ErrBound, ErrFull, ErrOff, each ahead of all behind it; but for one that fails on the way, nothing changes.
func TestErrorsInOrder(t *testing.T) {
	long := strings.Repeat("x", longest+1)
	for _, s := range []string{"", "a", long} {
		if err := tape.Append(nil, s); err != api.ErrShape {
			t.Errorf("Append(nil): %v", err)
		}
	}
	told := map[error]int{}
	for _, b := range []string{"", "abc", strings.Repeat("b", most-8), strings.Repeat("b", most)} {
		for _, maker := range []func() *pair{
			func() *pair { return newPair(t, b) },
			func() *pair { p := newPair(t, b); p.cuts(0, nil); return p },
			func() *pair { p := newPair(t, b); p.cuts(5, nil); return p },
			func() *pair { p := newPair(t, b); p.cuts(99, nil); return p },
			func() *pair { p := newPair(t, b); p.cuts(3, nil); p.appends("1"); return p },
		} {
			for _, s := range []string{"", "a", "1234", "12345", strings.Repeat("x", longest), long, strings.Repeat("x", most+1)} {
				p := maker()
				told[p.appends(s)]++
				told[p.appends("")]++
				p.recovers()
			}
		}
	}
	for _, want := range []error{nil, api.ErrBound, api.ErrFull, api.ErrOff} {
		if told[want] == 0 {
			t.Errorf("%v is never told", want)
		}
	}
}

// P130: what is not begun uses no power: the bytes that were left are left.
func TestRefusedRecordsUseNothing(t *testing.T) {
	p := newPair(t, strings.Repeat("b", most-9))
	p.cuts(4, nil)
	p.answers(strings.Repeat("x", longest+1), api.ErrBound)
	p.answers("123456", api.ErrFull)
	p.answers("", nil)
	p.answers("12", api.ErrFull)
	p.answers("", api.ErrOff)
	if n := len(p.disk.Bytes()); n != most-5 {
		t.Errorf("%d bytes", n)
	}
	p.answers("12", api.ErrFull)
	p.answers("", api.ErrOff)
}

// P130: at each byte of records that come behind each other; one that ends just there is whole.
func TestCutAtEachByte(t *testing.T) {
	for n := range 40 {
		p := cutting(t, n)
		for _, s := range []string{"", "ab", "1234567890", "\n."} {
			p.appends(s)
		}
		if got := len(p.disk.Bytes()); got != min(n, 4+6+15+6) || p.disk.Power() != (n >= 31) {
			t.Errorf("Cut(%d): %d bytes, power %v", n, got, p.disk.Power())
		}
		p.on()
		p.answers("more", nil)
	}
	for _, s := range texts {
		n := len(written(s))
		p := cutting(t, n)
		p.answers(s, nil)
		p.answers(s, api.ErrOff)
		p = cutting(t, n-1)
		p.answers(s, api.ErrOff)
		p = cutting(t, n+1)
		p.answers(s, nil)
		p.answers(s, api.ErrOff)
	}
}

// P130: ErrBound ahead of ErrOff; what is refused changes nothing of one that waits.
func TestCutsThatAreNone(t *testing.T) {
	for _, n := range []int{-1, -2, -1 << 40, math.MinInt} {
		newPair(t, "").cuts(n, api.ErrBound)
		dark(t, "").cuts(n, api.ErrBound)
		p := cutting(t, 5)
		p.cuts(n, api.ErrBound)
		p.answers("", nil)
		p.cuts(n, api.ErrBound)
		p.answers("", api.ErrOff)
		p = newPair(t, "")
		p.cuts(n, api.ErrBound)
		p.answers("a", nil)
	}
	for _, n := range []int{0, 1, most, math.MaxInt} {
		p := dark(t, "ab")
		p.cuts(n, api.ErrOff)
		p.answers("a", api.ErrOff)
		p.on()
		p.answers("a", nil)
		p.cuts(n, nil)
	}
	for _, n := range []int{most, most + 1, 1 << 40, math.MaxInt - 1, math.MaxInt} {
		p := cutting(t, n)
		for range 9 {
			p.answers(strings.Repeat("x", longest), nil)
		}
	}
}

// P130: from the newest Cut on is counted; with a Cut that waits there is power.
func TestNewestCutCounts(t *testing.T) {
	for first := range 12 {
		for second := range 12 {
			p := cutting(t, first)
			p.cuts(second, nil)
			p.appends("a")
			p.appends("b")
			p = cutting(t, first)
			p.appends("")
			if first >= 4 {
				p.cuts(second, nil)
			}
			p.appends("a")
			p.appends("b")
		}
	}
	p := cutting(t, 0)
	if !p.disk.Power() {
		t.Error("off ahead of the byte")
	}
	p.answers("", api.ErrOff)
	p = cutting(t, 4)
	p.answers("", nil)
	p.cuts(4, nil)
	p.answers("", nil)
	p.answers("", api.ErrOff)
}

// P130: On takes back a Cut that waits, and does nothing else.
func TestOn(t *testing.T) {
	for n := range 12 {
		p := cutting(t, n)
		p.on()
		p.answers("a", nil)
		p.answers("b", nil)
		p.cuts(n, nil)
		p.appends("a")
		p.appends("b")
		p.on()
		p.on()
		p.answers("c", nil)
		p.answers("d", nil)
	}
	p := newPair(t, "ab")
	p.on()
	p.answers("", nil)
	p = dark(t, "ab")
	p.on()
	p.cuts(2, nil)
	p.answers("", api.ErrOff)
}

// P130: bytes that were no record are there, and what comes goes behind them.
func TestBytesStay(t *testing.T) {
	p := newPair(t, "ab")
	p.answers("c", nil)
	p.cuts(2, nil)
	p.answers("d", api.ErrOff)
	p.on()
	p.answers("e", nil)
	if got := p.disk.Bytes(); got != "ab1:c\n.1:1:e\n." {
		t.Errorf("%q", got)
	}
}

// P131: of every small text, as a slow reader reads it.
func TestReadAllSmall(t *testing.T) {
	var walk func(s, letters string, longest int)
	walk = func(s, letters string, longest int) {
		reads(t, s)
		if len(s) < longest {
			for _, letter := range letters {
				walk(s+string(letter), letters, longest)
			}
		}
	}
	walk("", "012:\n.a", 6)
	walk("", "01:\n.", 8)
	walk("0:\n.", "1:\n.", 8)
	walk("1:a\n.", "01:\n.", 10)
	walk("2:0:", "0:\n.", 11)
	walk("10:", "0\n.", 14)
	walk("10:12345678", "9\n.", 16)
}

// P131: what is no record, spelt out; what is behind it is not read.
func TestReadWhatIsNone(t *testing.T) {
	for _, s := range []string{
		"", "0", "0:", "0:\n", "0:.\n", "0:\n,", "0\n.", ":\n.", "0:\r.", "0: \n.", "1:\n.", "1:a", "1:a\n", "1:a.", "1:aa\n.", "2:a\n.", "3:a\n.", "5:a\n.",
		"00:\n.", "01:a\n.", "001:a\n.", "+1:a\n.", "-0:\n.", "-1:\n.", " 1:a\n.", "1 :a\n.", "1;a\n.", "1_0:1234567890\n.", "0x1:a\n.", "1e0:a\n.", "1.0:a\n.", "1,0:a\n.", "a:a\n.", "٣:abc\n.", "１:a\n.",
		"\n1:a\n.", ".1:a\n.", "x0:\n.", "\x000:\n.", "\ufeff0:\n.",
		"4001:" + strings.Repeat("x", 4001) + "\n.", "10000:" + strings.Repeat("x", 10000) + "\n.", "04000:" + strings.Repeat("x", 4000) + "\n.",
		"4294967296:\n.", "18446744073709551616:\n.", "18446744073709551617:a\n.", "9223372036854775807:\n.", "9223372036854775808:\n.", strings.Repeat("9", 99) + ":\n.", strings.Repeat("0", 99) + "1:a\n.",
	} {
		if l, n := tape.Read(s); len(l) != 0 || n != 0 {
			t.Errorf("%.30q: %q, %d", s, l, n)
		}
		reads(t, s)
		reads(t, "1:b\n."+s)
		reads(t, "1:b\n."+s+"0:\n.")
		reads(t, strings.Repeat("0:\n.", 9)+s+"1:b\n.")
	}
}

// P131: of every length; as many as there are; how many bytes they have.
func TestRead(t *testing.T) {
	for n := range longest + 9 {
		b := written(strings.Repeat("x", n))
		l, many := tape.Read(b)
		if n <= 4000 && (len(l) != 1 || len(l[0]) != n || many != len(b)) || n > 4000 && (len(l) != 0 || many != 0) {
			t.Errorf("%d: %d records, %d bytes", n, len(l), many)
		}
	}
	for b := range 256 {
		one := string([]byte{byte(b)})
		reads(t, written(one))
		reads(t, one+":a\n.")
		reads(t, "1"+one+"a\n.")
		reads(t, "1:a"+one+".")
		reads(t, "1:a\n"+one)
		reads(t, "1:a\n."+one)
	}
	var all string
	for _, s := range texts {
		all += written(s)
	}
	for n := range len(all) + 1 {
		reads(t, all[:n])
		reads(t, all[n:])
	}
	if l, n := tape.Read(all); !slices.Equal(l, texts) || n != len(all) {
		t.Errorf("%q, %d", l, n)
	}
	more := strings.Repeat("0:\n.", most)
	if l, n := tape.Read(more); len(l) != most || n != 4*most {
		t.Errorf("%d records, %d bytes", len(l), n)
	}
}

// P131: what Read reads is there, and nothing behind it; with power, and no Cut.
func TestRecover(t *testing.T) {
	if l, err := tape.Recover(nil); len(l) != 0 || err != api.ErrShape {
		t.Errorf("%q, %v", l, err)
	}
	for _, b := range []string{"", "abc", "0:\n.", "0:\n.abc", "1:a\n.1:b\n", "1:a\n.1:b\n.0", "01:a\n.", "1:a\n.01:b\n.1:c\n.", written(strings.Repeat("x", longest)), "4001:" + strings.Repeat("x", longest+1) + "\n.", strings.Repeat("b", most), "0:\n." + strings.Repeat("b", most-4), strings.Repeat("0:\n.", most/4)} {
		for _, maker := range []func() *pair{
			func() *pair { return newPair(t, b) },
			func() *pair { return dark(t, b[:min(len(b), most-4)]) },
			func() *pair { p := newPair(t, b); p.cuts(0, nil); return p },
			func() *pair { p := newPair(t, b); p.cuts(5, nil); p.appends("ab"); return p },
			func() *pair { p := newPair(t, b); p.cuts(7, nil); p.appends("ab"); return p },
		} {
			p := maker()
			l := p.recovers()
			if again := p.recovers(); !slices.Equal(l, again) {
				t.Errorf("%.30q: %.99q, and then %.99q", b, l, again)
			}
			p.appends("c")
			p.appends("")
			p.recovers()
		}
	}
}

// Mend takes torn bytes away, and no record; power is as it was, and a Cut waits on.
func TestMend(t *testing.T) {
	for torn := range 10 {
		p := newPair(t, "1:a\n.2:bc\n.")
		p.cuts(torn, nil)
		p.answers("tick 33", api.ErrOff)
		for _, on := range []bool{false, true} {
			if on {
				p.on()
				p.cuts(4, nil)
			}
			want, n := slow(string(p.bytes))
			if l := p.disk.Mend(); !slices.Equal(l, want) {
				t.Errorf("Mend: %q, not %q", l, want)
			}
			p.bytes = p.bytes[:n]
			p.check("Mend")
		}
		p.answers("", nil)
		p.answers("", api.ErrOff)
		if l := p.recovers(); !slices.Equal(l, []string{"a", "bc", ""}) {
			t.Errorf("%q", l)
		}
	}
}

// P132: at each byte of several tapes, and behind that, and again while what failed is told again.
func TestWhatIsRecovered(t *testing.T) {
	for _, list := range [][]string{nil, {""}, {"", "", ""}, texts, {"a", "1:a\n.", "\n.\n."}, {"2:", "0:\n.0:\n.", "0", "\n", "."}, {strings.Repeat("x", 1200), "a"}} {
		var all string
		for _, s := range list {
			all += written(s)
		}
		for first := range len(all) + 2 {
			for _, second := range []int{0, 1, 3, 4, 7, len(all)} {
				p := cutting(t, first)
				var done []string
				for _, s := range list {
					if p.appends(s) == nil {
						done = append(done, s)
					}
				}
				if l := p.recovers(); !slices.Equal(l, done) {
					t.Fatalf("%d: %q, not %q", first, l, done)
				}
				p.cuts(second, nil)
				for _, s := range list[len(done):] {
					if p.appends(s) == nil {
						done = append(done, s)
					}
				}
				if l := p.recovers(); !slices.Equal(l, done) {
					t.Fatalf("%d, %d: %q, not %q", first, second, l, done)
				}
			}
		}
	}
}

// walk goes on as the numbers tell; what is recovered is what was appended, so long as power came back by Recover.
func walk(p *pair, next func(int) int) {
	var done []string
	torn := false // bytes stand on the tape that are none of a record's
	for range 30 {
		switch next(8) {
		case 0:
			n := next(40) - 1
			want := error(nil)
			if n < 0 {
				want = api.ErrBound
			} else if p.off {
				want = api.ErrOff
			}
			p.cuts(n, want)
		case 1:
			torn = torn || p.off
			p.on()
		case 2:
			l := p.recovers()
			if !torn && !slices.Equal(l, done) {
				p.Fatalf("%q, not %q", l, done)
			}
			done, torn = l, false
		default:
			s := texts[next(len(texts))]
			if p.appends(s) == nil && !torn {
				done = append(done, s)
			}
		}
	}
	if l := p.recovers(); !torn && !slices.Equal(l, done) {
		p.Fatalf("%q, not %q", l, done)
	}
}

// P130 to P132: any calls behind each other.
func TestWalks(t *testing.T) {
	for seed := range int64(3000) {
		walk(newPair(t, ""), rand.New(rand.NewSource(seed)).Intn)
	}
}

// P4: what was told does not change behind what comes, nor is it seen what is written into it.
func TestNothingIsShared(t *testing.T) {
	p := newPair(t, "1:a\n.1:b\n.ab")
	before := p.disk.Bytes()
	first, _ := tape.Read(before)
	second, _ := tape.Read(before)
	list := p.recovers()
	got, _ := tape.Recover(p.disk)
	p.answers("c", nil)
	first[0], got[0] = "x", "y"
	if before != "1:a\n.1:b\n.ab" || second[0] != "a" || list[0] != "a" {
		t.Errorf("%q, %q, %q", before, second, list)
	}
	p.check("what was written into lists")
	if l := p.recovers(); !slices.Equal(l, []string{"a", "b", "c"}) {
		t.Errorf("%q", l)
	}
	_ = append(list, "d")
	p.check("what was written behind a list")
}

// P2: disks of the same bytes are each their own.
func TestDisksAreApart(t *testing.T) {
	one, other := newPair(t, "ab"), newPair(t, "ab")
	one.cuts(2, nil)
	other.answers("a", nil)
	one.answers("b", api.ErrOff)
	other.answers("c", nil)
	one.check("what the other did")
	other.recovers()
	one.check("what the other did")
	other.check("what one did")
}

// P1: one that no call gave is an empty one.
func TestZeroDisk(t *testing.T) {
	p := &pair{t, &tape.Disk{}, nil, false, -1}
	p.check("none")
	p.answers("a", nil)
	p = &pair{t, &tape.Disk{}, nil, false, -1}
	p.cuts(2, nil)
	p.answers("a", api.ErrOff)
	p.recovers()
}

// P130 to P132: whatever the bytes; and whatever is called.
func FuzzTapes(f *testing.F) {
	for _, s := range texts {
		f.Add(s, written(s)+s)
	}
	f.Add("12:abc", "\x00\x05\x03\x01\x02\x04\x09\x02")
	f.Fuzz(func(t *testing.T, b, told string) {
		reads(t, b)
		reads(t, written(b)+told)
		if len(b) <= most {
			p := newPair(t, b)
			p.appends(told)
			p.recovers()
			p.appends(told)
			p.recovers()
		}
		at := 0
		walk(newPair(t, ""), func(n int) int {
			if len(told) == 0 {
				return 0
			}
			at++
			return int(told[at%len(told)]) % n
		})
	})
}
