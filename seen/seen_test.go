package seen_test

import (
	"fmt"
	"math"
	"math/rand"
	"regexp"
	"slices"
	"strings"
	"testing"

	"keyholder/api"
	"keyholder/seen"
)

const most = 40 // words that are there

var (
	isWord = regexp.MustCompile(`\A[a-z0-9*-]{1,20}\z`)

	wrongTimes = []int{-1, -2, api.MaxTime + 1, api.MaxTime + 2, 1 << 40, math.MinInt, math.MaxInt}
	goodTimes  = []int{0, 1, 2, 5, 50, api.MaxTime / 2, api.MaxTime - 1, api.MaxTime}
	wrongWords = []string{"", " ", "A", "aA", "a b", "a ", " a", "a_b", "a.b", "é", "\xff", "a\x00", "a\n", "\na", "٣", strings.Repeat("a", 21), strings.Repeat("a", 1<<16)}
	goodWords  = []string{"a", "z", "0", "9", "*", "-", "-1", "007", "a-b*9", strings.Repeat("a", 20), strings.Repeat("*", 20)}
)

// held is a word that is there.
type held struct {
	word string
	time int
}

// pair is what was seen, and what it is to be: a list, in the order in which the words came.
type pair struct {
	*testing.T
	seen *seen.Seen
	long int
	want []held
}

func newPair(t *testing.T, long int) *pair {
	t.Helper()
	s, err := seen.New(long)
	if s == nil || err != nil {
		t.Fatalf("New(%d): %v, %v", long, s, err)
	}
	p := &pair{t, s, long, nil}
	p.check("New")
	return p
}

// having is one to which these words came, all of one time, then.
func having(t *testing.T, long, time int, words ...string) *pair {
	t.Helper()
	p := newPair(t, long)
	for _, word := range words {
		p.answers(word, time, time, nil)
	}
	return p
}

// numbered makes so many words.
func numbered(count int) []string {
	words := make([]string, count)
	for i := range words {
		words[i] = fmt.Sprint("n", i)
	}
	return words
}

// check asks which words are there.
func (p *pair) check(what string) {
	p.Helper()
	words := make([]string, len(p.want))
	for i, h := range p.want {
		words[i] = h.word
	}
	slices.Sort(words)
	if got := p.seen.Words(); !slices.Equal(got, words) || p.seen.Many() != len(words) {
		p.Fatalf("%s, %d long: %d, %q, not %q", what, p.long, p.seen.Many(), got, words)
	}
}

// wrong tells why a word may not come at all, as P100 tells it.
func (p *pair) wrong(word string, time, now int) error {
	switch {
	case !isWord.MatchString(word):
		return api.ErrText
	case min(time, now) < 0 || max(time, now) > 1000000:
		return api.ErrBound
	case time-p.long > now:
		return api.ErrEarly
	case time+p.long < now:
		return api.ErrLate
	}
	return nil
}

// comes tells what is answered, and what is there then, as P100 tells it.
func (p *pair) comes(word string, time, now int) error {
	if err := p.wrong(word, time, now); err != nil {
		return err
	}
	var left []held
	for _, h := range p.want {
		if h.time+p.long >= now {
			left = append(left, h)
		}
	}
	p.want = left
	switch {
	case slices.ContainsFunc(left, func(h held) bool { return h.word == word }):
		return api.ErrExist
	case len(left) == most:
		return api.ErrFull
	}
	p.want = append(left, held{word, time})
	return nil
}

// asks tells what is answered, which is what P100 tells.
func (p *pair) asks(word string, time, now int) error {
	p.Helper()
	before := slices.Clone(p.want)
	want := p.comes(word, time, now)
	if err := p.seen.Ask(word, time, now); err != want {
		p.Fatalf("Ask(%.30q, %d, %d) of %v, %d long: %v, not %v", word, time, now, before, p.long, err, want)
	}
	p.check(fmt.Sprintf("Ask(%.30q, %d, %d)", word, time, now))
	return want
}

// answers wants that error itself.
func (p *pair) answers(word string, time, now int, want error) {
	p.Helper()
	if err := p.asks(word, time, now); err != want {
		p.Fatalf("Ask(%.30q, %d, %d), %d long: %v, not %v", word, time, now, p.long, err, want)
	}
}

// P100: every edge; nothing is there.
func TestNew(t *testing.T) {
	for _, long := range goodTimes {
		newPair(t, long)
	}
	for _, long := range wrongTimes {
		if s, err := seen.New(long); s != nil || err != api.ErrBound {
			t.Errorf("New(%d): %v, %v", long, s, err)
		}
	}
}

// P100, as a tale, spelt out.
func TestByHand(t *testing.T) {
	s, err := seen.New(5)
	if err != nil {
		t.Fatal(err)
	}
	for i, c := range []struct {
		word      string
		time, now int
		want      error
		words     string
	}{
		{"b", 10, 10, nil, "[b]"},
		{"b", 10, 10, api.ErrExist, "[b]"},
		{"a", 15, 10, nil, "[a b]"},
		{"c", 16, 10, api.ErrEarly, "[a b]"},
		{"c", 5, 10, nil, "[a b c]"},
		{"d", 4, 10, api.ErrLate, "[a b c]"},
		{"d", 16, 11, nil, "[a b d]"}, // c is gone: 5 is below 11 less 5
		{"d", 4, 90, api.ErrLate, "[a b d]"},
		{"d", 96, 90, api.ErrEarly, "[a b d]"},
		{"D", 90, 90, api.ErrText, "[a b d]"},
		{"d", 90, -1, api.ErrBound, "[a b d]"},
		{"b", 10, 15, api.ErrExist, "[a b d]"},
		{"b", 10, 16, api.ErrLate, "[a b d]"},
		{"d", 16, 16, api.ErrExist, "[a d]"}, // b stays gone
		{"b", 10, 16, api.ErrLate, "[a d]"},
		{"b", 11, 16, nil, "[a b d]"},
		{"b", 18, 18, nil, "[a b d]"}, // another time, once the first one went
		{"d", 26, 21, api.ErrExist, "[b d]"},
		{"d", 27, 22, nil, "[b d]"},
		{"a", 90, 90, nil, "[a]"},
	} {
		if err := s.Ask(c.word, c.time, c.now); err != c.want || fmt.Sprint(s.Words()) != c.words || s.Many() != len(s.Words()) {
			t.Fatalf("%d: %v, %d, %q", i, err, s.Many(), s.Words())
		}
	}
}

// P100: what a word is, chapter 2 tells; every byte, alone, ahead and behind; 1 to 20 of them.
func TestWordsThatAreNone(t *testing.T) {
	for _, word := range goodWords {
		having(t, 5, 10, word)
	}
	for b := range 256 {
		one := string([]byte{byte(b)})
		for _, word := range []string{one, "a" + one, one + "a"} {
			p := newPair(t, 5)
			var want error
			if !strings.Contains("abcdefghijklmnopqrstuvwxyz0123456789-*", one) {
				want = api.ErrText
			}
			p.answers(word, 10, 10, want)
		}
	}
	for length := range 30 {
		p := newPair(t, 5)
		var want error
		if length < 1 || length > 20 {
			want = api.ErrText
		}
		p.answers(strings.Repeat("a", length), 10, 10, want)
	}
}

// P100 with P3: ErrText, ErrBound, ErrEarly, ErrLate, ErrExist, ErrFull, each ahead of all behind it; but for the last two nothing goes.
func TestErrorsInOrder(t *testing.T) {
	told := map[error]int{}
	times := slices.Concat(wrongTimes, []int{0, 4, 5, 10, 15, 16, api.MaxTime})
	makers := []func() *pair{
		func() *pair { return newPair(t, 5) },
		func() *pair { return having(t, 5, 10, "a", "b") },
		func() *pair { return having(t, 5, 10, append(numbered(most-1), "a")...) },
	}
	for _, word := range slices.Concat(wrongWords, []string{"a", "new"}) {
		for _, time := range times {
			for _, now := range times {
				for _, maker := range makers {
					told[maker().asks(word, time, now)]++
				}
			}
		}
	}
	for _, want := range []error{nil, api.ErrText, api.ErrBound, api.ErrEarly, api.ErrLate, api.ErrExist, api.ErrFull} {
		if told[want] == 0 {
			t.Errorf("%v is never told", want)
		}
	}
}

// P100: with an error of these nothing goes, though all that is there is late by now.
func TestNothingGoesTooSoon(t *testing.T) {
	for _, c := range []struct {
		word      string
		time, now int
		want      error
	}{
		{"A", 90, 90, api.ErrText}, {"", 90, 90, api.ErrText}, {"A", -1, 90, api.ErrText},
		{"c", -1, 90, api.ErrBound}, {"c", api.MaxTime + 1, 90, api.ErrBound}, {"c", 90, -1, api.ErrBound}, {"c", 90, api.MaxTime + 1, api.ErrBound}, {"c", math.MinInt, math.MaxInt, api.ErrBound},
		{"c", 96, 90, api.ErrEarly}, {"c", api.MaxTime, 90, api.ErrEarly}, {"a", 96, 90, api.ErrEarly},
		{"c", 84, 90, api.ErrLate}, {"c", 0, 90, api.ErrLate}, {"a", 10, 90, api.ErrLate}, {"c", 10, api.MaxTime, api.ErrLate},
	} {
		p := having(t, 5, 10, "a", "b")
		p.answers(c.word, c.time, c.now, c.want)
		if n := p.seen.Many(); n != 2 {
			t.Errorf("%d behind %v", n, c)
		}
	}
}

// P100: all that is late goes, in whatever order it came, and stays gone, though the word that was asked for is there.
func TestAllThatIsLateGoes(t *testing.T) {
	for now := 10; now <= 20; now++ {
		for _, again := range []bool{false, true} {
			p := newPair(t, 5)
			for _, time := range []int{13, 10, 5, 15, 8, 12, 6, 14, 9, 7, 11} {
				p.answers(fmt.Sprint("n", time), time, 10, nil)
			}
			stay := 21 - now
			if again {
				p.answers("n15", now, now, api.ErrExist)
			} else {
				p.answers("new", now, now, nil)
				stay++
			}
			if n := p.seen.Many(); n != stay {
				t.Errorf("%d at %d, not %d", n, now, stay)
			}
		}
	}
}

// P100: all small times.
func TestAllSmall(t *testing.T) {
	for long := range 5 {
		for first := range 7 {
			for came := max(0, first-long); came <= first+long; came++ {
				for time := -1; time < 16; time++ {
					for now := -1; now < 16; now++ {
						for _, word := range []string{"a", "b"} {
							p := newPair(t, long)
							p.answers("a", first, came, nil)
							p.asks(word, time, now)
							p.asks("a", first, now)
							p.asks("b", time, now+1)
						}
					}
				}
			}
		}
	}
}

// P100: from the first time to the last, as long as can be, and not at all.
func TestEdges(t *testing.T) {
	for _, c := range []struct {
		long, time, now int
		want            error
	}{
		{0, 0, 0, nil}, {0, 1, 0, api.ErrEarly}, {0, 0, 1, api.ErrLate}, {0, api.MaxTime, api.MaxTime, nil}, {0, api.MaxTime, api.MaxTime - 1, api.ErrEarly}, {0, api.MaxTime - 1, api.MaxTime, api.ErrLate},
		{1, 1, 0, nil}, {1, 2, 0, api.ErrEarly}, {1, 0, 1, nil}, {1, 0, 2, api.ErrLate},
		{5, 15, 10, nil}, {5, 16, 10, api.ErrEarly}, {5, 5, 10, nil}, {5, 4, 10, api.ErrLate},
		{api.MaxTime - 1, api.MaxTime, 1, nil}, {api.MaxTime - 1, api.MaxTime, 0, api.ErrEarly}, {api.MaxTime - 1, 0, api.MaxTime, api.ErrLate}, {api.MaxTime - 1, 1, api.MaxTime, nil},
		{api.MaxTime, api.MaxTime, 0, nil}, {api.MaxTime, 0, api.MaxTime, nil}, {api.MaxTime, 0, 0, nil}, {api.MaxTime, api.MaxTime, api.MaxTime, nil},
	} {
		newPair(t, c.long).answers("a", c.time, c.now, c.want)
	}
}

// P100: MaxHeld are there, and no more; one that is there is told to be so; when they go, there is room again.
func TestFull(t *testing.T) {
	p := newPair(t, 5)
	for i, word := range numbered(most) {
		if p.answers(word, 10+i%2, 10, nil); p.seen.Many() != i+1 {
			t.Fatal(p.seen.Many())
		}
	}
	for now := 10; now <= 15; now++ {
		p.answers("more", now, now, api.ErrFull)
		p.answers("n0", now, now, api.ErrExist)
		p.answers("n39", 10, now, api.ErrExist)
		p.answers("more", now+6, now, api.ErrEarly)
		p.answers("more", now-6, now, api.ErrLate)
		p.answers("More", now, now, api.ErrText)
	}
	if n := p.seen.Many(); n != 40 {
		t.Error(n)
	}
	for i := range most / 2 {
		p.answers(fmt.Sprint("more", i), 16, 16, nil)
	}
	p.answers("more", 16, 16, api.ErrFull)
	for i := range most / 2 {
		p.answers(fmt.Sprint("again", i), 17, 17, nil)
	}
	p.answers("more", 17, 17, api.ErrFull)
	p.answers("more", 90, 90, nil)
	if s := fmt.Sprint(p.seen.Words()); s != "[more]" {
		t.Error(s)
	}
}

// P100: the time with which a word came counts, not one with which it was refused, nor when it was.
func TestRefusedWordsHaveNoTime(t *testing.T) {
	p := having(t, 5, 10, "a")
	p.answers("a", 15, 10, api.ErrExist)
	p.answers("a", 20, 15, api.ErrExist)
	p.answers("b", 16, 16, nil)
	if s := fmt.Sprint(p.seen.Words()); s != "[b]" {
		t.Error(s)
	}
	p = newPair(t, 5)
	p.answers("a", 15, 10, nil)
	p.answers("a", 5, 10, api.ErrExist)
	p.answers("b", 16, 16, nil)
	p.answers("a", 20, 20, api.ErrExist)
	p.answers("a", 21, 21, nil)
}

// P100: what is late goes, not what is early, where now falls.
func TestWhatIsEarlyStays(t *testing.T) {
	p := having(t, 5, 10, "a", "b")
	p.answers("c", 3, 3, nil)
	p.answers("a", 10, 4, api.ErrEarly)
	p.answers("a", 3, 3, api.ErrExist)
	p.answers("a", 10, 5, api.ErrExist)
	if s := fmt.Sprint(p.seen.Words()); s != "[a b c]" {
		t.Error(s)
	}
	p.answers("b", 10, 10, api.ErrExist)
	p.answers("d", 0, 0, nil)
	p.answers("b", 15, 15, api.ErrExist)
	if s := fmt.Sprint(p.seen.Words()); s != "[a b]" {
		t.Error(s)
	}
}

// P100 with P3: by their bytes, in whatever order, and of whatever times, they came.
func TestWordsRise(t *testing.T) {
	want := []string{"*", "**", "*a", "-", "-1", "0", "007", "10", "10-9", "2", "9", "a", "a*", "a-", "a0", "aa", "b", "z", strings.Repeat("z", 20)}
	for seed := range int64(20) {
		source := rand.New(rand.NewSource(seed))
		mixed := slices.Clone(want)
		source.Shuffle(len(mixed), func(i, j int) { mixed[i], mixed[j] = mixed[j], mixed[i] })
		p := newPair(t, 5)
		for _, word := range mixed {
			p.answers(word, 8+source.Intn(5), 10, nil)
		}
		for range 3 {
			if got := p.seen.Words(); !slices.Equal(got, want) {
				t.Fatalf("%q from %q", got, mixed)
			}
		}
	}
}

// P4: what is answered is its owner's, and what is handed over may change.
func TestMemory(t *testing.T) {
	p := having(t, 5, 10, "a", "b", "c")
	words := p.seen.Words()
	other := p.seen.Words()
	words[0] = "written"
	_ = append(words[:1], "written")
	if !slices.Equal(other, []string{"a", "b", "c"}) {
		t.Error(other)
	}
	p.check("a list written to")
	p.answers("a", 10, 10, api.ErrExist)
	given := []byte("given")
	p.answers(string(given), 10, 10, nil)
	copy(given, "other")
	p.check("bytes written to")
	p.answers("other", 10, 10, nil)
}

// P2: they have nothing in common, though they are made alike.
func TestTheyAreTheirOwn(t *testing.T) {
	a, b, long := newPair(t, 5), newPair(t, 5), newPair(t, 50)
	a.answers("a", 10, 10, nil)
	b.check("another one's")
	b.answers("a", 10, 10, nil)
	long.answers("a", 10, 10, nil)
	a.answers("b", 90, 90, nil)
	for _, p := range []*pair{a, b, long} {
		p.check("another one's")
	}
	b.answers("a", 10, 15, api.ErrExist)
	long.answers("a", 10, 60, api.ErrExist)
	long.answers("a", 10, 61, api.ErrLate)
}

// A copy is as the other one was; what comes to one does not come to the other, nor does it go there.
func TestCopy(t *testing.T) {
	a := having(t, 5, 10, "a", "b")
	b := &pair{t, a.seen.Copy(), a.long, slices.Clone(a.want)}
	b.check("copied")
	b.answers("c", 11, 11, nil)
	a.check("a word of the copy's")
	a.answers("c", 12, 12, nil)
	a.answers("d", 16, 16, nil)
	b.check("a word of the other one's")
	b.answers("a", 10, 12, api.ErrExist)
	b.answers("c", 16, 17, nil)
	a.answers("c", 12, 17, api.ErrExist)
	b.answers("e", 23, 17, api.ErrEarly)
	b.answers("e", 22, 17, nil)
}

// P101: at each now from the first at which it may come to the last, tick by tick, it passes the first time alone.
func TestPassesOnce(t *testing.T) {
	for _, long := range []int{0, 1, 2, 5, 20} {
		for first := -long; first <= long; first++ {
			p := newPair(t, long)
			const time = 40
			for now := range 100 {
				want := api.ErrExist
				switch {
				case now < time-long:
					want = api.ErrEarly
				case now > time+long:
					want = api.ErrLate
				case now < time+first:
					continue
				case now == time+first:
					want = nil
				}
				p.answers("a", time, now, want)
				p.asks(fmt.Sprint("b", now), now, now)
				if want == nil {
					p.answers("a", time, now, api.ErrExist)
				}
			}
		}
	}
}

// P101 with P100: through long walks what is answered is what is told here; as now only rises, no word of one time passes twice.
func TestWalks(t *testing.T) {
	told := map[error]int{}
	for seed := range int64(60) {
		source := rand.New(rand.NewSource(seed))
		p := newPair(t, source.Intn(12))
		passed := map[held]bool{}
		now := source.Intn(20)
		for range 600 {
			if source.Intn(12) == 0 {
				now += source.Intn(4)
			}
			h := held{fmt.Sprint("w", source.Intn(120)), max(0, now+source.Intn(2*p.long+5)-p.long-2)}
			err := p.asks(h.word, h.time, now)
			if told[err]++; err != nil {
				continue
			}
			if passed[h] {
				t.Fatalf("%v passes twice", h)
			}
			passed[h] = true
		}
	}
	for _, want := range []error{nil, api.ErrEarly, api.ErrLate, api.ErrExist, api.ErrFull} {
		if told[want] < 100 {
			t.Errorf("%v is told %d times", want, told[want])
		}
	}
}

// P100: also where now falls.
func TestWalksBackAndForth(t *testing.T) {
	for seed := range int64(60) {
		source := rand.New(rand.NewSource(seed))
		p := newPair(t, source.Intn(8))
		for range 400 {
			p.asks(fmt.Sprint("w", source.Intn(50)), source.Intn(30)-1, source.Intn(30)-1)
		}
	}
}

// P1, P2, P100 and P101: look for more, of any word and times, behind others, and ahead of them.
func FuzzSeen(f *testing.F) {
	f.Add(5, "a", 10, 10, []byte{1, 2, 3, 4, 5, 6})
	f.Add(-1, "", -1, -1, []byte{})
	f.Add(0, "A", 0, 0, []byte{0, 0, 0})
	f.Add(api.MaxTime, "*-", api.MaxTime, 0, []byte{9, 200, 3, 9, 0, 250})
	f.Add(3, strings.Repeat("a", 21), api.MaxTime+1, 1, []byte("some more bytes to go by"))
	f.Fuzz(func(t *testing.T, long int, word string, time, now int, steps []byte) {
		s, err := seen.New(long)
		if wrong := long < 0 || long > 1000000; wrong != (s == nil) || wrong && err != api.ErrBound || !wrong && err != nil {
			t.Fatalf("New(%d): %v, %v", long, s, err)
		}
		if s == nil {
			return
		}
		p := &pair{t, s, long, nil}
		p.check("New")
		p.asks(word, time, now)
		p.asks(word, time, now)
		for steps = steps[:min(len(steps), 900)]; len(steps) >= 3; steps = steps[3:] {
			p.asks(fmt.Sprint("w", steps[0]%64), int(steps[1]), int(steps[2]))
		}
		p.asks(word, time, now)
	})
}
