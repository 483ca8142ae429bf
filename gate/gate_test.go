package gate_test

import (
	"fmt"
	"math"
	"math/rand"
	"slices"
	"strings"
	"testing"

	"keyholder/api"
	"keyholder/feed"
	"keyholder/follow"
	"keyholder/gate"
	"keyholder/seal"
	"keyholder/ticket"
)

const (
	door  = "door"
	own   = 5  // the key of most gates here
	realm = 7  // and that of their heads
	old   = 20 // and how old these may be
	most  = 60 // of entries
)

var (
	wrongKeys  = []int{0, -1, api.MaxKey + 1, math.MinInt, math.MaxInt}
	goodKeys   = []int{1, 2, own, realm, 1 << 20, api.MaxKey - 1, api.MaxKey}
	wrongTimes = []int{-1, -2, api.MaxTime + 1, api.MaxTime + 2, 1 << 40, math.MinInt, math.MaxInt}
	goodTimes  = []int{0, 1, 2, old - 1, old, old + 1, api.MaxTime - 1, api.MaxTime}
	wrongNames = []string{"", " ", "A", "a-b", "*", "-", "a ", "a b", "é", "\xff", "a\x00", "door\n", "abcdefghi", strings.Repeat("a", 1<<16)}
	goodNames  = []string{"a", "z", "0", "9", door, "9a", "abcdefgh", "12345678"}
)

func entry(seq, time int, who string, epoch int) api.Entry {
	return api.Entry{Seq: seq, Time: time, Floor: api.Floor{Who: who, Epoch: epoch}}
}

// tale is a feed of a few entries: `*:3,bob:4`, in the end.
func tale() []api.Entry {
	return []api.Entry{entry(1, 0, "ann", 2), entry(2, 3, "bob", 4), entry(3, 3, "*", 3), entry(4, 9, "cyd", 2), entry(5, 9, "bob", 2)}
}

// long makes so many entries, of three names and of all.
func long(count int) []api.Entry {
	var l []api.Entry
	for i := range count {
		l = append(l, entry(i+1, i/2, []string{"ann", "bob", "*", "cyd"}[i%4], i+1))
	}
	return l
}

func headWith(t *testing.T, key int, l []api.Entry, time int) string {
	t.Helper()
	s, err := feed.Make(key, l, time)
	if err != nil {
		t.Fatalf("head of %v at %d: %v", l, time, err)
	}
	return s
}

func head(t *testing.T, l []api.Entry, time int) string {
	t.Helper()
	return headWith(t, realm, l, time)
}

func pass(who string, epoch, from, until int) api.Ticket {
	return api.Ticket{Who: who, For: door, Epoch: epoch, From: from, Until: until, Serial: 1}
}

func sealed(t *testing.T, key int, a api.Ticket) string {
	t.Helper()
	s, err := ticket.Make(key, a)
	if err != nil {
		t.Fatalf("ticket.Make(%d, %v): %v", key, a, err)
	}
	return s
}

func sealedWords(t *testing.T, key int, line string) string {
	t.Helper()
	s, err := seal.Make(key, strings.Split(line, " "))
	if err != nil {
		t.Fatalf("seal.Make(%d, %q): %v", key, line, err)
	}
	return s
}

// state is all that a follower tells.
type state struct {
	head    string
	time    int
	entries []api.Entry
}

func (s state) same(o state) bool {
	return s.head == o.head && s.time == o.time && slices.Equal(s.entries, o.entries)
}

func stateOf(f *follow.Follower) state { return state{f.Head(), f.Time(), f.Entries()} }

// below asks of the entries alone: is an epoch below what one of them told of that person, or of all?
func (s state) below(who string, epoch int) bool {
	return slices.ContainsFunc(s.entries, func(e api.Entry) bool {
		return (e.Floor.Who == who || e.Floor.Who == "*") && epoch < e.Floor.Epoch
	})
}

// pair is a gate, and what it is to be.
type pair struct {
	*testing.T
	gate     *gate.Gate
	name     string
	key, old int
	want     state
}

func newPair(t *testing.T, name string, key, realm, old int) *pair {
	t.Helper()
	g, err := gate.New(name, key, realm, old)
	if g == nil || err != nil {
		t.Fatalf("New(%q, %d, %d, %d): %v, %v", name, key, realm, old, g, err)
	}
	p := &pair{t, g, name, key, old, state{time: -1}}
	p.check("New")
	return p
}

func newDoor(t *testing.T) *pair {
	t.Helper()
	return newPair(t, door, own, realm, old)
}

// having is a gate that has a feed, with a head of that time.
func having(t *testing.T, l []api.Entry, time, old int) *pair {
	t.Helper()
	p := newPair(t, door, own, realm, old)
	p.takes(head(t, l, time), time, l)
	return p
}

// wrongFresh tells what is wrong with the newest head, as P90 tells it.
func (p *pair) wrongFresh(now int) error {
	switch {
	case now < 0 || now > 1000000:
		return api.ErrBound
	case p.want.time == -1 || p.want.time+p.old < now:
		return api.ErrStale
	}
	return nil
}

// wrongAsk tells what is wrong with a right ticket, sealed with some key, as P91 tells it.
func (p *pair) wrongAsk(key int, a api.Ticket, now int) error {
	switch {
	case p.wrongFresh(now) != nil:
		return p.wrongFresh(now)
	case key != p.key:
		return api.ErrMark
	case a.For != p.name:
		return api.ErrName
	case now < a.From:
		return api.ErrEarly
	case now >= a.Until:
		return api.ErrLate
	case p.want.below(a.Who, a.Epoch):
		return api.ErrFloor
	}
	return nil
}

// check asks of what the gate has, and of its newest head about the edges.
func (p *pair) check(what string) {
	p.Helper()
	if got := stateOf(p.gate.Follower()); !got.same(p.want) {
		p.Fatalf("%s: %v, not %v", what, got, p.want)
	}
	edge := max(p.want.time, 0) + p.old
	for _, now := range []int{-1, 0, p.want.time, edge - 1, edge, edge + 1, api.MaxTime, api.MaxTime + 1} {
		if err := p.gate.Fresh(now); err != p.wrongFresh(now) {
			p.Fatalf("%s: Fresh(%d) of %v, %d old: %v, not %v", what, now, p.want, p.old, err, p.wrongFresh(now))
		}
	}
}

func (p *pair) takes(head string, time int, l []api.Entry) {
	p.Helper()
	if err := p.gate.Take(head, l); err != nil {
		p.Fatalf("Take(%q, %v): %v", head, l, err)
	}
	p.want = state{head, time, slices.Concat(p.want.entries, l)}
	p.check("Take")
}

// refuses wants that error itself, and nothing changed.
func (p *pair) refuses(head string, l []api.Entry, want error) {
	p.Helper()
	if err := p.gate.Take(head, l); err != want {
		p.Errorf("Take(%.60q, %.80q): %v, not %v", head, fmt.Sprint(l), err, want)
	}
	p.check("Take")
}

// answers wants that of a text: the ticket, or that error itself, with nothing beside it.
func (p *pair) answers(s string, now int, a api.Ticket, want error) {
	p.Helper()
	if want != nil {
		a = api.Ticket{}
	}
	if got, err := p.gate.Ask(s, now); got != a || err != want {
		p.Errorf("Ask(%.80q, %d) of %v: %v, %v, not %v, %v", s, now, p.want, got, err, a, want)
	}
}

// asks a right ticket, sealed with some key.
func (p *pair) asks(key int, a api.Ticket, now int) {
	p.Helper()
	p.answers(sealed(p.T, key, a), now, a, p.wrongAsk(key, a, now))
}

func (p *pair) rekeys(key int) {
	p.Helper()
	if err := p.gate.Rekey(key); err != nil {
		p.Fatalf("Rekey(%d): %v", key, err)
	}
	p.key = key
	p.check("Rekey")
}

// P90: every edge; nothing was taken, and nothing passes.
func TestNew(t *testing.T) {
	for _, name := range goodNames {
		for _, key := range goodKeys {
			for _, realm := range goodKeys {
				for _, old := range goodTimes {
					newPair(t, name, key, realm, old)
				}
			}
		}
	}
}

// P90 with P3: ErrName, ErrKey of both keys, ErrBound.
func TestNewErrorsInOrder(t *testing.T) {
	keys := slices.Concat(wrongKeys, []int{1, api.MaxKey})
	for _, name := range slices.Concat(wrongNames, []string{"a", door}) {
		for _, key := range keys {
			for _, realm := range keys {
				for _, old := range slices.Concat(wrongTimes, []int{0, api.MaxTime}) {
					var want error
					switch {
					case slices.Contains(wrongNames, name):
						want = api.ErrName
					case slices.Contains(wrongKeys, key) || slices.Contains(wrongKeys, realm):
						want = api.ErrKey
					case slices.Contains(wrongTimes, old):
						want = api.ErrBound
					}
					if g, err := gate.New(name, key, realm, old); (g == nil) != (want != nil) || err != want {
						t.Errorf("New(%.20q, %d, %d, %d): %v, %v, not %v", name, key, realm, old, g, err, want)
					}
				}
			}
		}
	}
}

// P90: as old as old, and not older; a head of later than now is none too old.
func TestFresh(t *testing.T) {
	for _, c := range []struct {
		time, old, now int
		want           error
	}{
		{10, 20, 10, nil}, {10, 20, 29, nil}, {10, 20, 30, nil}, {10, 20, 31, api.ErrStale}, {10, 20, api.MaxTime, api.ErrStale},
		{10, 20, 9, nil}, {10, 20, 0, nil}, {10, 0, 10, nil}, {10, 0, 9, nil}, {10, 0, 11, api.ErrStale}, {0, 0, 0, nil}, {0, 0, 1, api.ErrStale},
		{0, 1, 1, nil}, {0, 1, 2, api.ErrStale}, {0, api.MaxTime, api.MaxTime, nil}, {0, api.MaxTime - 1, api.MaxTime - 1, nil}, {0, api.MaxTime - 1, api.MaxTime, api.ErrStale},
		{api.MaxTime, 0, 0, nil}, {api.MaxTime, 0, api.MaxTime, nil}, {api.MaxTime - 1, 0, api.MaxTime, api.ErrStale}, {api.MaxTime, api.MaxTime, api.MaxTime, nil},
	} {
		p := having(t, nil, c.time, c.old)
		if err := p.gate.Fresh(c.now); err != c.want {
			t.Errorf("Fresh(%d), with one of %d, %d old: %v, not %v", c.now, c.time, c.old, err, c.want)
		}
	}
}

// P90: all small times.
func TestFreshOfAllSmall(t *testing.T) {
	for time := range 6 {
		for old := range 6 {
			p := having(t, nil, time, old)
			for now := -3; now < 15; now++ {
				if err := p.gate.Fresh(now); err != p.wrongFresh(now) {
					t.Errorf("Fresh(%d), with one of %d, %d old: %v", now, time, old, err)
				}
			}
		}
	}
}

// P90: no head at all is as bad as an old one, however old one may be.
func TestFreshWithNoHead(t *testing.T) {
	for _, old := range goodTimes {
		p := newPair(t, door, own, realm, old)
		for _, now := range goodTimes {
			if err := p.gate.Fresh(now); err != api.ErrStale {
				t.Errorf("Fresh(%d), with none, %d old: %v", now, old, err)
			}
			p.answers(sealed(t, own, pass("ann", 9, 0, api.MaxTime)), now, api.Ticket{}, api.ErrStale)
		}
	}
}

// P90 with P3: ErrBound of now goes ahead of ErrStale.
func TestFreshAtNoTime(t *testing.T) {
	for _, old := range goodTimes {
		gates := []*pair{newPair(t, door, own, realm, old)}
		for _, time := range goodTimes {
			gates = append(gates, having(t, nil, time, old))
		}
		for _, p := range gates {
			for _, now := range wrongTimes {
				if err := p.gate.Fresh(now); err != api.ErrBound {
					t.Errorf("Fresh(%d), of %v, %d old: %v", now, p.want, old, err)
				}
				p.answers("x", now, api.Ticket{}, api.ErrBound)
			}
		}
	}
}

// P90: it is the newest head whose time counts, though nothing else is new.
func TestFreshAnew(t *testing.T) {
	p := newDoor(t)
	for _, time := range []int{0, 0, 5, 25, 26, 1000, api.MaxTime - 1, api.MaxTime} {
		p.takes(head(t, nil, time), time, nil)
	}
	p = newDoor(t)
	for n, l := 0, long(most); n <= most; n++ {
		p.takes(head(t, l[:n], 30+n), 30+n, l[max(0, n-1):n])
	}
}

// P90: follow.Take's, in their order, bare; what the gate has stays, and how fresh it is.
func TestTakeErrors(t *testing.T) {
	l := tale()
	p := having(t, l[:3], 9, old)
	next := l[3:]
	right := head(t, l, 9)
	p.refuses("", next, api.ErrText)
	p.refuses("x", next, api.ErrText)
	p.refuses(right+" ", next, api.ErrText)
	p.refuses(sealed(t, realm, pass("ann", 1, 0, 9)), next, api.ErrText)
	p.refuses(strings.Repeat("a", api.MaxText+1), next, api.ErrBound)
	p.refuses(headWith(t, realm+1, l, 9), next, api.ErrMark)
	p.refuses(headWith(t, own, l, 9), next, api.ErrMark)
	p.refuses(head(t, l[:3], 8), nil, api.ErrLate)
	p.refuses(head(t, l[:3], 8), next, api.ErrLate) // ahead of ErrGap
	p.refuses(right, next[:1], api.ErrGap)
	p.refuses(right, next[1:], api.ErrGap)
	p.refuses(right, l, api.ErrGap)
	p.refuses(right, nil, api.ErrGap)
	p.refuses(head(t, l[:3], 9), next, api.ErrGap)
	p.refuses(right, []api.Entry{next[1], next[0]}, api.ErrGap)
	p.refuses(right, []api.Entry{next[0], entry(5, api.MaxTime+1, "ann", 9)}, api.ErrBound)
	p.refuses(right, []api.Entry{next[0], entry(5, 0, "ann", 9)}, api.ErrOrder)
	p.refuses(right, []api.Entry{next[0], entry(5, 9, "A", 9)}, api.ErrName)
	p.refuses(right, []api.Entry{next[0], entry(5, 9, "ann", 0)}, api.ErrBound)
	p.refuses(right, []api.Entry{next[0], entry(5, 9, "ann", 9)}, api.ErrMark)
	p.asks(own, pass("bob", 3, 0, 90), 9)
	p.asks(own, pass("bob", 4, 0, 90), 9)
	p.takes(right, 9, next)
}

// P90: what a gate takes is what a follower with the realm's key takes.
func TestTakeAsAFollower(t *testing.T) {
	full := long(most)
	var lists [][]api.Entry
	for _, n := range []int{0, 1, 2, 3, most} {
		for _, from := range []int{0, 1, 2, 3} {
			lists = append(lists, full[min(from, n):n])
		}
	}
	lists = append(lists, []api.Entry{{}}, []api.Entry{entry(1, 0, "A", 1)}, long(most + 1)[most:])
	for _, key := range []int{1, realm, api.MaxKey} {
		for _, first := range []int{0, 1, 2} {
			for _, l := range lists {
				for _, s := range []string{"x", headWith(t, key, full[:first], 40), headWith(t, key, full, 40), headWith(t, key, full[:2], 40), headWith(t, key, full[:3], 30), headWith(t, own, full[:2], 40)} {
					f, err := follow.New(key)
					if err != nil {
						t.Fatal(err)
					}
					p := newPair(t, door, own, key, old)
					p.takes(headWith(t, key, full[:first], 35), 35, full[:first])
					if err := f.Take(p.want.head, full[:first]); err != nil {
						t.Fatal(err)
					}
					wantErr := f.Take(s, l)
					p.want = stateOf(f)
					p.refuses(s, l, wantErr)
				}
			}
		}
	}
}

// P90 and P91: heads are opened with the realm's key, tickets with the service's, whether they are one or not.
func TestKeys(t *testing.T) {
	l := tale()
	a := pass("ann", 9, 0, 90)
	for _, key := range goodKeys {
		for _, ofRealm := range goodKeys {
			p := newPair(t, door, key, ofRealm, old)
			for _, other := range goodKeys {
				if other != ofRealm {
					p.refuses(headWith(t, other, l, 9), l, api.ErrMark)
				}
			}
			p.takes(headWith(t, ofRealm, l, 9), 9, l)
			for _, other := range goodKeys {
				p.asks(other, a, 9)
			}
		}
	}
}

// P90 and P91, as a tale, spelt out.
func TestByHand(t *testing.T) {
	g, err := gate.New("door", 5, 7, 20)
	if err != nil {
		t.Fatal(err)
	}
	const s = "ticket ann door 2 3 9 7 185608988"
	ann := api.Ticket{Who: "ann", For: "door", Epoch: 2, From: 3, Until: 9, Serial: 7}
	asks := func(s string, now int, a api.Ticket, want error) {
		t.Helper()
		if got, err := g.Ask(s, now); got != a || err != want {
			t.Fatalf("Ask(%q, %d): %v, %v", s, now, got, err)
		}
	}
	takes := func(head string, l []api.Entry, want error) {
		t.Helper()
		if err := g.Take(head, l); err != want {
			t.Fatalf("Take(%q): %v", head, err)
		}
	}
	l := []api.Entry{entry(1, 3, "ann", 2), entry(2, 7, "*", 3)}
	asks(s, 4, api.Ticket{}, api.ErrStale)
	takes(head(t, l[:1], 4), l[:1], nil)
	asks(s, 4, ann, nil)
	asks(s, 8, ann, nil)
	asks(s, 9, api.Ticket{}, api.ErrLate)
	asks(s, 2, api.Ticket{}, api.ErrEarly)
	asks(s, 24, api.Ticket{}, api.ErrLate)
	asks(s, 25, api.Ticket{}, api.ErrStale)
	asks("ticket ann door 2 3 9 7 185608987", 4, api.Ticket{}, api.ErrMark)
	asks("ticket ann gate 2 3 9 7 185608988", 4, api.Ticket{}, api.ErrMark)
	takes("head 2 9 19896222 568084945", l, api.ErrGap)
	takes("head 2 9 19896222 568084945", l[1:], nil)
	asks(s, 8, api.Ticket{}, api.ErrFloor)
	asks("ticket a b 1 0 0 1 690406596", 8, api.Ticket{}, api.ErrMark)
	if err := g.Rekey(1); err != nil {
		t.Fatal(err)
	}
	asks(s, 8, api.Ticket{}, api.ErrMark)
	asks("ticket a b 1 0 0 1 690406596", 8, api.Ticket{}, api.ErrName)
}

// text is what a gate is asked, and what is wrong with it as seal.Open or ticket.Open tells it.
type text struct {
	s    string
	want error
}

// textsOf makes a ticket's sealed text, and others that are as it, each with one more thing wrong.
func textsOf(t *testing.T, a api.Ticket) []text {
	t.Helper()
	line := func(epoch int, more string) string {
		return fmt.Sprintf("ticket %s %s %d %d %d %d%s", a.Who, a.For, epoch, a.From, a.Until, a.Serial, more)
	}
	right := sealed(t, own, a)
	return []text{
		{right, nil},
		{right + strings.Repeat("1", api.MaxText), api.ErrBound},
		{"", api.ErrText},
		{right + " ", api.ErrText},
		{strings.ReplaceAll(right, " ", "_"), api.ErrText},
		{sealed(t, own+1, a), api.ErrMark},
		{sealed(t, realm, a), api.ErrMark},
		{sealedWords(t, own+1, line(a.Epoch, " 1")), api.ErrMark},
		{sealedWords(t, own, line(a.Epoch, " 1")), api.ErrText},
		{sealedWords(t, own, strings.Replace(line(a.Epoch, ""), "ticket", "head", 1)), api.ErrText},
		{sealedWords(t, own, line(0, "")), api.ErrBound},
		{sealedWords(t, own, strings.Replace(line(0, ""), a.Who, "a-b", 1)), api.ErrName},
	}
}

// P91 with P3: each error goes ahead of all that are named behind it, whatever else is wrong.
func TestAskErrorsInOrder(t *testing.T) {
	told := map[error]int{}
	for _, time := range []int{-1, 9, 29, 30, 50, 90} {
		p := newDoor(t)
		if time >= 0 {
			p.takes(head(t, tale()[:3], time), time, tale()[:3])
		}
		for _, service := range []string{door, "gate", "doo", "doors", "ann"} {
			for _, epoch := range []int{1, 3, 4} {
				for _, span := range [][2]int{{0, 90}, {50, 51}, {51, 90}, {0, 50}, {50, 50}} {
					a := pass("bob", epoch, span[0], span[1])
					a.For = service
					for _, c := range textsOf(t, a) {
						for _, now := range []int{50, -1, api.MaxTime + 1} {
							want := p.wrongFresh(now)
							if want == nil {
								want = c.want
							}
							if want == nil {
								want = p.wrongAsk(own, a, now)
							}
							told[want]++
							p.answers(c.s, now, a, want)
						}
					}
				}
			}
		}
		p.check("Ask")
	}
	for _, want := range []error{nil, api.ErrBound, api.ErrStale, api.ErrText, api.ErrMark, api.ErrName, api.ErrEarly, api.ErrLate, api.ErrFloor} {
		if told[want] == 0 {
			t.Errorf("%v is never told", want)
		}
	}
}

// P91 and P92: all small tickets of three people, at all small times, ahead of floors and behind them.
func TestAskOfAllSmall(t *testing.T) {
	l := tale()
	passed := 0
	for n := range len(l) + 1 {
		p := having(t, l[:n], 9, 2)
		for _, who := range []string{"ann", "bob", "zed"} {
			for epoch := 1; epoch <= 5; epoch++ {
				for from := 7; from < 12; from++ {
					for until := from; until < 13; until++ {
						a := pass(who, epoch, from, until)
						s := sealed(t, own, a)
						for now := 6; now < 14; now++ {
							p.answers(s, now, a, p.wrongAsk(own, a, now))
							if p.wrongAsk(own, a, now) == nil {
								passed++
							}
						}
					}
				}
			}
		}
		p.check("Ask")
	}
	if passed < 100 {
		t.Error(passed, "passed")
	}
}

// P91: for another service, though its name begins alike, or it is the person's.
func TestAskForAnotherService(t *testing.T) {
	for _, name := range goodNames {
		p := newPair(t, name, own, realm, old)
		p.takes(head(t, nil, 9), 9, nil)
		for _, service := range append([]string{"doo", "doors", "oor", "abcdefg", "1234567"}, goodNames...) {
			for _, who := range goodNames {
				a := pass(who, 1, 0, 90)
				a.For = service
				p.asks(own, a, 9)
			}
		}
	}
}

// P91: from the first time to the last, of the least epoch and of the greatest.
func TestAskAtTheEdges(t *testing.T) {
	for _, epoch := range []int{1, 2, api.MaxNum - 1, api.MaxNum} {
		for _, least := range []int{1, 2, api.MaxNum - 1, api.MaxNum} {
			for _, who := range []string{"ann", "*"} {
				p := having(t, []api.Entry{entry(1, 0, who, least)}, 0, api.MaxTime)
				for _, now := range []int{0, 1, api.MaxTime - 1, api.MaxTime} {
					p.asks(own, pass("ann", epoch, 0, api.MaxTime), now)
					p.asks(own, pass("ann", epoch, api.MaxTime, api.MaxTime), now)
					p.asks(own, pass("ann", epoch, 0, 0), now)
					p.asks(own, pass("bob", epoch, 0, 1), now)
				}
			}
		}
	}
}

// P91: a gate does not tell whether a ticket was there before; asking changes nothing.
func TestAskAgain(t *testing.T) {
	p := having(t, tale(), 9, old)
	for range 3 {
		p.asks(own, pass("bob", 4, 0, 90), 10)
		p.asks(own, pass("bob", 3, 0, 90), 10)
		p.asks(own+1, pass("bob", 4, 0, 90), 10)
		p.asks(own, pass("bob", 4, 0, 90), 29)
		p.asks(own, pass("bob", 4, 0, 90), 30)
		p.check("Ask")
	}
}

// P91: a ticket with one byte another one is refused (chapter 2: as long as the mark begins where it began).
func TestAskOfChangedTicket(t *testing.T) {
	p := having(t, nil, 9, old)
	right := sealed(t, own, pass("ann", 2, 3, 90))
	for at := range len(right) {
		for b := range 256 {
			changed := right[:at] + string([]byte{byte(b)}) + right[at+1:]
			if changed == right || (b == ' ') != (right[at] == ' ') {
				continue
			}
			if a, err := p.gate.Ask(changed, 9); a != (api.Ticket{}) || err != api.ErrText && err != api.ErrMark {
				t.Fatalf("Ask(%q): %v, %v", changed, a, err)
			}
		}
	}
	p.asks(own, pass("ann", 2, 3, 90), 9)
}

// P91: with the new key alone; what was taken stays, and heads are of the realm's key as before.
func TestRekey(t *testing.T) {
	l := tale()
	for _, first := range goodKeys {
		p := newPair(t, door, first, realm, old)
		for i, key := range goodKeys {
			p.rekeys(key)
			time := 9 + i
			p.takes(head(t, l[:min(i, len(l))], time), time, l[len(p.want.entries):min(i, len(l))])
			for _, other := range goodKeys {
				p.asks(other, pass("ann", 9, 0, 90), time)
				p.asks(other, pass("ann", 1, 0, 90), time)
			}
			p.refuses(headWith(t, realm+1, l, 90), nil, api.ErrMark)
			p.rekeys(key) // the one it has
			p.asks(key, pass("ann", 9, 0, 90), time)
		}
	}
}

// P91: ErrKey, with no head and with one; the old key counts on.
func TestRekeyWithNone(t *testing.T) {
	for _, p := range []*pair{newDoor(t), having(t, tale(), 9, old)} {
		for _, key := range wrongKeys {
			if err := p.gate.Rekey(key); err != api.ErrKey {
				t.Errorf("Rekey(%d): %v", key, err)
			}
			p.check("Rekey")
			p.asks(own, pass("bob", 4, 0, 90), 9)
			p.asks(own+1, pass("bob", 4, 0, 90), 9)
		}
	}
}

// P91: what a copy takes is not the gate's, and what the gate takes is not the copy's.
func TestFollowerIsACopy(t *testing.T) {
	l := tale()
	p := newDoor(t)
	for n := range len(l) + 1 {
		time := 9 + n
		f := p.gate.Follower()
		was := stateOf(p.gate.Follower())
		if err := f.Take(head(t, l, 50), l[f.Seq():]); err != nil {
			t.Fatal(err)
		}
		p.check("a copy that takes")
		kept := p.gate.Follower()
		p.takes(head(t, l[:n], time), time, l[max(0, n-1):n])
		if got := stateOf(kept); !got.same(was) {
			t.Fatalf("%v, not %v", got, was)
		}
		if got := stateOf(f); got.time != 50 || len(got.entries) != len(l) {
			t.Fatal(got)
		}
		p.asks(own, pass("bob", 3, 0, 90), time)
	}
	entries := p.gate.Follower().Entries()
	for i := range entries {
		entries[i] = entry(-1, -1, "written", -1)
	}
	p.check("a list written to")
}

// P4 with P3: entries are only read, not behind their length, and not kept.
func TestGivenEntriesAreNotKept(t *testing.T) {
	room := append(tale(), entry(-7, -7, "behind", -7))
	before := slices.Clone(room)
	l := room[:len(room)-1]
	p := newDoor(t)
	p.refuses(headWith(t, own, l, 9), l, api.ErrMark)
	p.takes(head(t, l, 9), 9, l)
	p.takes(head(t, l, 10), 10, l[len(l):])
	if !slices.Equal(room, before) {
		t.Fatalf("%v, which was %v", room, before)
	}
	for i := range room {
		room[i] = entry(-1, -1, "written", -1)
	}
	p.check("entries written to")
	p.asks(own, pass("bob", 3, 0, 90), 9)
	p.asks(own, pass("bob", 4, 0, 90), 9)
}

// P2: gates have nothing in common, though they are made alike.
func TestGatesAreTheirOwn(t *testing.T) {
	a, b := newDoor(t), newDoor(t)
	other := newPair(t, "gate", own, realm, old)
	a.takes(head(t, tale(), 9), 9, tale())
	b.check("another gate's")
	b.takes(head(t, nil, 3), 3, nil)
	b.rekeys(own + 1)
	for _, p := range []*pair{a, b, other} {
		p.check("another gate's")
		for _, key := range []int{own, own + 1} {
			for _, service := range []string{door, "gate"} {
				ticket := pass("bob", 3, 0, 90)
				ticket.For = service
				p.asks(key, ticket, 9)
			}
		}
	}
}

// A copy is as the gate was; what is done to one is not done to the other.
func TestCopy(t *testing.T) {
	a := newDoor(t)
	fresh := *a
	fresh.gate = a.gate.Copy()
	fresh.check("of a new one")
	a.takes(head(t, tale()[:1], 9), 9, tale()[:1])
	fresh.check("a head of the other one's")
	b := *a
	b.gate = a.gate.Copy()
	b.check("copied")
	b.takes(head(t, tale(), 12), 12, tale()[1:])
	a.check("a head of the copy's")
	b.rekeys(own + 1)
	a.takes(head(t, tale()[:1], 15), 15, nil)
	for _, p := range []*pair{a, &b, &fresh} {
		p.check("copies")
		for _, key := range []int{own, own + 1} {
			for epoch := 1; epoch < 5; epoch++ {
				for _, now := range []int{9, 12 + old, 12 + old + 1, 15 + old, 15 + old + 1} {
					p.asks(key, pass("bob", epoch, 0, 90), now)
				}
			}
		}
	}
}

// P92: of a full feed, person by person, epoch by epoch, entry by entry; and once the head is old nothing at all passes.
func TestBelowAFloorNothingPasses(t *testing.T) {
	l := long(most)
	p := newDoor(t)
	for n := range most + 1 {
		time := n / 2
		p.takes(head(t, l[:n], time), time, l[max(0, n-1):n])
		for _, who := range []string{"ann", "bob", "cyd", "zed"} {
			for epoch := max(1, n-9); epoch <= n+2; epoch++ {
				a := pass(who, epoch, 0, api.MaxTime)
				p.asks(own, a, time)
				p.answers(sealed(t, own, a), time+old+1, a, api.ErrStale)
				if _, err := p.gate.Ask(sealed(t, own, a), time); err == nil && p.want.below(who, epoch) {
					t.Fatalf("%v passes %v", a, p.want)
				}
			}
		}
	}
}

// P90 to P92: through long walks, what a gate answers is what is told here, and what it refuses changes nothing.
func TestWalks(t *testing.T) {
	source := rand.New(rand.NewSource(7))
	told := map[error]int{}
	for range 150 {
		p := newPair(t, door, 1+source.Intn(3), realm, source.Intn(8))
		now := 0
		for range 80 {
			now += source.Intn(3)
			switch n := source.Intn(12); {
			case n < 3:
				p.takeMore(source, now)
			case n == 3:
				p.refuses(headWith(t, realm+1, nil, now), nil, api.ErrMark)
			case n == 4 && len(p.want.entries) > 0:
				p.refuses(head(t, nil, api.MaxTime), nil, api.ErrGap)
			case n == 5:
				p.rekeys(1 + source.Intn(3))
			default:
				a := randomTicket(source, now)
				key := p.key
				if source.Intn(8) == 0 {
					key = 1 + source.Intn(3)
				}
				told[p.wrongAsk(key, a, now)]++
				p.asks(key, a, now)
			}
		}
	}
	for _, want := range []error{nil, api.ErrStale, api.ErrMark, api.ErrName, api.ErrEarly, api.ErrLate, api.ErrFloor} {
		if told[want] < 100 {
			t.Errorf("%v is told %d times", want, told[want])
		}
	}
}

// takeMore takes up to two entries more, with a head of about now, if it is not too early.
func (p *pair) takeMore(source *rand.Rand, now int) {
	p.Helper()
	time := max(now-source.Intn(3), p.want.time, 0)
	l := p.want.entries
	for range source.Intn(3) {
		more, err := feed.Add(l, time, api.Floor{Who: []string{"*", "ann", "bob", "cyd"}[source.Intn(4)], Epoch: 1 + source.Intn(6)})
		if err == nil {
			l = more
		}
	}
	p.takes(head(p.T, l, time), time, l[len(p.want.entries):])
}

// randomTicket is mostly good.
func randomTicket(source *rand.Rand, now int) api.Ticket {
	a := pass([]string{"ann", "bob", "cyd", "zed"}[source.Intn(4)], 1+source.Intn(7), max(0, now-source.Intn(5)), now+1+source.Intn(5))
	switch source.Intn(12) {
	case 0:
		a.For = "gate"
	case 1:
		a.From, a.Until = now+1, now+9
	case 2:
		a.From, a.Until = 0, now
	}
	return a
}

// P1, P2 and P90 to P92: look for more, among gates of any make, asked any text, and a ticket of theirs.
func FuzzGates(f *testing.F) {
	f.Add(door, own, realm, old, 9, 9, "x", "ann", 2, 0, 90)
	f.Add(door, own, realm, old, 9, 29, "ticket ann door 2 3 9 7 185608988", "bob", 3, 0, 90)
	f.Add("A", 0, 0, -1, -1, -1, "", "", 0, 0, 0)
	f.Add("a", 1, api.MaxKey, api.MaxTime, api.MaxTime, api.MaxTime, strings.Repeat("a", 4001), "zed", api.MaxNum, 0, api.MaxTime)
	f.Add("a", 1, 0, 5, 3, 4, "", "zed", 1, 0, 9)
	f.Add("a", 1, 1, api.MaxTime+1, 3, 4, "", "zed", 1, 0, 9)
	f.Fuzz(func(t *testing.T, name string, key, ofRealm, old, time, now int, s, who string, epoch, from, until int) {
		g, err := gate.New(name, key, ofRealm, old)
		var want error
		switch {
		case !seal.Name(name):
			want = api.ErrName
		case min(key, ofRealm) < 1 || max(key, ofRealm) > api.MaxKey:
			want = api.ErrKey
		case old < 0 || old > api.MaxTime:
			want = api.ErrBound
		}
		if (g == nil) != (want != nil) || err != want {
			t.Fatalf("New(%q, %d, %d, %d): %v, %v, not %v", name, key, ofRealm, old, g, err, want)
		}
		if g == nil {
			return
		}
		p := &pair{t, g, name, key, old, state{time: -1}}
		p.check("New")
		if h, err := feed.Make(ofRealm, tale(), time); err == nil {
			p.takes(h, time, tale())
		}
		if a, err := ticket.Open(key, s); err == nil {
			p.answers(s, now, a, p.wrongAsk(key, a, now))
		} else if fresh := p.wrongFresh(now); fresh != nil {
			p.answers(s, now, a, fresh)
		} else {
			p.answers(s, now, a, err)
		}
		a := api.Ticket{Who: who, For: name, Epoch: epoch, From: from, Until: until, Serial: 1}
		if ticket.Check(a) == nil {
			p.asks(key, a, now)
		}
		p.check("Ask")
	})
}
