package session_test

import (
	"errors"
	"fmt"
	"math"
	"math/rand"
	"regexp"
	"slices"
	"strings"
	"testing"

	"keyholder/api"
	"keyholder/session"
)

const most = 40 // sessions that are open

var (
	isName = regexp.MustCompile(`\A[a-z0-9]{1,8}\z`)

	wrongTimes = []int{-1, -2, api.MaxTime + 1, api.MaxTime + 2, 1 << 40, math.MinInt, math.MaxInt}
	goodTimes  = []int{0, 1, 2, 5, 50, api.MaxTime / 2, api.MaxTime - 1, api.MaxTime}
	noNumbers  = []int{0, -1, -2, 1 << 40, math.MinInt, math.MaxInt}
)

func pass(who string, epoch, from, until int) api.Ticket {
	return api.Ticket{Who: who, For: "door", Epoch: epoch, From: from, Until: until, Serial: 1}
}

func floorOf(who string, epoch int) api.Floor { return api.Floor{Who: who, Epoch: epoch} }

// wrongTickets are ones that are never good, with why.
func wrongTickets() map[api.Ticket]error {
	wrong := map[api.Ticket]error{{}: api.ErrName}
	for _, name := range []string{"", "A", "*", "a b", "abcdefghi", "é"} {
		a, b := pass(name, 0, 9, 3), pass("ann", 1, 0, 50)
		b.For = name
		wrong[a], wrong[b] = api.ErrName, api.ErrName
	}
	for _, n := range []int{0, -1, api.MaxNum + 1, math.MinInt, math.MaxInt} {
		a := pass("ann", 1, 0, 50)
		a.Serial = n
		wrong[a], wrong[pass("ann", n, 0, 50)] = api.ErrBound, api.ErrBound
	}
	for _, n := range wrongTimes {
		wrong[pass("ann", 1, n, 50)], wrong[pass("ann", 1, 0, n)] = api.ErrBound, api.ErrBound
	}
	wrong[pass("ann", 1, 9, 8)] = api.ErrBound
	return wrong
}

// wrongFloors are lists that are not right, each with why, and where (-1: bare).
type wrongFloors struct {
	list []api.Floor
	want error
	at   int
}

func floorsThatAreNot() []wrongFloors {
	many := []api.Floor{floorOf("*", 1)}
	for i := range api.MaxPeople + 1 {
		many = append(many, floorOf(fmt.Sprintf("n%02d", i), 9))
	}
	return []wrongFloors{
		{many, api.ErrFull, -1},
		{slices.Repeat([]api.Floor{{}}, 22), api.ErrFull, -1},
		{[]api.Floor{{}}, api.ErrName, 0},
		{[]api.Floor{floorOf("ann", 9), floorOf("B", 9)}, api.ErrName, 1},
		{[]api.Floor{floorOf("*", 9), floorOf("ann", 99), floorOf("bob", 0)}, api.ErrBound, 2},
		{[]api.Floor{floorOf("ann", api.MaxNum+1)}, api.ErrBound, 0},
		{[]api.Floor{floorOf("bob", 9), floorOf("ann", 9)}, api.ErrOrder, 1},
		{[]api.Floor{floorOf("ann", 9), floorOf("ann", 9)}, api.ErrOrder, 1},
		{[]api.Floor{floorOf("ann", 9), floorOf("*", 8)}, api.ErrOrder, 1},
		{[]api.Floor{floorOf("*", 9), floorOf("ann", 9)}, api.ErrShape, 1},
		{[]api.Floor{floorOf("*", 9), floorOf("ann", 10), floorOf("bob", 8)}, api.ErrShape, 2},
	}
}

// held is a session that is open.
type held struct {
	number int
	ticket api.Ticket
}

// pair is a desk, and what it is to be: a list, in the order in which sessions were opened.
type pair struct {
	*testing.T
	desk *session.Desk
	last int
	want []held
}

func newPair(t *testing.T) *pair {
	t.Helper()
	p := &pair{t, session.New(), 0, nil}
	p.check("New")
	return p
}

// having is a desk at which these were opened, all at one time.
func having(t *testing.T, now int, tickets ...api.Ticket) *pair {
	t.Helper()
	p := newPair(t)
	for _, a := range tickets {
		p.opens(a, now)
	}
	return p
}

// copied is a copy, with what that is to be.
func (p *pair) copied() *pair { return &pair{p.T, p.desk.Copy(), p.last, slices.Clone(p.want)} }

func numbersOf(l []held) []int {
	var numbers []int
	for _, h := range l {
		numbers = append(numbers, h.number)
	}
	return numbers
}

// wrong tells why a ticket is not good, as P41 tells it.
func wrong(a api.Ticket, now int) error {
	switch {
	case !isName.MatchString(a.Who) || !isName.MatchString(a.For):
		return api.ErrName
	case min(a.Epoch, a.Serial) < 1 || max(a.Epoch, a.Serial) > 1<<30 || a.From < 0 || a.Until < a.From || a.Until > 1000000 || now < 0 || now > 1000000:
		return api.ErrBound
	case now < a.From:
		return api.ErrEarly
	case now >= a.Until:
		return api.ErrLate
	}
	return nil
}

// below: is a ticket's epoch, by one of these?
func below(l []api.Floor, a api.Ticket) bool {
	return slices.ContainsFunc(l, func(f api.Floor) bool {
		return (f.Who == a.Who || f.Who == "*") && a.Epoch < f.Epoch
	})
}

// check asks which sessions are open, and no more than that.
func (p *pair) check(what string) {
	p.Helper()
	if got, want := p.desk.All(), numbersOf(p.want); !slices.Equal(got, want) {
		p.Fatalf("%s: %v, not %v", what, got, want)
	}
}

// checkTickets asks of all of them, of each that was ever open, and of some that never were.
func (p *pair) checkTickets(now int) {
	p.Helper()
	for n := range p.last + 2 {
		p.asks(n, now)
	}
	for _, n := range noNumbers {
		p.asks(n, now)
	}
	p.check("Ask")
}

// opens tells what is answered, which is what P110 tells.
func (p *pair) opens(a api.Ticket, now int) error {
	p.Helper()
	want, number := wrong(a, now), 0
	if want == nil && len(p.want) == most {
		want = api.ErrFull
	}
	if want == nil {
		p.last++
		number = p.last
		p.want = append(p.want, held{number, a})
	}
	if n, err := p.desk.Open(a, now); n != number || err != want {
		p.Fatalf("Open(%v, %d) with %d open: %d, %v, not %d, %v", a, now, len(p.want), n, err, number, want)
	}
	p.check("Open")
	return want
}

// asks tells what is answered, which is what P110 tells.
func (p *pair) asks(n, now int) error {
	p.Helper()
	var ticket api.Ticket
	want := api.ErrNone
	for _, h := range p.want {
		if h.number == n {
			ticket, want = h.ticket, wrong(h.ticket, now)
		}
	}
	if want != nil {
		ticket = api.Ticket{}
	}
	if got, err := p.desk.Ask(n, now); got != ticket || err != want {
		p.Fatalf("Ask(%d, %d) of %v: %v, %v, not %v, %v", n, now, p.want, got, err, ticket, want)
	}
	return want
}

// closes tells what is answered, which is what P110 tells.
func (p *pair) closes(n int) error {
	p.Helper()
	left := slices.DeleteFunc(slices.Clone(p.want), func(h held) bool { return h.number == n })
	var want error
	if len(left) == len(p.want) {
		want = api.ErrNone
	}
	if err := p.desk.Close(n); err != want {
		p.Fatalf("Close(%d) of %v: %v, not %v", n, numbersOf(p.want), err, want)
	}
	p.want = left
	p.check(fmt.Sprintf("Close(%d)", n))
	return want
}

// sweeps by right floors tells which sessions end, which are those that P110 tells.
func (p *pair) sweeps(l []api.Floor, now int) []int {
	p.Helper()
	var left, gone []held
	for _, h := range p.want {
		if wrong(h.ticket, now) != nil || below(l, h.ticket) {
			gone = append(gone, h)
		} else {
			left = append(left, h)
		}
	}
	want := numbersOf(gone)
	got, err := p.desk.Sweep(l, now)
	if !slices.Equal(got, want) || err != nil {
		p.Fatalf("Sweep(%v, %d) of %v: %v, %v, not %v", l, now, p.want, got, err, want)
	}
	p.want = left
	p.check("Sweep")
	return want
}

// refuses wants that error of Sweep, with its place (-1: bare), and nothing changed.
func (p *pair) refuses(l []api.Floor, now int, want error, at int) {
	p.Helper()
	got, err := p.desk.Sweep(l, now)
	var fault *api.Fault
	if errors.As(err, &fault) {
		if fault.At != at || fault.Err != want {
			p.Errorf("Sweep(%.80q, %d): %v at %d, not %v at %d", fmt.Sprint(l), now, err, fault.At, want, at)
		}
	} else if err != want || at != -1 {
		p.Errorf("Sweep(%.80q, %d): %v, not %v at %d", fmt.Sprint(l), now, err, want, at)
	}
	if len(got) > 0 {
		p.Errorf("Sweep(%.80q, %d): %v beside %v", fmt.Sprint(l), now, got, err)
	}
	p.check("Sweep")
}

// P110, as a tale, spelt out.
func TestByHand(t *testing.T) {
	d := session.New()
	for i, a := range []api.Ticket{pass("ann", 2, 0, 50), pass("bob", 1, 3, 20), pass("ann", 3, 0, 50), pass("cyd", 9, 5, 6)} {
		if n, err := d.Open(a, 5); n != i+1 || err != nil {
			t.Fatal(i, n, err)
		}
	}
	for i, c := range []struct {
		n, now int
		who    string
		want   error
	}{
		{1, 5, "ann", nil}, {2, 3, "bob", nil}, {2, 2, "", api.ErrEarly}, {2, 19, "bob", nil}, {2, 20, "", api.ErrLate},
		{2, -1, "", api.ErrBound}, {5, 5, "", api.ErrNone}, {5, -1, "", api.ErrNone}, {0, 5, "", api.ErrNone}, {4, 5, "cyd", nil}, {4, 6, "", api.ErrLate},
	} {
		if a, err := d.Ask(c.n, c.now); a.Who != c.who || err != c.want {
			t.Error(i, a, err)
		}
	}
	for i, c := range []struct {
		floors    []api.Floor
		now       int
		end, left string
	}{
		{nil, 5, "[]", "[1 2 3 4]"},
		{[]api.Floor{floorOf("ann", 2), floorOf("bob", 1), floorOf("cyd", 9), floorOf("eve", 99)}, 5, "[]", "[1 2 3 4]"},
		{nil, 6, "[4]", "[1 2 3]"},
		{[]api.Floor{floorOf("ann", 3)}, 19, "[1]", "[2 3]"},
		{[]api.Floor{floorOf("*", 3)}, 20, "[2]", "[3]"},
		{[]api.Floor{floorOf("*", 3), floorOf("ann", 4)}, 20, "[3]", "[]"},
		{[]api.Floor{floorOf("*", 3), floorOf("ann", 4)}, 20, "[]", "[]"},
	} {
		if l, err := d.Sweep(c.floors, c.now); fmt.Sprint(l) != c.end || err != nil || fmt.Sprint(d.All()) != c.left {
			t.Error(i, l, err, d.All())
		}
	}
	if n, err := d.Open(pass("bob", 1, 3, 20), 5); n != 5 || err != nil {
		t.Error(n, err)
	}
	if err := d.Close(5); err != nil || len(d.All()) != 0 {
		t.Error(err, d.All())
	}
	if err := d.Close(5); err != api.ErrNone {
		t.Error(err)
	}
}

// P110: at a new desk nothing is open, and nothing ends.
func TestNew(t *testing.T) {
	p := newPair(t)
	p.checkTickets(5)
	for _, n := range noNumbers {
		p.closes(n)
	}
	for _, now := range goodTimes {
		p.sweeps(nil, now)
		p.sweeps([]api.Floor{floorOf("*", api.MaxNum)}, now)
	}
	p.refuses(nil, -1, api.ErrBound, -1)
	if err := p.opens(pass("ann", 1, 0, 1), 0); err != nil {
		t.Error(err)
	}
}

// P110: every edge of tickets and times; the ticket is told as it came.
func TestOpenAndAsk(t *testing.T) {
	last := api.Ticket{Who: "abcdefgh", For: "12345678", Epoch: api.MaxNum, From: api.MaxTime - 1, Until: api.MaxTime, Serial: api.MaxNum}
	for _, a := range []api.Ticket{pass("a", 1, 0, 1), pass("ann", 7, 3, 9), pass("9", api.MaxNum, 0, api.MaxTime), pass("ann", 1, 5, 5), pass("ann", 1, api.MaxTime, api.MaxTime), last} {
		for _, now := range slices.Concat(wrongTimes, goodTimes, []int{3, 4, 8, 9}) {
			p := newPair(t)
			if p.opens(a, now) != nil {
				continue
			}
			for _, then := range slices.Concat(wrongTimes, goodTimes, []int{3, 4, 8, 9}) {
				p.checkTickets(then)
			}
			p.closes(1)
			p.checkTickets(now)
		}
	}
}

// P110: all small times.
func TestAllSmall(t *testing.T) {
	for from := -1; from < 6; from++ {
		for until := -1; until < 6; until++ {
			for now := -1; now < 6; now++ {
				for then := -1; then < 7; then++ {
					p := having(t, 2, pass("bob", 1, 2, 3))
					p.opens(pass("ann", 1, from, until), now)
					p.asks(1, then)
					p.asks(2, then)
					if then >= 0 {
						p.sweeps(nil, then)
					}
					p.checkTickets(2)
				}
			}
		}
	}
}

// P110 with P3: a ticket that is wrong goes ahead of a wrong time, that ahead of ErrEarly and ErrLate, and these ahead of ErrFull; no number is lost.
func TestOpenErrorsInOrder(t *testing.T) {
	told := map[error]int{}
	tickets := wrongTickets()
	for _, a := range []api.Ticket{pass("ann", 1, 10, 20), pass("ann", 1, 10, 10), pass("ann", 1, 0, api.MaxTime)} {
		tickets[a] = nil
	}
	filled := slices.Repeat([]api.Ticket{pass("bob", 1, 10, 20)}, most)
	for _, many := range []int{0, 1, most - 1, most} {
		for a, want := range tickets {
			for _, now := range slices.Concat(wrongTimes, []int{0, 9, 10, 19, 20, api.MaxTime}) {
				p := having(t, 10, filled[:many]...)
				err := p.opens(a, now)
				if want != nil && err != want {
					t.Errorf("Open(%v, %d): %v, not %v", a, now, err, want)
				}
				p.opens(pass("cyd", 1, 10, 20), 10)
				told[err]++
			}
		}
	}
	for _, want := range []error{nil, api.ErrName, api.ErrBound, api.ErrEarly, api.ErrLate, api.ErrFull} {
		if told[want] == 0 {
			t.Errorf("%v is never told", want)
		}
	}
}

// P110 with P3: ErrNone, then ErrBound, ErrEarly and ErrLate; what is asked for stays.
func TestAskErrorsInOrder(t *testing.T) {
	told := map[error]int{}
	p := having(t, 10, pass("ann", 1, 10, 20), pass("bob", 2, 0, 50), pass("cyd", 3, 10, 11))
	p.closes(2)
	for _, n := range slices.Concat(noNumbers, []int{1, 2, 3, 4}) {
		for _, now := range slices.Concat(wrongTimes, []int{0, 9, 10, 11, 19, 20, api.MaxTime}) {
			told[p.asks(n, now)]++
			p.check("Ask")
		}
	}
	for _, want := range []error{nil, api.ErrNone, api.ErrBound, api.ErrEarly, api.ErrLate} {
		if told[want] == 0 {
			t.Errorf("%v is never told", want)
		}
	}
}

// P110: one closes alone, whatever its ticket is worth by now; a second time it is none.
func TestClose(t *testing.T) {
	for n := -1; n < 7; n++ {
		p := having(t, 10, pass("ann", 1, 10, 11), pass("ann", 1, 10, 11), pass("bob", 1, 0, 50), pass("cyd", 1, 10, 90), pass("ann", 1, 10, 11))
		var want error
		if n < 1 || n > 5 {
			want = api.ErrNone
		}
		if err := p.closes(n); err != want {
			t.Errorf("Close(%d): %v", n, err)
		}
		if err := p.closes(n); err != api.ErrNone {
			t.Errorf("Close(%d) again: %v", n, err)
		}
		p.checkTickets(10)
		p.opens(pass("eve", 1, 0, 50), 10)
		p.checkTickets(10)
	}
	for _, n := range noNumbers {
		having(t, 10, pass("ann", 1, 10, 11)).closes(n)
	}
}

// P110: a number is not given again, whichever ended, and however; one that was refused takes none.
func TestNumbers(t *testing.T) {
	p := newPair(t)
	for i := range 200 {
		p.opens(pass("ann", 1, 0, 10), 10)
		p.opens(api.Ticket{}, 5)
		p.opens(pass("ann", 1, 0, 10), 5)
		if p.last != i+1 {
			t.Fatal(p.last)
		}
		switch i % 4 {
		case 0:
			p.closes(p.last)
		case 1:
			p.sweeps(nil, 10)
		case 2:
			p.sweeps([]api.Floor{floorOf("ann", 2)}, 5)
		}
		p.refuses(nil, -1, api.ErrBound, -1)
	}
}

// P110: MaxHeld are open, and no more, though no ticket of them is good by now; when one ends, there is room again.
func TestFull(t *testing.T) {
	p := newPair(t)
	for i := range most {
		if err := p.opens(pass("ann", i+1, 0, 10), 5); err != nil || len(p.desk.All()) != i+1 {
			t.Fatal(i, err)
		}
	}
	for _, now := range []int{5, 9, 10, 20} {
		if err := p.opens(pass("bob", 1, 0, 50), now); err != api.ErrFull {
			t.Errorf("%d: %v", now, err)
		}
	}
	for _, n := range []int{1, 40, 17} {
		p.closes(n)
		if err := p.opens(pass("bob", 1, 0, 50), 5); err != nil {
			t.Error(err)
		}
		if err := p.opens(pass("bob", 1, 0, 50), 5); err != api.ErrFull {
			t.Error(err)
		}
	}
	p.sweeps([]api.Floor{floorOf("ann", 11)}, 5)
	for range 9 {
		p.opens(pass("bob", 1, 0, 50), 5)
	}
	p.sweeps(nil, 10)
	for range most {
		p.opens(pass("bob", 1, 0, 50), 10)
	}
	p.checkTickets(10)
	if len(p.want) != most {
		t.Error(len(p.want))
	}
}

// P110 and P111: what is late ends, what is early too, and what is below a floor of its person, or of all; nothing else does.
func TestSweep(t *testing.T) {
	tickets := []api.Ticket{pass("ann", 1, 0, 90), pass("bob", 3, 10, 20), pass("ann", 3, 0, 11), pass("an", 2, 5, 50), pass("cyd", 4, 10, 11), pass("anna", 1, 9, 90), pass("ann", 2, 10, 12), pass("bob", 5, 0, 90), pass("ann", api.MaxNum, 10, api.MaxTime)}
	lists := [][]api.Floor{
		nil, {},
		{floorOf("*", 1)}, {floorOf("*", 2)}, {floorOf("*", 3)}, {floorOf("*", 5)}, {floorOf("*", api.MaxNum)},
		{floorOf("ann", 1)}, {floorOf("ann", 2)}, {floorOf("ann", 3)}, {floorOf("ann", api.MaxNum)},
		{floorOf("bob", 4)}, {floorOf("an", 2), floorOf("anna", 2)}, {floorOf("an", 3), floorOf("bob", 6), floorOf("eve", 9)},
		{floorOf("*", 2), floorOf("ann", 3)}, {floorOf("*", 2), floorOf("bob", 4), floorOf("cyd", 5)}, {floorOf("*", 4), floorOf("0", 9), floorOf("bob", 5)},
	}
	for _, l := range lists {
		for _, now := range []int{0, 4, 5, 8, 9, 10, 11, 12, 19, 20, 49, 50, 89, 90, api.MaxTime - 1, api.MaxTime} {
			p := having(t, 10, tickets...)
			p.sweeps(l, now)
			p.checkTickets(now)
			p.checkTickets(10)
			if again := p.sweeps(l, now); len(again) > 0 {
				t.Errorf("%v end in a second sweep", again)
			}
			p.sweeps(nil, 10)
		}
	}
}

// P110 with P3: floor.Check's, with its place, and then ErrBound; nothing ends, though nothing would stay.
func TestSweepErrorsInOrder(t *testing.T) {
	for _, w := range floorsThatAreNot() {
		for _, now := range slices.Concat(wrongTimes, goodTimes) {
			p := having(t, 10, pass("ann", 1, 10, 11), pass("bob", 1, 0, 50), pass("zoe", 1, 10, 11))
			p.refuses(w.list, now, w.want, w.at)
			p.checkTickets(10)
		}
	}
	for _, l := range [][]api.Floor{nil, {}, {floorOf("*", 9)}, {floorOf("*", 1), floorOf("ann", 2)}} {
		for _, now := range wrongTimes {
			p := having(t, 10, pass("ann", 1, 10, 11), pass("bob", 1, 0, 50))
			p.refuses(l, now, api.ErrBound, -1)
			p.checkTickets(10)
		}
	}
}

// P110: as many floors as there may be.
func TestSweepByManyFloors(t *testing.T) {
	l := []api.Floor{floorOf("*", 5)}
	for i := range api.MaxPeople {
		l = append(l, floorOf(fmt.Sprintf("n%02d", i), 6+i))
	}
	p := newPair(t)
	for i := range most {
		p.opens(pass(fmt.Sprintf("n%02d", i/2), 5+i/2+i%2, 0, 50), 5)
	}
	if n := len(p.sweeps(l, 5)); n != most/2 {
		t.Error(n)
	}
	p.opens(pass("other", 4, 0, 50), 5)
	p.opens(pass("other", 5, 0, 50), 5)
	if got := p.sweeps(l, 5); !slices.Equal(got, []int{41}) {
		t.Error(got)
	}
}

// P110 with P2: numbers rise, with whatever gaps, each time anew.
func TestNumbersRise(t *testing.T) {
	for seed := range int64(20) {
		source := rand.New(rand.NewSource(seed))
		p := newPair(t)
		for range 200 {
			p.opens(pass("ann", 1+source.Intn(2), 0, 10), 5)
			if len(p.want) > 20 {
				p.closes(p.want[source.Intn(20)].number)
			}
		}
		for range 3 {
			p.copied().sweeps(nil, 10)
			p.copied().sweeps([]api.Floor{floorOf("ann", 2)}, 5)
			p.check("again")
		}
	}
}

// P110: what is done to a copy is not done to the first, nor the other way round; its numbers go on.
func TestCopy(t *testing.T) {
	a := having(t, 10, pass("ann", 1, 10, 20), pass("bob", 2, 0, 50), pass("cyd", 3, 10, 11))
	a.closes(3)
	b := a.copied()
	b.check("Copy")
	c := b.copied()
	a.opens(pass("eve", 4, 10, 20), 10)
	b.opens(pass("dan", 5, 10, 30), 10)
	b.closes(1)
	c.sweeps(nil, 20)
	for _, p := range []*pair{a, b, c} {
		p.checkTickets(10)
	}
	c.opens(pass("fay", 6, 10, 40), 10)
	a.sweeps([]api.Floor{floorOf("*", 9)}, 10)
	for _, p := range []*pair{a, b, c} {
		p.checkTickets(10)
	}
	d := newPair(t).copied()
	d.opens(pass("ann", 1, 10, 20), 10)
	d.checkTickets(10)
	e := d.copied()
	d.closes(1)
	e.checkTickets(10)
	e.opens(pass("ann", 1, 10, 20), 10)
	d.opens(pass("ann", 1, 10, 20), 10)
	d.checkTickets(10)
}

// P110: a full desk's copy is full.
func TestCopyOfFull(t *testing.T) {
	p := having(t, 10, slices.Repeat([]api.Ticket{pass("ann", 1, 10, 20)}, most)...)
	c := p.copied()
	c.opens(pass("ann", 1, 10, 20), 10)
	p.closes(4)
	c.opens(pass("ann", 1, 10, 20), 10)
	p.opens(pass("ann", 1, 10, 20), 10)
	c.check("Copy")
	c.checkTickets(10)
}

// P3 and P4: floors are read, and no more; what lies behind a list is not; what is answered is its owner's.
func TestMemory(t *testing.T) {
	behind := []api.Floor{floorOf("ann", 2), floorOf("bob", 9), floorOf("bob", 9)}
	before := slices.Clone(behind)
	p := having(t, 10, pass("ann", 1, 10, 20), pass("bob", 2, 10, 20), pass("ann", 1, 10, 20), pass("ann", 2, 10, 20))
	all, other := p.desk.All(), p.desk.All()
	ended := p.sweeps(behind[:1], 10)
	if !slices.Equal(behind, before) || !slices.Equal(ended, []int{1, 3}) {
		t.Error(behind, ended)
	}
	all[0], all[3] = 77, 78
	_ = append(all[:1], 79)
	if !slices.Equal(other, []int{1, 2, 3, 4}) {
		t.Error(other)
	}
	behind[0] = floorOf("ann", 99)
	p.checkTickets(10)
	got, err := p.desk.Sweep(nil, 20)
	if !slices.Equal(got, []int{2, 4}) || err != nil {
		t.Fatal(got, err)
	}
	got[0] = 1
	if l := p.desk.All(); len(l) > 0 {
		t.Error(l)
	}
}

// P2: desks have nothing in common.
func TestTheyAreTheirOwn(t *testing.T) {
	a, b := newPair(t), newPair(t)
	a.opens(pass("ann", 1, 10, 20), 10)
	a.opens(pass("ann", 1, 10, 20), 10)
	b.check("another one's")
	b.opens(pass("bob", 1, 10, 20), 10)
	b.sweeps([]api.Floor{floorOf("bob", 2)}, 10)
	a.checkTickets(10)
	b.checkTickets(10)
}

func smallFloors(source *rand.Rand) []api.Floor {
	var l []api.Floor
	least := source.Intn(5)
	if least > 0 {
		l = append(l, floorOf("*", least))
	}
	for _, who := range []string{"ann", "bob", "cyd"} {
		if source.Intn(3) == 0 {
			l = append(l, floorOf(who, least+1+source.Intn(4)))
		}
	}
	return l
}

// P110 and P111: through long walks what is answered is what is told here; behind each sweep all that are open are good, and pass.
func TestWalks(t *testing.T) {
	told := map[error]int{}
	for seed := range int64(80) {
		source := rand.New(rand.NewSource(seed))
		p := newPair(t)
		now, ended := 0, 0
		for range 400 {
			from := max(0, now+source.Intn(12)-6)
			a := pass([]string{"ann", "bob", "cyd", "eve"}[source.Intn(4)], 1+source.Intn(9), from, from+source.Intn(40))
			switch source.Intn(20) {
			case 0:
				now += source.Intn(6)
			case 1:
				now = max(0, now-source.Intn(3))
			case 2, 3:
				told[p.closes(source.Intn(p.last+2))]++
			case 4:
				p.checkTickets(now)
			case 5:
				l := smallFloors(source)
				ended += len(p.sweeps(l, now))
				for _, n := range p.desk.All() {
					got, err := p.desk.Ask(n, now)
					if err != nil || below(l, got) {
						t.Fatalf("%d is open behind a sweep by %v at %d: %v, %v", n, l, now, got, err)
					}
				}
			case 6:
				p = p.copied()
			default:
				told[p.opens(a, now)]++
			}
		}
		if ended == 0 {
			t.Errorf("none end in walk %d", seed)
		}
	}
	for _, want := range []error{nil, api.ErrEarly, api.ErrLate, api.ErrNone, api.ErrFull} {
		if told[want] < 50 {
			t.Errorf("%v is told %d times", want, told[want])
		}
	}
}

// P1, P2, P110 and P111: look for more, of any ticket and time, behind others, and ahead of them.
func FuzzDesks(f *testing.F) {
	f.Add("ann", "door", 1, 0, 50, 7, 5, 1, []byte{1, 2, 3, 4, 5, 6})
	f.Add("", "", 0, 0, 0, 0, -1, 0, []byte{})
	f.Add("A", "*", -1, 9, 8, 1<<31, api.MaxTime, -7, []byte{0, 0, 0, 7, 0, 0, 8, 1, 1})
	f.Add("abcdefgh", "12345678", api.MaxNum, 0, api.MaxTime, api.MaxNum, api.MaxTime-1, 2, []byte(strings.Repeat("some more bytes to go by", 9)))
	f.Fuzz(func(t *testing.T, who, what string, epoch, from, until, serial, now, n int, steps []byte) {
		p := newPair(t)
		p.opens(api.Ticket{Who: who, For: what, Epoch: epoch, From: from, Until: until, Serial: serial}, now)
		p.asks(n, now)
		for steps = steps[:min(len(steps), 900)]; len(steps) >= 3; steps = steps[3:] {
			a, b := int(steps[1])%32, int(steps[2])%32
			switch steps[0] % 8 {
			case 0:
				p.closes(a)
			case 1:
				p.sweeps(smallFloors(rand.New(rand.NewSource(int64(a)))), b)
			case 2:
				p.asks(a, b)
			case 3:
				p = p.copied()
			default:
				p.opens(pass(fmt.Sprint("n", steps[0]%16), 1+a%8, a, a+b), a+int(steps[0]>>4))
			}
		}
		p.asks(1, now)
		p.closes(n)
		if now >= 0 && now <= 1000000 {
			p.sweeps(nil, now)
		} else {
			p.refuses(nil, now, api.ErrBound, -1)
		}
	})
}
