package realm_test

import (
	"fmt"
	"math"
	"math/rand"
	"regexp"
	"slices"
	"strings"
	"testing"

	"keyholder/api"
	"keyholder/feed"
	"keyholder/floor"
	"keyholder/gate"
	"keyholder/mark"
	"keyholder/realm"
	"keyholder/seal"
	"keyholder/ticket"
)

const (
	key  = 7  // of most realms here
	last = 50 // and how long their tickets last
	most = 60 // of entries
)

var (
	isName = regexp.MustCompile(`\A[a-z0-9]{1,8}\z`)

	wrongKeys  = []int{0, -1, api.MaxKey + 1, math.MinInt, math.MaxInt}
	goodKeys   = []int{1, 2, key, 1 << 20, api.MaxKey - 1, api.MaxKey}
	wrongLongs = []int{0, -1, api.MaxTime + 1, 1 << 40, math.MinInt, math.MaxInt}
	goodLongs  = []int{1, 2, last, api.MaxTime / 2, api.MaxTime - 1, api.MaxTime}
	wrongNames = []string{"", " ", "A", "a-b", "*", "-", "a ", "a b", "é", "\xff", "a\x00", "ann\n", "abcdefghi", strings.Repeat("a", 1<<16)}
	noNames    = slices.Concat(wrongNames, []string{"zed", "an", "annn"})
)

// pair is a realm, and what it is to be.
type pair struct {
	*testing.T
	realm                   *realm.Realm
	key, long, time, serial int
	people                  []api.Person
	feed                    []api.Entry
}

func newPair(t *testing.T, key, long int) *pair {
	t.Helper()
	r, err := realm.New(key, long)
	if r == nil || err != nil {
		t.Fatalf("New(%d, %d): %v, %v", key, long, r, err)
	}
	p := &pair{T: t, realm: r, key: key, long: long, serial: 1}
	p.check("New")
	return p
}

// having is a realm of these, whose keys are 11, 12 and so on.
func having(t *testing.T, names ...string) *pair {
	t.Helper()
	p := newPair(t, key, last)
	for i, name := range names {
		p.does(p.adds(name, 11+i))
	}
	return p
}

// copied is a copy, with what that is to be.
func (p *pair) copied() *pair {
	c := *p
	c.realm, c.people, c.feed = p.realm.Copy(), slices.Clone(p.people), slices.Clone(p.feed)
	return &c
}

func (p *pair) find(name string) *api.Person {
	at := slices.IndexFunc(p.people, func(a api.Person) bool { return a.Name == name })
	if at < 0 {
		return nil
	}
	return &p.people[at]
}

// flushed is the epoch of the last flush, or 1.
func (p *pair) flushed() int {
	epoch := 1
	for _, e := range p.feed {
		if e.Floor.Who == "*" {
			epoch = e.Floor.Epoch
		}
	}
	return epoch
}

func (p *pair) setSerial(n int) {
	p.serial = n
	p.realm.SetSerial(n)
}

func (p *pair) setEpoch(name string, n int) {
	p.find(name).Epoch = n
	p.realm.SetEpoch(name, n)
}

// check asks for all that a realm tells of itself.
func (p *pair) check(what string) {
	p.Helper()
	head, err := feed.Make(p.key, p.feed, p.time)
	if err != nil {
		p.Fatal(err)
	}
	got, err := p.realm.Head()
	if got != head || err != nil {
		p.Fatalf("%s: head %q, %v, not %q", what, got, err, head)
	}
	if got := p.realm.People(); !slices.Equal(got, p.people) {
		p.Fatalf("%s: people %v, not %v", what, got, p.people)
	}
	if got := p.realm.Feed(); !slices.Equal(got, p.feed) {
		p.Fatalf("%s: feed %v, not %v", what, got, p.feed)
	}
	if got := p.realm.Time(); got != p.time {
		p.Fatalf("%s: time %d, not %d", what, got, p.time)
	}
}

// does wants that what was done is to be done with no error.
func (p *pair) does(err error) {
	p.Helper()
	if err != nil {
		p.Fatal(err)
	}
}

// refuses wants that what was done is to be refused so.
func (p *pair) refuses(err, want error) {
	p.Helper()
	if err != want {
		p.Errorf("%v, not %v", err, want)
	}
}

// told wants that answer; behind it the realm is what it is to be.
func told[A comparable](p *pair, what string, got A, err error, want A, wantErr error) error {
	p.Helper()
	if got != want || err != wantErr {
		p.Fatalf("%.80s: %v, %v, not %v, %v", what, got, err, want, wantErr)
	}
	p.check(what)
	return err
}

// adds tells what is answered, which is what P120 tells.
func (p *pair) adds(name string, key int) error {
	p.Helper()
	var want error
	switch {
	case !isName.MatchString(name):
		want = api.ErrName
	case key < 1 || key > 1000000006:
		want = api.ErrKey
	case p.find(name) != nil:
		want = api.ErrExist
	case len(p.people) == 20:
		want = api.ErrFull
	default:
		p.people = append(p.people, api.Person{Name: name, Key: key, Epoch: p.flushed()})
		slices.SortFunc(p.people, func(a, b api.Person) int { return strings.Compare(a.Name, b.Name) })
	}
	return told(p, fmt.Sprintf("Add(%q, %d)", name, key), 0, p.realm.Add(name, key), 0, want)
}

// offs tells what is answered, which is what P120 tells.
func (p *pair) offs(name string, off bool) error {
	p.Helper()
	var want error
	switch who := p.find(name); {
	case who == nil:
		want = api.ErrNone
	case who.Off == off:
		want = api.ErrExist
	default:
		who.Off = off
	}
	return told(p, fmt.Sprintf("Off(%q, %v)", name, off), 0, p.realm.Off(name, off), 0, want)
}

func proofWith(t *testing.T, key int, text string) int {
	t.Helper()
	n, err := mark.Of(key, text)
	if err != nil {
		t.Fatal(err)
	}
	return n
}

// proof of a name, now.
func (p *pair) proof(name string) int {
	p.Helper()
	who := p.find(name)
	if who == nil {
		return 1
	}
	return proofWith(p.T, who.Key, fmt.Sprintf("%s %d", name, p.time))
}

func sealed(t *testing.T, key int, a api.Ticket) string {
	t.Helper()
	s, err := ticket.Make(key, a)
	if err != nil {
		t.Fatalf("ticket.Make(%d, %v): %v", key, a, err)
	}
	return s
}

// wrongLogin tells what is wrong with a login, as P120 tells it.
func (p *pair) wrongLogin(name string, proof int, service string) error {
	p.Helper()
	who, to := p.find(name), p.find(service)
	switch {
	case who == nil || to == nil:
		return api.ErrNone
	case who.Off || to.Off:
		return api.ErrOff
	case proof != p.proof(name):
		return api.ErrMark
	case p.time == 1000000 || p.serial > 1<<30:
		return api.ErrBound
	}
	return nil
}

// logs tells what is answered, which is what P120 tells.
func (p *pair) logs(name string, proof int, service string) (string, error) {
	p.Helper()
	want, wantErr := "", p.wrongLogin(name, proof, service)
	if wantErr == nil {
		want = sealed(p.T, p.find(service).Key, api.Ticket{Who: name, For: service, Epoch: p.find(name).Epoch, From: p.time, Until: min(p.time+p.long, 1000000), Serial: p.serial})
		p.serial++
	}
	got, err := p.realm.Login(name, proof, service)
	return got, told(p, fmt.Sprintf("Login(%q, %d, %q)", name, proof, service), got, err, want, wantErr)
}

// comes in with the right proof, and has a ticket.
func (p *pair) comes(name, service string) string {
	p.Helper()
	s, err := p.logs(name, p.proof(name), service)
	p.does(err)
	return s
}

// renewed is the ticket that is to come of one, or what is wrong with that, as P121 tells it.
func (p *pair) renewed(s, service string) (api.Ticket, error) {
	to := p.find(service)
	if to == nil {
		return api.Ticket{}, api.ErrNone
	}
	if to.Off {
		return api.Ticket{}, api.ErrOff
	}
	a, err := ticket.Open(to.Key, s)
	if err != nil {
		return api.Ticket{}, err
	}
	switch who := p.find(a.Who); {
	case a.For != service:
		return api.Ticket{}, api.ErrName
	case who == nil:
		return api.Ticket{}, api.ErrNone
	case who.Off:
		return api.Ticket{}, api.ErrOff
	case who.Epoch != a.Epoch:
		return api.Ticket{}, api.ErrFloor
	case p.time < a.From:
		return api.Ticket{}, api.ErrEarly
	case p.time >= a.Until:
		return api.Ticket{}, api.ErrLate
	case p.serial > 1<<30:
		return api.Ticket{}, api.ErrBound
	}
	a.From, a.Until, a.Serial = p.time, min(p.time+p.long, a.Until), p.serial
	return a, nil
}

// renews tells what is answered, which is what P121 tells.
func (p *pair) renews(s, service string) (string, error) {
	p.Helper()
	a, wantErr := p.renewed(s, service)
	want := ""
	if wantErr == nil {
		want = sealed(p.T, p.find(service).Key, a)
		p.serial++
	}
	got, err := p.realm.Renew(s, service)
	return got, told(p, fmt.Sprintf("Renew(%.40q, %q)", s, service), got, err, want, wantErr)
}

func (p *pair) writes(who string, epoch int) {
	p.feed = append(p.feed, api.Entry{Seq: len(p.feed) + 1, Time: p.time, Floor: api.Floor{Who: who, Epoch: epoch}})
}

// revokes tells what is answered, which is what P121 tells.
func (p *pair) revokes(name string) (int, error) {
	p.Helper()
	want, wantErr := 0, error(nil)
	switch who := p.find(name); {
	case who == nil:
		wantErr = api.ErrNone
	case who.Epoch == 1<<30:
		wantErr = api.ErrBound
	case len(p.feed) == most:
		wantErr = api.ErrFull
	default:
		who.Epoch++
		want = who.Epoch
		p.writes(name, want)
	}
	got, err := p.realm.Revoke(name)
	return got, told(p, fmt.Sprintf("Revoke(%q)", name), got, err, want, wantErr)
}

// rekeys tells what is answered, which is what P121 tells.
func (p *pair) rekeys(name string, key int) (int, error) {
	p.Helper()
	want, wantErr := 0, error(nil)
	switch who := p.find(name); {
	case who == nil:
		wantErr = api.ErrNone
	case key < 1 || key > 1000000006:
		wantErr = api.ErrKey
	case who.Key == key:
		wantErr = api.ErrExist
	case who.Epoch == 1<<30:
		wantErr = api.ErrBound
	case len(p.feed) == most:
		wantErr = api.ErrFull
	default:
		who.Key, who.Epoch = key, who.Epoch+1
		want = who.Epoch
		p.writes(name, want)
	}
	got, err := p.realm.Rekey(name, key)
	return got, told(p, fmt.Sprintf("Rekey(%q, %d)", name, key), got, err, want, wantErr)
}

// flushes tells what is answered, which is what P121 tells.
func (p *pair) flushes() (int, error) {
	p.Helper()
	want, wantErr := 1, error(nil)
	for _, a := range p.people {
		want = max(want, a.Epoch+1)
	}
	switch {
	case want > 1<<30:
		want, wantErr = 0, api.ErrBound
	case len(p.feed) == most:
		want, wantErr = 0, api.ErrFull
	default:
		for i := range p.people {
			p.people[i].Epoch = want
		}
		p.writes("*", want)
	}
	got, err := p.realm.Flush()
	return got, told(p, "Flush()", got, err, want, wantErr)
}

// goes on so many ticks, and tells what is answered, which is what P122 tells.
func (p *pair) goes(ticks int) error {
	p.Helper()
	want, wantErr := 0, error(nil)
	if ticks < 0 || ticks > 1000000 || p.time+ticks > 1000000 {
		wantErr = api.ErrBound
	} else {
		p.time += ticks
		want = p.time
	}
	got, err := p.realm.Next(ticks)
	return told(p, fmt.Sprintf("Next(%d)", ticks), got, err, want, wantErr)
}

// fills the feed.
func (p *pair) fills(name string) {
	p.Helper()
	for len(p.feed) < most {
		_, err := p.revokes(name)
		p.does(err)
	}
}

// P120, P121 and P122: a tale, with what is answered written out.
func TestByHand(t *testing.T) {
	r, err := realm.New(7, 50)
	if err != nil {
		t.Fatal(err)
	}
	step := func(what, want string, got ...any) {
		t.Helper()
		if s := fmt.Sprint(got...); s != want {
			t.Errorf("%s: %s, not %s", what, s, want)
		}
	}
	and := func(got any, err error) string { return fmt.Sprintf("%v %v", got, err) }
	opened := func(key int, s string, err error) string {
		a, bad := ticket.Open(key, s)
		return fmt.Sprintf("%v %v %v", a, bad, err)
	}
	step("a person", "<nil>", r.Add("ann", 5))
	step("a service", "<nil>", r.Add("door", 6))
	step("3 on", "3 <nil>", and(r.Next(3)))
	one, err := r.Login("ann", proofWith(t, 5, "ann 3"), "door")
	step("a ticket", "{ann door 1 3 53 1} <nil> <nil>", opened(6, one, err))
	step("as of ahead", " keyholder: mark", and(r.Login("ann", proofWith(t, 5, "ann 2"), "door")))
	step("10 on", "13 <nil>", and(r.Next(10)))
	two, err := r.Renew(one, "door")
	step("renewed", "{ann door 1 13 53 2} <nil> <nil>", opened(6, two, err))
	step("of herself", "{door door 1 13 63 3} <nil> <nil>", func() string {
		s, err := r.Login("door", proofWith(t, 6, "door 13"), "door")
		return opened(6, s, err)
	}())
	step("revoked", "2 <nil>", and(r.Revoke("ann")))
	step("what was", " keyholder: floor", and(r.Renew(two, "door")))
	step("another key", "2 <nil>", and(r.Rekey("door", 9)))
	step("of the key that was", " keyholder: mark", and(r.Renew(two, "door")))
	step("anew", "{ann door 2 13 63 4} <nil> <nil>", func() string {
		s, err := r.Login("ann", proofWith(t, 5, "ann 13"), "door")
		return opened(9, s, err)
	}())
	step("all", "3 <nil>", and(r.Flush()))
	step("one more", "<nil>", r.Add("bob", 8))
	step("off", "<nil>", r.Off("bob", true))
	step("people", "[{ann 5 3 false} {bob 8 3 true} {door 9 3 false}]", r.People())
	step("entries", "[{1 13 {ann 2}} {2 13 {door 2}} {3 13 {* 3}}]", r.Feed())
	// The head's words are told by P61, and the sum of `*:3` with key 1.
	words := fmt.Sprintf("head 3 13 %d", proofWith(t, 1, "*:3"))
	step("head", fmt.Sprintf("%s %d <nil>", words, proofWith(t, 7, words)), and(r.Head()))
	step("time", "13", r.Time())
}

// P120: every edge; there is nobody, nothing was told, and it is time 0.
func TestNew(t *testing.T) {
	for _, key := range goodKeys {
		for _, long := range goodLongs {
			newPair(t, key, long)
		}
	}
}

// P120 with P3: ErrKey goes ahead of ErrBound.
func TestNewErrorsInOrder(t *testing.T) {
	for _, key := range slices.Concat(wrongKeys, goodKeys) {
		for _, long := range slices.Concat(wrongLongs, goodLongs) {
			var want error
			switch {
			case slices.Contains(wrongKeys, key):
				want = api.ErrKey
			case slices.Contains(wrongLongs, long):
				want = api.ErrBound
			}
			if r, err := realm.New(key, long); (r == nil) != (want != nil) || err != want {
				t.Errorf("New(%d, %d): %v, %v, not %v", key, long, r, err, want)
			}
		}
	}
}

// P120: person.Add's answers, and errors in their order.
func TestAdd(t *testing.T) {
	p := having(t, "ann", "door")
	for _, name := range slices.Concat(wrongNames, []string{"ann", "door"}) {
		for _, key := range slices.Concat(wrongKeys, goodKeys) {
			if p.adds(name, key) == nil {
				t.Errorf("Add(%.20q, %d)", name, key)
			}
		}
	}
	for i, key := range goodKeys {
		p.does(p.adds(fmt.Sprint("n", i), key))
	}
	for i := len(p.people); i < 20; i++ {
		p.does(p.adds(fmt.Sprint("n", i), 11))
	}
	p.refuses(p.adds("zed", 11), api.ErrFull)
	p.refuses(p.adds("zed", 0), api.ErrKey)
	p.refuses(p.adds("ann", 11), api.ErrExist)
}

// P120: of the epoch of the last flush, whatever was raised ahead of it, behind it, or is raised of others.
func TestAddBehindFlushes(t *testing.T) {
	p := having(t, "ann")
	epochOf := func(name string, want int) {
		t.Helper()
		p.does(p.adds(name, 11))
		if got := p.find(name).Epoch; got != want {
			t.Errorf("%s: %d, not %d", name, got, want)
		}
	}
	_, err := p.revokes("ann")
	p.does(err)
	epochOf("bob", 1)
	_, err = p.flushes()
	p.does(err)
	epochOf("cyd", 3)
	for range 4 {
		_, err = p.revokes("cyd")
		p.does(err)
	}
	epochOf("dan", 3)
	p.does(p.goes(9))
	_, err = p.flushes()
	p.does(err)
	_, err = p.rekeys("eve", 5)
	p.refuses(err, api.ErrNone)
	epochOf("eve", 8)
	_, err = p.rekeys("eve", 5)
	p.does(err)
	epochOf("fay", 8)
	p.refuses(p.copied().adds("ann", 3), api.ErrExist)
	p = p.copied()
	epochOf("gil", 8)
	p.fills("ann")
	_, err = p.flushes()
	p.refuses(err, api.ErrFull)
	epochOf("hal", 8)
}

// P120: person.Off's.
func TestOff(t *testing.T) {
	p := having(t, "ann", "door")
	for _, off := range []bool{true, false, true, false} {
		p.refuses(p.offs("ann", !off), api.ErrExist)
		p.does(p.offs("ann", off))
	}
	for _, name := range noNames {
		p.refuses(p.offs(name, true), api.ErrNone)
		p.refuses(p.offs(name, false), api.ErrNone)
	}
}

// P120: from now, until so long later, of the person's epoch, sealed for the service; serials go on by 1 with each ticket, and with nothing else.
func TestLogin(t *testing.T) {
	for _, long := range goodLongs {
		p := newPair(t, key, long)
		p.does(p.adds("ann", 5))
		p.does(p.adds("door", 6))
		for _, ticks := range []int{0, 1, 2, 47, 50, api.MaxTime - 152, 2, 48, 1} {
			p.does(p.goes(ticks))
			serial := p.serial
			_, err := p.logs("ann", p.proof("ann")+1, "door")
			p.refuses(err, api.ErrMark)
			s := p.comes("ann", "door")
			a, err := ticket.Open(6, s)
			if want := (api.Ticket{Who: "ann", For: "door", Epoch: 1, From: p.time, Until: min(p.time+long, api.MaxTime), Serial: serial}); a != want || err != nil {
				t.Errorf("%v, %v, not %v", a, err, want)
			}
			if err := ticket.Good(a, p.time); err != nil {
				t.Errorf("%v at %d: %v", a, p.time, err)
			}
			p.comes("door", "ann")
			p.comes("ann", "ann")
		}
		if p.time != api.MaxTime-1 || p.serial != 28 {
			t.Error(p.time, p.serial)
		}
		p.does(p.goes(1))
		_, err := p.logs("ann", p.proof("ann"), "door")
		p.refuses(err, api.ErrBound)
	}
}

// P120 with P3: ErrNone of both, ErrOff of both, ErrMark, ErrBound of both, with no ticket and nothing changed.
func TestLoginErrorsInOrder(t *testing.T) {
	met := map[error]int{}
	for _, time := range []int{0, api.MaxTime - 1, api.MaxTime} {
		for _, serial := range []int{1, api.MaxNum, api.MaxNum + 1} {
			p := having(t, "ann", "off", "door", "shut")
			p.does(p.offs("off", true))
			p.does(p.offs("shut", true))
			p.does(p.goes(time))
			for _, name := range []string{"ann", "off", "door", "zed", "Zed", ""} {
				for _, service := range []string{"door", "shut", "ann", "zed", "*", ""} {
					for _, proof := range []int{p.proof(name), p.proof(name) + 1, 0, -1, math.MinInt, math.MaxInt, p.proof(name) + 1000000007} {
						p.setSerial(serial)
						_, err := p.logs(name, proof, service)
						met[err]++
					}
				}
			}
		}
	}
	for _, err := range []error{nil, api.ErrNone, api.ErrOff, api.ErrMark, api.ErrBound} {
		if met[err] == 0 {
			t.Errorf("%v was never met", err)
		}
	}
}

// P120: only the mark of `NAME TIME`, now, with the name's own key, is a proof.
func TestProofs(t *testing.T) {
	p := having(t, "ann", "door")
	p.does(p.goes(10))
	for _, text := range []string{"ann 9", "ann 11", "ann 1", "ann 0", "ann", "ann ", "ann  10", "ann10", "ann 10 ", " ann 10", "ann 010", "ann\t10", "ann-10", "Ann 10", "door 10", "10 ann", "ann 10 door", ""} {
		_, err := p.logs("ann", proofWith(t, 11, text), "door")
		p.refuses(err, api.ErrMark)
	}
	for _, with := range []int{1, key, 12, 10, api.MaxKey} {
		_, err := p.logs("ann", proofWith(t, with, "ann 10"), "door")
		p.refuses(err, api.ErrMark)
	}
	_, err := p.logs("ann", proofWith(t, 11, "ann 10"), "door")
	p.does(err)
	// A proof may come again, as long as it is of now.
	_, err = p.logs("ann", proofWith(t, 11, "ann 10"), "ann")
	p.does(err)
	_, err = p.rekeys("ann", 13)
	p.does(err)
	_, err = p.logs("ann", proofWith(t, 11, "ann 10"), "door")
	p.refuses(err, api.ErrMark)
	_, err = p.logs("ann", proofWith(t, 13, "ann 10"), "door")
	p.does(err)
}

// P121: from now, no longer than it was, nor than tickets last, with the next serial; as often as one likes.
func TestRenew(t *testing.T) {
	for _, long := range []int{1, 2, 9, last, api.MaxTime} {
		for _, until := range []int{21, 22, 40, 60, 70, 71, 99, api.MaxTime} {
			p := newPair(t, key, long)
			p.does(p.adds("ann", 5))
			p.does(p.adds("door", 6))
			p.does(p.goes(20))
			s := sealed(t, 6, api.Ticket{Who: "ann", For: "door", Epoch: 1, From: 3, Until: until, Serial: api.MaxNum})
			for p.time < min(until, 120) {
				next, err := p.renews(s, "door")
				p.does(err)
				a, err := ticket.Open(6, next)
				if want := (api.Ticket{Who: "ann", For: "door", Epoch: 1, From: p.time, Until: min(p.time+long, until), Serial: p.serial - 1}); a != want || err != nil {
					t.Fatalf("%v, %v, not %v", a, err, want)
				}
				p.does(p.goes(7))
			}
			if p.time >= until {
				_, err := p.renews(s, "door")
				p.refuses(err, api.ErrLate)
			}
		}
	}
}

// text that is to be renewed.
type text struct{ what, text string }

// textsOf are texts sealed with some keys, of all that may be wrong with them.
func textsOf(t *testing.T, keys []int, time int) []text {
	t.Helper()
	texts := []text{{"none", ""}, {"no words", "x"}, {"too long", strings.Repeat("a", api.MaxText+1)}}
	for _, key := range keys {
		for _, who := range []string{"ann", "off", "zed", "door"} {
			for _, service := range []string{"door", "shut", "zed"} {
				for _, epoch := range []int{1, 2, 3, api.MaxNum} {
					for _, span := range [][2]int{{time, time + 1}, {time + 1, time + 2}, {0, time}, {0, 999999}} {
						if span[1] > api.MaxTime {
							continue
						}
						a := api.Ticket{Who: who, For: service, Epoch: epoch, From: span[0], Until: span[1], Serial: 1}
						texts = append(texts, text{fmt.Sprint(key, a), sealed(t, key, a)})
					}
				}
			}
		}
		for _, line := range []string{"ticket ann door 1 0 9", "ticket ann door 0 0 9 1", "ticket ann door 1 9 0 1", "head 1 2 3", "ticket ann-a door 1 0 9 1"} {
			s, err := seal.Make(key, strings.Split(line, " "))
			if err != nil {
				t.Fatal(err)
			}
			texts = append(texts, text{fmt.Sprint(key, line), s})
		}
	}
	return texts
}

// P121 with P3: every error in its order, with no ticket and nothing changed.
func TestRenewErrorsInOrder(t *testing.T) {
	met := map[error]int{}
	for _, time := range []int{0, 5, api.MaxTime - 1, api.MaxTime} {
		for _, serial := range []int{1, api.MaxNum, api.MaxNum + 1} {
			p := having(t, "ann", "off", "door", "shut")
			_, err := p.revokes("ann")
			p.does(err)
			p.does(p.offs("off", true))
			p.does(p.offs("shut", true))
			p.does(p.goes(time))
			for _, text := range textsOf(t, []int{11, 13, 14}, time) {
				for _, service := range []string{"door", "shut", "zed", "", "ann"} {
					p.setSerial(serial)
					_, err := p.renews(text.text, service)
					met[err]++
				}
			}
		}
	}
	for _, err := range []error{nil, api.ErrNone, api.ErrOff, api.ErrText, api.ErrBound, api.ErrMark, api.ErrName, api.ErrFloor, api.ErrEarly, api.ErrLate} {
		if met[err] == 0 {
			t.Errorf("%v was never met", err)
		}
	}
}

// P121: what is wrong of the service goes ahead of what is wrong with the ticket, and that ahead of whose it is.
func TestRenewByHand(t *testing.T) {
	p := having(t, "ann", "off", "door", "shut")
	p.does(p.offs("off", true))
	p.does(p.offs("shut", true))
	p.does(p.goes(5))
	of := func(key int, who, service string, epoch, from, until int) string {
		return sealed(t, key, api.Ticket{Who: who, For: service, Epoch: epoch, From: from, Until: until, Serial: 1})
	}
	for _, c := range []struct {
		text, service string
		want          error
	}{
		{"", "zed", api.ErrNone}, {"", "Z*", api.ErrNone}, {"", "shut", api.ErrOff}, {"", "door", api.ErrText},
		{strings.Repeat("a", 4001), "door", api.ErrBound},
		{of(13, "zed", "ann", 2, 9, 9), "zed", api.ErrNone}, {of(13, "zed", "ann", 2, 9, 9), "shut", api.ErrOff},
		{of(14, "zed", "ann", 2, 9, 9), "door", api.ErrMark}, {of(13, "zed", "ann", 2, 9, 9), "door", api.ErrName},
		{of(13, "zed", "door", 2, 9, 9), "door", api.ErrNone}, {of(13, "off", "door", 2, 9, 9), "door", api.ErrOff},
		{of(13, "ann", "door", 2, 9, 9), "door", api.ErrFloor}, {of(13, "ann", "door", 1, 9, 9), "door", api.ErrEarly},
		{of(13, "ann", "door", 1, 0, 5), "door", api.ErrLate}, {of(13, "ann", "door", 1, 0, 6), "door", nil},
		{of(13, "ann", "door", 1, 5, 6), "door", nil}, {of(13, "door", "door", 1, 5, 6), "door", nil},
	} {
		_, err := p.renews(c.text, c.service)
		p.refuses(err, c.want)
	}
	p.setSerial(api.MaxNum)
	_, err := p.renews(of(13, "ann", "door", 1, 0, 6), "door")
	p.does(err)
	_, err = p.renews(of(13, "ann", "door", 1, 0, 6), "door")
	p.refuses(err, api.ErrBound)
	_, err = p.logs("ann", p.proof("ann"), "door")
	p.refuses(err, api.ErrBound)
	_, err = p.renews(of(13, "ann", "door", 1, 0, 5), "door")
	p.refuses(err, api.ErrLate)
}

// P121: the epoch, told in the feed, now; of who is off, too.
func TestRevokeAndRekey(t *testing.T) {
	p := having(t, "ann", "bob", "door")
	p.does(p.offs("bob", true))
	for i := range 9 {
		p.does(p.goes(i))
		for _, name := range []string{"ann", "bob", "door"} {
			n, err := p.revokes(name)
			if n != 2*i+2 || err != nil {
				t.Error(n, err)
			}
			n, err = p.rekeys(name, 100+i)
			if n != 2*i+3 || err != nil {
				t.Error(n, err)
			}
		}
	}
	for _, name := range noNames {
		_, err := p.revokes(name)
		p.refuses(err, api.ErrNone)
		_, err = p.rekeys(name, 0)
		p.refuses(err, api.ErrNone)
	}
	for _, key := range wrongKeys {
		_, err := p.rekeys("ann", key)
		p.refuses(err, api.ErrKey)
	}
	_, err := p.rekeys("ann", 108)
	p.refuses(err, api.ErrExist)
}

// P121 with P3: with a full feed nothing changes, be it of the people; and person's errors go ahead.
func TestFullFeed(t *testing.T) {
	p := having(t, "ann", "bob", "door")
	p.fills("ann")
	before := p.copied()
	for _, name := range []string{"ann", "bob", "door"} {
		_, err := p.revokes(name)
		p.refuses(err, api.ErrFull)
		_, err = p.rekeys(name, 100)
		p.refuses(err, api.ErrFull)
	}
	_, err := p.flushes()
	p.refuses(err, api.ErrFull)
	_, err = p.revokes("zed")
	p.refuses(err, api.ErrNone)
	_, err = p.rekeys("zed", 0)
	p.refuses(err, api.ErrNone)
	_, err = p.rekeys("bob", 0)
	p.refuses(err, api.ErrKey)
	_, err = p.rekeys("bob", 12)
	p.refuses(err, api.ErrExist)
	if !realm.Same(p.realm, before.realm) {
		t.Error("something changed")
	}
	// All else goes on.
	p.does(p.goes(3))
	p.does(p.adds("cyd", 5))
	p.comes("ann", "door")
	p.setEpoch("bob", api.MaxNum)
	_, err = p.revokes("bob")
	p.refuses(err, api.ErrBound)
	_, err = p.rekeys("bob", 100)
	p.refuses(err, api.ErrBound)
	_, err = p.flushes()
	p.refuses(err, api.ErrBound)
}

// P121 with P3: the last epoch is one that is reached; above it is nothing, and nothing changes.
func TestLastEpoch(t *testing.T) {
	p := having(t, "ann", "bob", "cyd", "door")
	p.setEpoch("ann", api.MaxNum-1)
	p.setEpoch("bob", api.MaxNum-1)
	n, err := p.revokes("ann")
	if n != 1<<30 || err != nil {
		t.Error(n, err)
	}
	n, err = p.rekeys("bob", 100)
	if n != 1<<30 || err != nil {
		t.Error(n, err)
	}
	for _, name := range []string{"ann", "bob"} {
		_, err = p.revokes(name)
		p.refuses(err, api.ErrBound)
		_, err = p.rekeys(name, 101)
		p.refuses(err, api.ErrBound)
		p.comes(name, "door")
	}
	_, err = p.flushes()
	p.refuses(err, api.ErrBound)
	_, err = p.revokes("cyd")
	p.does(err)
	p = having(t, "ann", "bob")
	p.setEpoch("bob", api.MaxNum-1)
	n, err = p.flushes()
	if n != 1<<30 || err != nil {
		t.Error(n, err)
	}
	p.does(p.adds("cyd", 5))
	_, err = p.flushes()
	p.refuses(err, api.ErrBound)
	_, err = p.revokes("cyd")
	p.refuses(err, api.ErrBound)
}

// P121: the greatest of all epochs, and 1, whoever has it; of a realm where nobody is, 1.
func TestFlush(t *testing.T) {
	p := newPair(t, key, last)
	for range 2 {
		n, err := p.flushes()
		if n != 1 || err != nil {
			t.Error(n, err)
		}
	}
	for i, name := range []string{"m", "a", "z", "mm"} {
		p.does(p.adds(name, 5))
		for range i {
			_, err := p.revokes(name)
			p.does(err)
		}
		p.does(p.goes(i))
		if i%2 == 0 {
			p.does(p.offs(name, true))
		}
	}
	n, err := p.flushes()
	if n != 5 || err != nil {
		t.Error(n, err)
	}
	n, err = p.flushes()
	if n != 6 || err != nil {
		t.Error(n, err)
	}
}

// P122: time goes on up to the last time, and never back.
func TestNext(t *testing.T) {
	p := having(t, "ann")
	for _, ticks := range []int{0, 1, 2, 0, 997, api.MaxTime - 1003, 2} {
		p.does(p.goes(ticks))
		left := api.MaxTime - p.time
		for _, wrong := range []int{-1, -2, -p.time - 1, math.MinInt, left + 1, left + 2, api.MaxTime + 1, math.MaxInt} {
			p.refuses(p.goes(wrong), api.ErrBound)
		}
	}
	p.does(p.goes(1))
	p.does(p.goes(0))
	p.refuses(p.goes(1), api.ErrBound)
	if p.time != 1000000 {
		t.Error(p.time)
	}
	// At the last time all but tickets goes on.
	p.does(p.adds("bob", 5))
	_, err := p.revokes("ann")
	p.does(err)
	_, err = p.flushes()
	p.does(err)
}

// P122: the head is feed.Make's, now, with the realm's key; behind an entry it tells of it.
func TestHead(t *testing.T) {
	for _, key := range goodKeys {
		p := newPair(t, key, last)
		p.does(p.adds("ann", 5))
		for _, ticks := range []int{0, 3, 0, 9, api.MaxTime - 12} {
			p.does(p.goes(ticks))
			_, err := p.revokes("ann")
			p.does(err)
			s, err := p.realm.Head()
			p.does(err)
			h, err := feed.Open(key, s)
			floors, bad := feed.Floors(p.feed)
			if want := (feed.Head{Seq: len(p.feed), Time: p.time, Sum: floor.Sum(floors)}); h != want || err != nil || bad != nil {
				t.Errorf("%v, %v, %v, not %v", h, err, bad, want)
			}
		}
	}
}

// P4: what is answered is new memory, and what is written into it, or behind it, nobody else sees.
func TestMemory(t *testing.T) {
	p := having(t, "ann", "bob")
	_, err := p.revokes("ann")
	p.does(err)
	_, err = p.flushes()
	p.does(err)
	for range 3 {
		people, entries := p.realm.People(), p.realm.Feed()
		people, entries = people[:cap(people)], entries[:cap(entries)]
		clear(people)
		clear(entries)
		_ = append(people[:1], api.Person{Name: "zed"})
		_ = append(entries[:1], api.Entry{Seq: 9})
		p.check("memory")
		_, err = p.revokes("bob")
		p.does(err)
		c := p.copied()
		people, entries = c.realm.People(), c.realm.Feed()
		clear(people[:cap(people)])
		clear(entries[:cap(entries)])
		c.check("memory of a copy")
		p.check("memory behind a copy")
	}
	before := p.realm.Feed()
	want := slices.Clone(before)
	_, err = p.revokes("bob")
	p.does(err)
	if !slices.Equal(before, want) {
		t.Error("what was answered changed", before)
	}
}

// P122: what is done to one of the two is not done to the other one.
func TestCopy(t *testing.T) {
	changes := []func(p *pair) error{
		func(p *pair) error { return p.adds("cyd", 5) },
		func(p *pair) error { return p.offs("ann", true) },
		func(p *pair) error { return p.offs("bob", false) },
		func(p *pair) error { _, err := p.logs("ann", p.proof("ann"), "door"); return err },
		func(p *pair) error {
			_, err := p.renews(sealed(p.T, p.find("door").Key, api.Ticket{Who: "ann", For: "door", Epoch: 2, From: 0, Until: 99, Serial: 1}), "door")
			return err
		},
		func(p *pair) error { _, err := p.revokes("ann"); return err },
		func(p *pair) error { _, err := p.rekeys("ann", 5); return err },
		func(p *pair) error { _, err := p.flushes(); return err },
		func(p *pair) error { return p.goes(1) },
	}
	base := having(t, "ann", "bob", "door")
	_, err := base.revokes("ann")
	base.does(err)
	base.does(base.offs("bob", true))
	for i, change := range changes {
		for j, other := range changes {
			p := base.copied()
			c := p.copied()
			if !realm.Same(p.realm, c.realm) || !realm.Same(c.realm, p.realm) {
				t.Error("a copy is another one")
			}
			p.does(change(p))
			c.check(fmt.Sprint("copy behind change ", i))
			if realm.Same(p.realm, c.realm) || realm.Same(c.realm, p.realm) {
				t.Errorf("change %d does not show", i)
			}
			c.does(other(c))
			p.check(fmt.Sprint("behind change of a copy ", j))
			// Behind a ticket, of either way, the next one's serial is another one: else nothing is.
			tickets := min(i, j) == 3 && max(i, j) == 4
			if realm.Same(p.realm, c.realm) != (i == j || tickets) {
				t.Errorf("changes %d and %d: %v", i, j, i != j)
			}
		}
	}
	base.check("behind all")
}

// P2: what is done to one realm shows in no other one.
func TestTheyAreTheirOwn(t *testing.T) {
	a, b := newPair(t, 7, 50), newPair(t, 8, 60)
	for i := range 20 {
		name := fmt.Sprint("n", i)
		a.does(a.adds(name, 5+i))
		b.check("another one's person")
		b.does(b.adds(name, 6+i))
		b.does(b.goes(i))
		a.comes(name, "n0")
		b.comes(name, "n0")
		_, err := a.revokes(name)
		a.does(err)
		b.check("another one's entry")
	}
}

// outlook is all that can be told of a realm, now, or ever: what it tells of itself, and of the next ticket.
func outlook(t *testing.T, r *realm.Realm) string {
	t.Helper()
	r = r.Copy()
	head, err := r.Head()
	told := fmt.Sprintln(head, err, r.Time(), r.People(), r.Feed())
	if len(r.People()) == 0 {
		if err := r.Add("n", 5); err != nil {
			t.Fatal(err)
		}
	}
	who := r.People()[0]
	if who.Off {
		if err := r.Off(who.Name, false); err != nil {
			t.Fatal(err)
		}
	}
	s, err := r.Login(who.Name, proofWith(t, who.Key, fmt.Sprintf("%s %d", who.Name, r.Time())), who.Name)
	return told + fmt.Sprintln(s, err)
}

// same wants that answer, and that both answer alike now if it is so.
func same(t *testing.T, a, b *pair, want bool) {
	t.Helper()
	if realm.Same(a.realm, b.realm) != want || realm.Same(b.realm, a.realm) != want {
		t.Errorf("%+v, %+v: not %v", *a, *b, want)
	}
	if (outlook(t, a.realm) == outlook(t, b.realm)) != want {
		t.Errorf("%+v, %+v tell: %v", *a, *b, !want)
	}
	a.check("Same")
	b.check("Same")
}

// P122: any one thing that shows, shows; and made alike on other ways they are alike.
func TestSame(t *testing.T) {
	made := func(key, long, other, serial, ticks int, names ...string) *pair {
		p := newPair(t, key, long)
		for _, name := range names {
			p.does(p.adds(name, other))
		}
		p.setSerial(serial)
		p.does(p.goes(ticks))
		return p
	}
	base := made(7, 50, 5, 3, 9, "ann", "bob")
	same(t, base, base, true)
	same(t, base, made(7, 50, 5, 3, 9, "bob", "ann"), true)
	for _, other := range []*pair{
		made(8, 50, 5, 3, 9, "ann", "bob"), made(7, 51, 5, 3, 9, "ann", "bob"), made(7, 50, 6, 3, 9, "ann", "bob"), made(7, 50, 5, 4, 9, "ann", "bob"),
		made(7, 50, 5, 3, 10, "ann", "bob"), made(7, 50, 5, 3, 9, "ann", "bo"), made(7, 50, 5, 3, 9, "ann"), made(7, 50, 5, 3, 9, "ann", "bob", "cyd"), made(7, 50, 5, 3, 9),
	} {
		same(t, base, other, false)
	}
	one, two := base.copied(), base.copied()
	_, err := one.revokes("ann")
	base.does(err)
	_, err = two.revokes("ann")
	base.does(err)
	same(t, one, two, true)
	base.does(one.goes(1))
	_, err = one.revokes("bob")
	base.does(err)
	_, err = two.revokes("bob")
	base.does(err)
	base.does(two.goes(1))
	same(t, one, two, false)
	a, b := base.copied(), base.copied()
	base.does(a.offs("ann", true))
	same(t, a, b, false)
	base.does(a.offs("ann", false))
	same(t, a, b, true)
}

// P122: nil, and realms that no call gave.
func TestSameOfNone(t *testing.T) {
	r := newPair(t, key, last).realm
	for _, c := range []struct {
		a, b *realm.Realm
		want bool
	}{{nil, nil, true}, {nil, r, false}, {r, r, true}, {nil, &realm.Realm{}, false}, {r, &realm.Realm{}, false}, {&realm.Realm{}, &realm.Realm{}, true}} {
		if realm.Same(c.a, c.b) != c.want || realm.Same(c.b, c.a) != c.want {
			t.Errorf("%v, %v: not %v", c.a, c.b, c.want)
		}
	}
}

// P122: no ticket outlives the last time: how long they last shows as long as it is less than what is left.
func TestSameNearTheEnd(t *testing.T) {
	longs := []int{1, 2, 3, 4, 5, 50, api.MaxTime - 1, api.MaxTime}
	for _, left := range []int{0, 1, 2, 3, 4, 49, 50, 51, api.MaxTime - 1, api.MaxTime} {
		for _, a := range longs {
			for _, b := range longs {
				one, two := newPair(t, key, a), newPair(t, key, b)
				one.does(one.goes(api.MaxTime - left))
				two.does(two.goes(api.MaxTime - left))
				same(t, one, two, a == b || min(a, b) >= left)
			}
		}
	}
}

// P122: where no ticket comes any more, neither serials show, nor how long tickets would last.
func TestSameWithNoTickets(t *testing.T) {
	serials := []int{1, 2, api.MaxNum - 1, api.MaxNum, api.MaxNum + 1}
	for _, time := range []int{0, api.MaxTime - 1, api.MaxTime} {
		for _, a := range serials {
			for _, b := range serials {
				for _, long := range []int{last, last + 1} {
					one, two := newPair(t, key, last), newPair(t, key, long)
					one.does(one.goes(time))
					two.does(two.goes(time))
					one.setSerial(a)
					two.setSerial(b)
					end := time == api.MaxTime
					alike := a == b && (long == last || a > api.MaxNum || time > 0)
					same(t, one, two, end || alike)
				}
			}
		}
	}
}

// passes asks a gate that has the realm's feed, with its head of now.
func (p *pair) passes(s string) error {
	p.Helper()
	g, err := gate.New("door", p.find("door").Key, p.key, 0)
	p.does(err)
	head, err := p.realm.Head()
	p.does(err)
	p.does(g.Take(head, p.realm.Feed()))
	_, err = g.Ask(s, p.time)
	return err
}

// P123: of ahead of what revokes: below the floors; of behind it, by login or anew: not.
func TestRevokedDoNotPass(t *testing.T) {
	revokes := map[string]func(p *pair) (int, error){
		"Revoke": func(p *pair) (int, error) { return p.revokes("ann") },
		"Rekey":  func(p *pair) (int, error) { return p.rekeys("ann", 100+len(p.feed)) },
		"Flush":  func(p *pair) (int, error) { return p.flushes() },
		"Raise of another, and Flush": func(p *pair) (int, error) {
			for range 5 {
				_, err := p.revokes("bob")
				p.does(err)
			}
			return p.flushes()
		},
	}
	for what, revoke := range revokes {
		for again, more := range revokes {
			p := having(t, "ann", "bob", "door")
			var old []string
			for i, change := range []func(p *pair) (int, error){revoke, more, revoke} {
				now := p.comes("ann", "door")
				renewed, err := p.renews(now, "door")
				p.does(err)
				p.does(p.adds(fmt.Sprint("new", i), 5))
				other := p.comes(fmt.Sprint("new", i), "door")
				for _, s := range []string{now, renewed, other} {
					if err := p.passes(s); err != nil {
						t.Errorf("%s, %s: %q: %v", what, again, s, err)
					}
				}
				old = append(old, now, renewed)
				p.does(p.goes(i))
				_, err = change(p)
				p.does(err)
				for _, s := range old {
					if err := p.passes(s); err != api.ErrFloor {
						t.Errorf("%s, %s: %q passes: %v", what, again, s, err)
					}
					_, err := p.renews(s, "door")
					p.refuses(err, api.ErrFloor)
				}
			}
			if err := p.passes(p.comes("ann", "door")); err != nil {
				t.Error("a later one", err)
			}
		}
	}
}

// held is a ticket, whose it is, for which service, and how many entries there were when it came.
type held struct {
	text, who, service string
	entries            int
}

// checkHeld asks P123 of all tickets: of good ones those pass of whose person, and of all, nothing was told since.
func (p *pair) checkHeld(l []held) {
	p.Helper()
	floors, err := feed.Floors(p.realm.Feed())
	p.does(err)
	for _, h := range l {
		a, err := ticket.Look(h.text)
		p.does(err)
		want := !slices.ContainsFunc(p.feed[h.entries:], func(e api.Entry) bool { return e.Floor.Who == h.who || e.Floor.Who == "*" })
		if got := floor.Passes(floors, a.Who, a.Epoch); got != want {
			p.Fatalf("%v by %v: %v, not %v", a, p.feed, got, want)
		}
	}
}

// step does one thing, picked by four bytes, and keeps the ticket that comes of it.
func (p *pair) step(b [4]byte, l []held) []held {
	p.Helper()
	name, other := fmt.Sprintf("n%d", b[1]%24), fmt.Sprintf("n%d", b[2]%24)
	if b[3] == 255 {
		name = "N"
	}
	switch b[0] % 16 {
	case 0, 1, 2:
		p.adds(name, int(b[2]%9)-1)
	case 3:
		p.offs(name, b[3]%2 == 0)
	case 4:
		p.offs(name, false)
	case 5, 6, 7, 8:
		wrong := 0
		if b[3]%8 == 0 {
			wrong = int(b[3])
		}
		if s, err := p.logs(name, p.proof(name)+wrong, other); err == nil {
			l = append(l, held{s, name, other, len(p.feed)})
		}
	case 9, 10, 11:
		if len(l) > 0 {
			h := l[int(b[1])%len(l)]
			if b[3]%8 == 0 {
				h.service = other
			}
			if s, err := p.renews(h.text, h.service); err == nil {
				l = append(l, held{s, h.who, h.service, len(p.feed)})
			}
		}
	case 12:
		p.revokes(name)
	case 13:
		p.rekeys(name, int(b[2]%9)-1)
	case 14:
		if b[3]%4 == 0 {
			p.flushes()
		}
	case 15:
		p.goes(int(b[2]) - 9)
	}
	return l
}

// walk takes many steps, and compares with how it was, or with a copy, now and then.
func walk(t *testing.T, key, long int, steps []byte) {
	t.Helper()
	p := newPair(t, key, long)
	var l []held
	before := p.copied()
	for ; len(steps) >= 4; steps = steps[4:] {
		b := [4]byte(steps)
		l = p.step(b, l)
		if b[3]%16 == 1 {
			if realm.Same(p.realm, before.realm) != (outlook(t, p.realm) == outlook(t, before.realm)) {
				t.Fatalf("Same(%+v, %+v): %v", *p, *before, realm.Same(p.realm, before.realm))
			}
			before = p.copied()
		}
		if b[3]%16 == 2 {
			p = p.copied()
		}
	}
	p.checkHeld(l)
}

// P123, with P120, P121 and P122: whatever is done, against how the document tells it.
func TestWalks(t *testing.T) {
	for seed := range int64(200) {
		source := rand.New(rand.NewSource(seed))
		steps := make([]byte, 4*400)
		source.Read(steps)
		walk(t, goodKeys[seed%6], goodLongs[source.Intn(6)], steps)
	}
}

// P1 and P123: look for more.
func FuzzRealms(f *testing.F) {
	f.Add(7, 50, "ann", 5, 5, "x", []byte{0, 1, 5, 1, 5, 1, 1, 1, 9, 0, 0, 1, 12, 1, 0, 1})
	f.Add(1, 1, "", 0, -1, "", []byte{14, 0, 0, 0, 0, 1, 3, 1, 15, 0, 90, 0, 5, 1, 1, 1})
	f.Add(api.MaxKey, api.MaxTime, "abcdefgh", api.MaxKey, api.MaxTime, "ticket ann door 1 0 9 1 77", []byte(strings.Repeat("some more bytes to go by", 9)))
	f.Add(0, 0, "é", math.MaxInt, math.MinInt, strings.Repeat("a ", 2222), []byte{})
	f.Fuzz(func(t *testing.T, key, long int, name string, other, ticks int, text string, steps []byte) {
		if r, err := realm.New(key, long); r == nil || err != nil {
			if key >= 1 && key <= 1000000006 && long >= 1 && long <= 1000000 {
				t.Fatal(r, err)
			}
			return
		}
		walk(t, key, long, steps[:min(len(steps), 1600)])
		p := newPair(t, key, long)
		p.does(p.adds("n", 5))
		p.adds(name, other)
		p.goes(ticks)
		p.logs(name, ticks, "n")
		p.logs("n", p.proof("n"), name)
		p.renews(text, "n")
		p.renews(text, name)
		p.revokes(name)
		p.rekeys(name, ticks)
		p.offs(name, true)
		p.flushes()
	})
}
