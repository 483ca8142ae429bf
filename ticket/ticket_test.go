package ticket_test

import (
	"fmt"
	"math"
	"slices"
	"strconv"
	"strings"
	"testing"

	"keyholder/api"
	"keyholder/seal"
	"keyholder/ticket"
)

var (
	keys       = []int{1, 5, 257, 123456789, api.MaxKey}
	wrongKeys  = []int{0, -1, api.MaxKey + 1, math.MinInt, math.MaxInt}
	wrongNums  = []int{0, -1, api.MaxNum + 1, math.MinInt, math.MaxInt}
	wrongTimes = []int{-1, api.MaxTime + 1, math.MinInt, math.MaxInt}
	wrongNames = []string{"", " ", "A", "annA", "a-b", "*", "a*", "-", "a ", " a", "a b", "é", "\xff", "a\x00", "ann\n", "abcdefghi", strings.Repeat("a", 1<<16)}
	goodNames  = []string{"a", "z", "0", "9", "ann", "9a", "abcdefgh", "12345678", "ticket"}
)

// ann has the ticket that most tests change something of.
func ann() api.Ticket {
	return api.Ticket{Who: "ann", For: "door", Epoch: 2, From: 3, Until: 9, Serial: 7}
}

func goodTickets() []api.Ticket {
	var all []api.Ticket
	for i, who := range goodNames {
		all = append(all, api.Ticket{Who: who, For: goodNames[len(goodNames)-1-i], Epoch: 1 + i, From: i, Until: 10 * i, Serial: 100 + i})
	}
	for _, num := range []int{1, 2, api.MaxNum - 1, api.MaxNum} {
		for _, serial := range []int{1, 2, api.MaxNum - 1, api.MaxNum} {
			for _, span := range [][2]int{{0, 0}, {0, 1}, {0, api.MaxTime}, {3, 3}, {3, 9}, {api.MaxTime - 1, api.MaxTime}, {api.MaxTime, api.MaxTime}} {
				all = append(all, api.Ticket{Who: "ann", For: "door", Epoch: num, From: span[0], Until: span[1], Serial: serial})
			}
		}
	}
	return append(all, api.Ticket{Who: "ann", For: "ann", Epoch: 1, From: 0, Until: 1, Serial: 1})
}

type wrongTicket struct {
	t   api.Ticket
	err error
}

// wrongTickets: each with one thing wrong, and with a wrong name beside every wrong number, which goes ahead of it.
func wrongTickets() []wrongTicket {
	var all []wrongTicket
	add := func(err error, change func(*api.Ticket)) {
		t := ann()
		change(&t)
		all = append(all, wrongTicket{t, err})
	}
	for _, name := range wrongNames {
		add(api.ErrName, func(t *api.Ticket) { t.Who = name })
		add(api.ErrName, func(t *api.Ticket) { t.For = name })
		add(api.ErrName, func(t *api.Ticket) { t.Who, t.For = name, name })
	}
	for _, change := range wrongNumbers() {
		add(api.ErrBound, change)
		add(api.ErrName, func(t *api.Ticket) { change(t); t.Who = "a-b" })
		add(api.ErrName, func(t *api.Ticket) { change(t); t.For = "a-b" })
	}
	return append(all, wrongTicket{api.Ticket{}, api.ErrName})
}

func wrongNumbers() []func(*api.Ticket) {
	var all []func(*api.Ticket)
	for _, n := range wrongNums {
		all = append(all, func(t *api.Ticket) { t.Epoch = n }, func(t *api.Ticket) { t.Serial = n })
	}
	for _, n := range wrongTimes {
		all = append(all,
			func(t *api.Ticket) { t.From = n },
			func(t *api.Ticket) { t.Until = n },
			func(t *api.Ticket) { t.From, t.Until = n, n })
	}
	return append(all,
		func(t *api.Ticket) { t.From, t.Until = 9, 8 },
		func(t *api.Ticket) { t.From, t.Until = 1, 0 },
		func(t *api.Ticket) { t.From, t.Until = api.MaxTime, api.MaxTime-1 },
		func(t *api.Ticket) { t.From, t.Until = api.MaxTime, 0 })
}

func wordsOf(t api.Ticket) []string {
	return strings.Split(fmt.Sprintf("ticket %s %s %d %d %d %d", t.Who, t.For, t.Epoch, t.From, t.Until, t.Serial), " ")
}

func sealed(t *testing.T, key int, w []string) string {
	t.Helper()
	s, err := seal.Make(key, w)
	if err != nil {
		t.Fatalf("seal.Make(%d, %q): %v", key, w, err)
	}
	return s
}

// wants asks both Open and Look of a text, and wants that error itself, and no ticket.
func wants(t *testing.T, key int, s string, want error) {
	t.Helper()
	if got, err := ticket.Open(key, s); got != (api.Ticket{}) || err != want {
		t.Errorf("Open(%d, %.80q): %v, %v, not %v", key, s, got, err, want)
	}
	if got, err := ticket.Look(s); got != (api.Ticket{}) || err != want {
		t.Errorf("Look(%.80q): %v, %v, not %v", s, got, err, want)
	}
}

// P40: every edge.
func TestCheckGood(t *testing.T) {
	for _, c := range goodTickets() {
		if err := ticket.Check(c); err != nil {
			t.Errorf("%v: %v", c, err)
		}
	}
}

// P40 with P3: ErrName goes ahead of ErrBound.
func TestCheckErrorsInOrder(t *testing.T) {
	for _, c := range wrongTickets() {
		if err := ticket.Check(c.t); err != c.err {
			t.Errorf("%.80q: %v, not %v", fmt.Sprint(c.t), err, c.err)
		}
	}
}

// P40, marks reckoned apart.
func TestMakeByHand(t *testing.T) {
	for _, c := range []struct {
		key  int
		t    api.Ticket
		want string
	}{
		{5, ann(), "ticket ann door 2 3 9 7 185608988"},
		{1, api.Ticket{Who: "a", For: "b", Epoch: 1, Serial: 1}, "ticket a b 1 0 0 1 690406596"},
		{
			api.MaxKey,
			api.Ticket{Who: "abcdefgh", For: "12345678", Epoch: api.MaxNum, From: api.MaxTime, Until: api.MaxTime, Serial: api.MaxNum},
			"ticket abcdefgh 12345678 1073741824 1000000 1000000 1073741824 996681744",
		},
	} {
		if s, err := ticket.Make(c.key, c.t); s != c.want || err != nil {
			t.Errorf("Make(%d, %v): %q, %v", c.key, c.t, s, err)
		}
		if got, err := ticket.Open(c.key, c.want); got != c.t || err != nil {
			t.Errorf("Open(%d, %q): %v, %v", c.key, c.want, got, err)
		}
	}
}

// P40 and P42.
func TestOpenedAsItWasMade(t *testing.T) {
	for _, key := range keys {
		for _, c := range goodTickets() {
			s, err := ticket.Make(key, c)
			if want := sealed(t, key, wordsOf(c)); s != want || err != nil {
				t.Errorf("Make(%d, %v): %q, %v, not %q", key, c, s, err, want)
			}
			if got, err := ticket.Open(key, s); got != c || err != nil {
				t.Errorf("Open(%d, %q): %v, %v", key, s, got, err)
			}
			if got, err := ticket.Look(s); got != c || err != nil {
				t.Errorf("Look(%q): %v, %v", s, got, err)
			}
		}
	}
}

// P40 with P3: ErrKey goes ahead of Check's, and those ahead of what seal would say of the words.
func TestMakeErrorsInOrder(t *testing.T) {
	for _, key := range wrongKeys {
		if s, err := ticket.Make(key, ann()); s != "" || err != api.ErrKey {
			t.Errorf("Make(%d): %q, %v", key, s, err)
		}
	}
	for _, c := range wrongTickets() {
		for _, key := range wrongKeys {
			if s, err := ticket.Make(key, c.t); s != "" || err != api.ErrKey {
				t.Errorf("Make(%d, %.80q): %q, %v", key, fmt.Sprint(c.t), s, err)
			}
		}
		for _, key := range keys {
			if s, err := ticket.Make(key, c.t); s != "" || err != c.err {
				t.Errorf("Make(%d, %.80q): %q, %v, not %v", key, fmt.Sprint(c.t), s, err, c.err)
			}
		}
	}
}

// P40 with P3: seal.Open's ErrKey ahead of all else.
func TestOpenWithWrongKeys(t *testing.T) {
	for _, key := range wrongKeys {
		for _, s := range []string{"", "a", "a 1388", "A 1", sealed(t, 5, wordsOf(ann())), "ticket ann door 2 3 9 7 1", strings.Repeat("a ", api.MaxText)} {
			if got, err := ticket.Open(key, s); got != (api.Ticket{}) || err != api.ErrKey {
				t.Errorf("Open(%d, %.40q): %v, %v", key, s, got, err)
			}
		}
	}
}

// P40: texts that seal takes for none.
func TestNoSealedTexts(t *testing.T) {
	s := sealed(t, 5, wordsOf(ann()))
	for _, none := range []string{
		"", " ", "ticket", s + " ", " " + s, s + "\n", strings.Replace(s, " ", "  ", 1), strings.ToUpper(s), strings.ReplaceAll(s, " ", "_"),
		"ticket ann door 2 3 9 7 0185608988", "ticket ann door 2 3 9 7 1000000007", "ticket ann door 2 3 9 7 -1", "ticket ann do_or 2 3 9 7 1",
		strings.Repeat("a", api.MaxText), strings.Repeat("ticket ", 400),
	} {
		wants(t, 5, none, api.ErrText)
	}
	for _, long := range []string{s + strings.Repeat(" ", api.MaxText), strings.Repeat("ticket ", 1000), strings.Repeat("a", api.MaxText+1)} {
		wants(t, 5, long, api.ErrBound)
	}
}

// P40 with P3: another mark goes ahead of what the words are; Look asks nothing of it.
func TestAnotherMark(t *testing.T) {
	none := ann()
	none.Epoch = 0
	for _, w := range [][]string{wordsOf(ann()), wordsOf(none), {"ticket"}, {"head", "1", "2", "3"}} {
		s := sealed(t, 5, w)
		for _, key := range []int{1, 4, 6, api.MaxKey} {
			if got, err := ticket.Open(key, s); got != (api.Ticket{}) || err != api.ErrMark {
				t.Errorf("Open(%d, %q): %v, %v", key, s, got, err)
			}
		}
	}
	for _, s := range []string{"ticket ann door 2 3 9 7 0", "ticket ann door 2 3 9 7 1000000006", "ticket ann door 2 3 9 7 185608987"} {
		if got, err := ticket.Open(5, s); got != (api.Ticket{}) || err != api.ErrMark {
			t.Errorf("Open(5, %q): %v, %v", s, got, err)
		}
		if got, err := ticket.Look(s); got != ann() || err != nil {
			t.Errorf("Look(%q): %v, %v", s, got, err)
		}
	}
}

// P40: as many words, the first of them, and four numbers; that goes ahead of Check's.
func TestWordsOfNoTicket(t *testing.T) {
	for _, line := range []string{
		"ticket", "ticket ann", "ticket ann door", "ticket ann door 2 3 9", "ticket ann door 2 3 9 7 1", "ticket ann door 2 3 9 7 1 1 1",
		"tickets ann door 2 3 9 7", "ticke ann door 2 3 9 7", "head ann door 2 3 9 7", "ann door 2 3 9 7", "ann ticket door 2 3 9 7", "* ann door 2 3 9 7", "7 ann door 2 3 9 7",
		"head 1 2 3", "ticket a-b door 2 3 9", "tickets a-b door 0 3 9 7", "ticket 2 3 9 7 ann door",
	} {
		wants(t, 5, sealed(t, 5, strings.Split(line, " ")), api.ErrText)
	}
	for at := 3; at <= 6; at++ {
		for _, none := range []string{"x", "00", "01", "02", "2x", "x2", "-", "*", "-0", "-1", "2-", "1e1", "10000000000", "00000000002", "18446744073709551618", strings.Repeat("9", 20)} {
			for _, who := range []string{"ann", "a-b"} {
				w := []string{"ticket", who, "door", "2", "3", "9", "7"}
				w[at] = none
				wants(t, 5, sealed(t, 5, w), api.ErrText)
			}
		}
	}
}

// P40: words of a ticket that Check refuses; a number of ten digits is one, however great.
func TestWordsOfWrongTickets(t *testing.T) {
	for _, c := range wrongTickets() {
		w := wordsOf(c.t)
		s, err := seal.Make(5, w)
		isSealed := err == nil && len(w) == 7
		areNumbers := min(c.t.Epoch, c.t.From, c.t.Until, c.t.Serial) >= 0 && max(c.t.Epoch, c.t.From, c.t.Until, c.t.Serial) <= 9999999999
		if isSealed && areNumbers {
			wants(t, 5, s, c.err)
		}
	}
	for at := 3; at <= 6; at++ {
		for _, great := range []int{api.MaxNum + 1, 9999999999} {
			w := wordsOf(ann())
			w[at] = strconv.Itoa(great)
			wants(t, 5, sealed(t, 5, w), api.ErrBound)
			w[2] = "a*b"
			wants(t, 5, sealed(t, 5, w), api.ErrName)
		}
	}
	for _, w := range [][]string{
		{"ticket", "abcdefghi", "door", "2", "3", "9", "7"}, {"ticket", "ann", "*", "2", "3", "9", "7"}, {"ticket", "-", "door", "0", "0", "0", "0"},
	} {
		wants(t, 5, sealed(t, 5, w), api.ErrName)
	}
}

// P42: what is changed by a byte is not opened as another ticket (as long as the mark begins where it began).
func TestAnotherByteIsNotOpened(t *testing.T) {
	for _, key := range keys {
		s := sealed(t, key, wordsOf(ann()))
		begins := strings.LastIndex(s, " ")
		for at := range len(s) {
			for b := range 256 {
				changed := s[:at] + string([]byte{byte(b)}) + s[at+1:]
				if changed == s || strings.LastIndex(changed, " ") != begins {
					continue
				}
				if got, err := ticket.Open(key, changed); got != (api.Ticket{}) || err != api.ErrMark && err != api.ErrText {
					t.Fatalf("key %d, %q as %q: %v, %v", key, s, changed, got, err)
				}
			}
		}
	}
}

// P41: from From on, below Until.
func TestGood(t *testing.T) {
	for _, c := range []struct {
		from, until, now int
		want             error
	}{
		{3, 9, 3, nil}, {3, 9, 4, nil}, {3, 9, 8, nil},
		{3, 9, 2, api.ErrEarly}, {3, 9, 0, api.ErrEarly}, {3, 9, 9, api.ErrLate}, {3, 9, 10, api.ErrLate}, {3, 9, api.MaxTime, api.ErrLate},
		{0, 1, 0, nil}, {0, 1, 1, api.ErrLate}, {0, 0, 0, api.ErrLate}, {5, 5, 4, api.ErrEarly}, {5, 5, 5, api.ErrLate}, {5, 5, 6, api.ErrLate},
		{0, api.MaxTime, 0, nil}, {0, api.MaxTime, api.MaxTime - 1, nil}, {0, api.MaxTime, api.MaxTime, api.ErrLate},
		{api.MaxTime, api.MaxTime, api.MaxTime, api.ErrLate}, {api.MaxTime, api.MaxTime, api.MaxTime - 1, api.ErrEarly},
	} {
		a := ann()
		a.From, a.Until = c.from, c.until
		if err := ticket.Good(a, c.now); err != c.want {
			t.Errorf("from %d until %d at %d: %v, not %v", c.from, c.until, c.now, err, c.want)
		}
	}
}

// P41 with P3: Check's go ahead of now's ErrBound, and that ahead of ErrEarly and ErrLate.
func TestGoodErrorsInOrder(t *testing.T) {
	nows := append(slices.Clone(wrongTimes), 0, 2, 5, 9, api.MaxTime)
	for _, c := range wrongTickets() {
		for _, now := range nows {
			if err := ticket.Good(c.t, now); err != c.err {
				t.Errorf("%.80q at %d: %v, not %v", fmt.Sprint(c.t), now, err, c.err)
			}
		}
	}
	for _, c := range goodTickets() {
		for _, now := range wrongTimes {
			if err := ticket.Good(c, now); err != api.ErrBound {
				t.Errorf("%v at %d: %v", c, now, err)
			}
		}
	}
}

// P41: the rest of a ticket stays.
func TestRenew(t *testing.T) {
	for _, c := range []struct{ now, until, serial, wantUntil int }{
		{3, 9, 7, 9}, {5, 7, 9, 7}, {5, 8, 9, 8}, {5, 9, 9, 9}, {5, 10, 9, 9}, {8, 9, 1, 9}, {8, 8, 1, 8}, {3, 3, 1, 3},
		{5, api.MaxTime, api.MaxNum, 9}, {5, api.MaxTime + 1, 1, 9}, {8, math.MaxInt, 1, 9},
	} {
		for _, old := range []api.Ticket{ann(), {Who: "bob", For: "abcdefgh", Epoch: api.MaxNum, From: 0, Until: 9, Serial: api.MaxNum}} {
			want := old
			want.From, want.Until, want.Serial = c.now, c.wantUntil, c.serial
			if got, err := ticket.Renew(old, c.now, c.until, c.serial); got != want || err != nil {
				t.Errorf("Renew(%v, %d, %d, %d): %v, %v", old, c.now, c.until, c.serial, got, err)
			}
		}
	}
}

// P41 with P3: Good's go ahead of Check's of what would be; with an error there is no ticket.
func TestRenewErrorsInOrder(t *testing.T) {
	refuses := func(old api.Ticket, now, until, serial int, want error) {
		t.Helper()
		if got, err := ticket.Renew(old, now, until, serial); got != (api.Ticket{}) || err != want {
			t.Errorf("Renew(%.80q, %d, %d, %d): %v, %v, not %v", fmt.Sprint(old), now, until, serial, got, err, want)
		}
	}
	for _, untilAndSerial := range [][2]int{{7, 9}, {7, 0}, {-1, 9}, {math.MinInt, math.MinInt}, {math.MaxInt, math.MaxInt}} {
		until, serial := untilAndSerial[0], untilAndSerial[1]
		for _, c := range wrongTickets() {
			for _, now := range []int{-1, 2, 5, 9} {
				refuses(c.t, now, until, serial, c.err)
			}
		}
		for _, now := range wrongTimes {
			refuses(ann(), now, until, serial, api.ErrBound)
		}
		refuses(ann(), 2, until, serial, api.ErrEarly)
		refuses(ann(), 9, until, serial, api.ErrLate)
		refuses(ann(), api.MaxTime, until, serial, api.ErrLate)
	}
	for _, until := range []int{4, 3, 0, -1, math.MinInt} {
		refuses(ann(), 5, until, 9, api.ErrBound)
	}
	for _, serial := range wrongNums {
		refuses(ann(), 5, 7, serial, api.ErrBound)
		refuses(ann(), 5, 4, serial, api.ErrBound)
	}
}

// P42: of all small spans, at every time, renewed until any other.
func TestRenewedIsGoodNoLonger(t *testing.T) {
	const top = 6
	for from := range top {
		for until := from; until < top; until++ {
			old := api.Ticket{Who: "ann", For: "door", Epoch: 1, From: from, Until: until, Serial: 1}
			for now := range top {
				for asked := -1; asked <= top; asked++ {
					renewed, err := ticket.Renew(old, now, asked, 2)
					if is := from <= now && now < until && asked >= now; is != (err == nil) {
						t.Fatalf("Renew(%v, %d, %d): %v, %v", old, now, asked, renewed, err)
					}
					noLonger(t, old, renewed, top)
				}
			}
		}
	}
}

func noLonger(t *testing.T, old, renewed api.Ticket, top int) {
	t.Helper()
	for then := range top + 1 {
		if ticket.Good(renewed, then) == nil && ticket.Good(old, then) != nil {
			t.Fatalf("%v of %v is good at %d", renewed, old, then)
		}
	}
}

// P42: renewed again and again, and handed over as texts, it ends when the first one does.
func TestRenewedAgainAndAgain(t *testing.T) {
	first := ann()
	last := first
	for now := first.From; now < first.Until; now++ {
		renewed, err := ticket.Renew(last, now, now+50, last.Serial+1)
		if err != nil {
			t.Fatal(now, err)
		}
		s, err := ticket.Make(5, renewed)
		if err != nil {
			t.Fatal(now, err)
		}
		if last, err = ticket.Open(5, s); last != renewed || err != nil {
			t.Fatal(now, last, err)
		}
		noLonger(t, first, last, 20)
	}
	if want := (api.Ticket{Who: "ann", For: "door", Epoch: 2, From: 8, Until: 9, Serial: 13}); last != want {
		t.Error(last)
	}
	if _, err := ticket.Renew(last, 9, 59, 14); err != api.ErrLate {
		t.Error(err)
	}
}

// P1, P2 and P42: whatever is given, a call ends, and a second one answers the same; what is opened is what would be made.
func FuzzTexts(f *testing.F) {
	f.Add(5, "ticket ann door 2 3 9 7 185608988")
	f.Add(0, "")
	f.Add(5, "ticket a-b door 0 3 9 7 1")
	f.Fuzz(func(t *testing.T, key int, s string) {
		opened, err := ticket.Open(key, s)
		if again, errAgain := ticket.Open(key, s); opened != again || err != errAgain {
			t.Fatal(opened, again, err, errAgain)
		}
		looked, errLook := ticket.Look(s)
		if err == nil && (looked != opened || errLook != nil) || errLook != nil && looked != (api.Ticket{}) || err != nil && opened != (api.Ticket{}) {
			t.Fatal(opened, looked, err, errLook)
		}
		made, errMake := ticket.Make(key, looked)
		if errLook == nil && (errMake == nil) != (err != api.ErrKey) {
			t.Fatal(errMake, err)
		}
		if errLook == nil && errMake == nil && (made == s) != (err == nil) {
			t.Fatal(made, s, err)
		}
	})
}

// P1, P41 and P42: look for more.
func FuzzTickets(f *testing.F) {
	f.Add(5, "ann", "door", 2, 3, 9, 7, 5, 7, 9)
	f.Add(0, "", "", 0, 0, 0, 0, 0, 0, 0)
	f.Add(5, "ann", "door", api.MaxNum, 0, api.MaxTime, api.MaxNum, 8, math.MaxInt, 1)
	f.Fuzz(func(t *testing.T, key int, who, service string, epoch, from, until, serial, now, asked, next int) {
		old := api.Ticket{Who: who, For: service, Epoch: epoch, From: from, Until: until, Serial: serial}
		s, err := ticket.Make(key, old)
		if opened, errOpen := ticket.Open(key, s); err == nil && (opened != old || errOpen != nil) {
			t.Fatal(s, opened, errOpen)
		}
		if errCheck := ticket.Check(old); err != api.ErrKey && err != errCheck {
			t.Fatal(err, errCheck)
		}
		renewed, err := ticket.Renew(old, now, asked, next)
		if err != nil && renewed != (api.Ticket{}) {
			t.Fatal(renewed, err)
		}
		if err == nil && (ticket.Check(renewed) != nil || ticket.Good(old, now) != nil || renewed.From != now || renewed.Until > old.Until || renewed.Until > asked) {
			t.Fatal(old, renewed)
		}
	})
}
