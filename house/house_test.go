package house_test

import (
	"errors"
	"fmt"
	"math/rand"
	"slices"
	"strings"
	"testing"

	"keyholder/api"
	"keyholder/feed"
	"keyholder/house"
	"keyholder/realm"
	"keyholder/tape"
)

// spelt is a line in which $ was told for the newest ticket, and ? for the right proof.
func (m *model) spelt(line, ticket string) string {
	if w := strings.Split(line, " "); len(w) > 1 {
		line = strings.ReplaceAll(line, "?", fmt.Sprint(m.proof(w[1])))
	}
	return strings.ReplaceAll(line, "$", ticket)
}

// changers are lines each of which changes a house, in this order.
func changers(t *testing.T) []string {
	t.Helper()
	m, ticket := newModel(), ""
	for _, line := range []string{"person ann 5", "service door 8", "push", "login ann ? door", "enter door $", "tick 3", "renew $ door", "enter door $", "close 1", "revoke ann", "off ann", "push", "sweep door", "on ann", "rekey ann 6", "flush", "push", "login ann ? door", "tick 0", "enter door $"} {
		answer, err := m.does(m.spelt(line, ticket))
		if err != nil {
			t.Fatal(line, err)
		}
		if strings.HasPrefix(answer, "ticket") {
			ticket = answer
		}
	}
	return m.lines
}

// P140: a tale, with what is answered written out.
func TestByHand(t *testing.T) {
	h := house.New()
	step := func(line, want string) string {
		t.Helper()
		got, err := h.Do(line)
		if err != nil {
			got += err.Error()
		}
		if begin, ok := strings.CutSuffix(want, ".."); got != want && !(ok && strings.HasPrefix(got, begin)) {
			t.Errorf("Do(%q): %q, not %q", line, got, want)
		}
		return got
	}
	step("sessions", "nothing")
	step("people", "nothing")
	step("person ann 5", "ok")
	step("service door 8", "ok")
	step("service gate 8", "ok")
	step("people", "ann:1 door:1 gate:1")
	step("floors door", "-")
	proof := step("prove ann 5", "85598481")
	one := step("login ann "+proof+" door", "ticket_ann_door_1_0_50_1_..")
	step("enter door "+one, "keyholder: stale")
	step("push", "ok")
	step("tick 3", "3")
	step("enter gate "+one, "keyholder: name")
	step("enter door "+one, "1")
	step("enter door "+one, "keyholder: exist")
	two := step("renew "+one+" door", "ticket_ann_door_1_3_50_2_..")
	step("enter door "+two, "2")
	step("ask 2", "ann")
	step("revoke ann", "2")
	step("floors door", "-")
	step("renew "+two+" door", "keyholder: floor")
	step("sweep door", "nothing")
	step("push", "ok")
	step("floors door", "ann:2")
	step("floors gate", "ann:2")
	step("close 1", "ok")
	step("close 1", "keyholder: none")
	step("sessions", "2")
	step("sweep gate", "2")
	step("rekey ann 9", "3")
	step("flush", "4")
	step("person bob 6", "ok")
	step("off bob", "ok")
	step("off bob", "keyholder: exist")
	step("push", "ok")
	step("revoke bob", "5")
	if got, want := h.Text(), "people ann:4 bob:5 door:4 gate:4\nsessions nothing\nfloors door *:4\nfloors gate *:4\n"; got != want {
		t.Errorf("%s not %s", got, want)
	}
	want := "12:person ann 5\n.14:service door 8\n.14:service gate 8\n."
	want += fmt.Sprintf("%d:login ann %s door\n.4:push\n.6:tick 3\n.", len("login ann  door")+len(proof), proof)
	want += fmt.Sprintf("%d:enter door %s\n.", len("enter door ")+len(one), one)
	if got := h.Tape().Bytes(); !strings.HasPrefix(got, want) || !strings.HasSuffix(got, "\n.7:off bob\n.4:push\n.10:revoke bob\n.") {
		t.Errorf("%q, not %q", got, want)
	}
}

// P140: a house that is new: a tape with nothing on it, and a realm of key 7 whose tickets last 50.
func TestNew(t *testing.T) {
	p := newPair(t)
	r, err := realm.New(7, 50)
	if err != nil || !realm.Same(p.house.Realm(), r) {
		t.Error("another realm", err)
	}
	if p.house.Tape().Bytes() != "" || !p.house.Tape().Power() {
		t.Error("another tape")
	}
	p.answers("sessions", "nothing")
	p.answers("people", "nothing")
	p.refuses("ask 1", api.ErrNone)
}

// P140: each command, as it goes well.
func TestEachCommand(t *testing.T) {
	p := having(t)
	p.answers("person cyd 7", "ok")
	p.answers("service gate 8", "ok")
	p.answers("off cyd", "ok")
	p.answers("on cyd", "ok")
	p.answers("push", "ok")
	p.answers("tick 9", "9")
	p.answers("tick 0", "9")
	one, two := p.comes("ann", "door"), p.comes("bob", "gate")
	if want := word(8, api.Ticket{Who: "ann", For: "door", Epoch: 1, From: 9, Until: 59, Serial: 1}); one != want {
		t.Errorf("%s, not %s", one, want)
	}
	p.answers("enter door "+one, "1")
	p.answers("enter gate "+two, "2")
	p.answers("sessions", "1 2")
	p.answers("ask 1", "ann")
	p.answers("ask 2", "bob")
	p.answers("tick 1", "10")
	three := p.good("renew " + one + " door")
	if want := word(8, api.Ticket{Who: "ann", For: "door", Epoch: 1, From: 10, Until: 59, Serial: 3}); three != want {
		t.Errorf("%s, not %s", three, want)
	}
	p.answers("revoke ann", "2")
	p.answers("rekey bob 66", "2")
	p.answers("push", "ok")
	p.answers("floors door", "ann:2,bob:2")
	p.answers("people", "ann:2 bob:2 cyd:1 door:1 gate:1")
	p.answers("sweep gate", "1 2")
	p.answers("flush", "3")
	p.answers("push", "ok")
	p.answers("floors gate", "*:3")
	p.answers("person dan 5", "ok")
	p.answers("people", "ann:3 bob:3 cyd:3 dan:3 door:3 gate:3")
	p.answers("enter door "+p.comes("dan", "door"), "3")
	p.answers("close 3", "ok")
	p.answers("sessions", "nothing")
}

// P140: a proof is of the name and of the time, with any key; nobody of that name need be there.
func TestProve(t *testing.T) {
	p := having(t)
	for range 3 {
		for _, name := range []string{"ann", "bob", "zed", "Z", ""} {
			for _, key := range []int{1, 5, 6, api.MaxKey} {
				p.good(fmt.Sprintf("prove %s %d", name, key))
			}
		}
		p.refuses("login ann "+p.good("prove ann 6")+" door", api.ErrMark)
		p.refuses("login ann "+p.good("prove bob 5")+" door", api.ErrMark)
		old := p.good("prove ann 5")
		p.good("login ann " + old + " door")
		p.good("tick 11")
		p.refuses("login ann "+old+" door", api.ErrMark)
	}
	p.refuses("prove ann 0", api.ErrKey)
	p.refuses("prove ann 1000000007", api.ErrKey)
}

// P140: heads may be 20 old; a push with nothing new makes them fresh.
func TestHeadsGrowOld(t *testing.T) {
	p := having(t)
	for range 4 {
		p.good("enter door " + p.comes("ann", "door"))
		p.good("tick 20")
		p.good("enter door " + p.comes("ann", "door"))
		p.good("tick 1")
		one := p.comes("ann", "door")
		p.refuses("enter door "+one, api.ErrStale)
		p.good("push")
		p.good("enter door " + one)
	}
	p.good("service gate 9")
	p.refuses("enter gate "+p.comes("ann", "gate"), api.ErrStale)
}

// P140: tickets last 50, and so do sessions; what is late stays until it is swept.
func TestTicketsLast(t *testing.T) {
	p := having(t)
	one := p.comes("ann", "door")
	p.answers("enter door "+one, "1")
	p.good("tick 49")
	p.answers("ask 1", "ann")
	p.answers("sweep door", "nothing")
	two := p.good("renew " + one + " door")
	p.good("push")
	p.good("enter door " + two)
	p.good("tick 1")
	p.refuses("ask 1", api.ErrLate)
	p.refuses("ask 2", api.ErrLate)
	p.answers("sessions", "1 2")
	p.refuses("renew "+two+" door", api.ErrLate)
	p.refuses("enter door "+two, api.ErrLate)
	p.answers("close 1", "ok")
	p.answers("sweep door", "2")
	p.good("tick 999949")
	p.good("push")
	p.refuses("login ann "+fmt.Sprint(p.proof("ann"))+" zed", api.ErrNone)
	p.good("enter door " + p.comes("ann", "door"))
	p.answers("tick 1", "1000000")
	p.refuses("login ann "+fmt.Sprint(p.proof("ann"))+" door", api.ErrBound)
	p.answers("sweep door", "3")
	p.refuses("tick 1", api.ErrBound)
	p.answers("tick 0", "1000000")
}

// P140: each gate takes what it has not, whenever it came to be.
func TestPush(t *testing.T) {
	p := newPair(t, "push", "person ann 5", "service door 8", "revoke ann", "push", "service gate 9", "tick 4", "revoke ann", "revoke ann")
	p.answers("floors door", "ann:2")
	p.answers("floors gate", "-")
	p.answers("push", "ok")
	p.answers("floors door", "ann:4")
	p.answers("floors gate", "ann:4")
	p.good("service alley 3")
	p.good("flush")
	p.good("revoke gate")
	p.answers("floors alley", "-")
	p.answers("push", "ok")
	for _, name := range []string{"alley", "door", "gate"} {
		p.answers("floors "+name, "*:5,gate:6")
	}
	p.answers("push", "ok")
}

// P140: what was seen is seen at every gate, until it is 50 old; a ticket of one's own making may last longer.
func TestSeen(t *testing.T) {
	p := having(t)
	p.good("service gate 9")
	p.good("push")
	forged := func(service string, key, from, until, serial int) string {
		return "enter " + service + " " + word(key, api.Ticket{Who: "ann", For: service, Epoch: 1, From: from, Until: until, Serial: serial})
	}
	p.answers(forged("door", 8, 0, 900, 7), "1")
	p.refuses(forged("gate", 9, 0, 900, 7), api.ErrExist)
	p.answers(forged("gate", 9, 0, 900, 1<<30), "2")
	p.refuses(forged("gate", 9, 1, 900, 8), api.ErrEarly)
	p.good("tick 50")
	p.good("push")
	p.refuses(forged("door", 8, 0, 900, 7), api.ErrExist)
	p.answers(forged("door", 8, 0, 900, 8), "3")
	p.answers(forged("door", 8, 1, 900, 9), "4")
	p.good("tick 1")
	p.refuses(forged("door", 8, 0, 900, 10), api.ErrLate)
	p.refuses(forged("door", 8, 1, 900, 9), api.ErrExist)
	p.answers(forged("door", 8, 2, 900, 7), "5")
}

// P140 with P141: at most 40 are seen, and at most 40 sessions open; one that is refused is not seen.
func TestFullHouse(t *testing.T) {
	p := having(t)
	for n := range 40 {
		p.answers("enter door "+p.comes("ann", "door"), fmt.Sprint(n+1))
	}
	p.good("tick 20")
	one := p.comes("ann", "door")
	p.refuses("enter door "+one, api.ErrFull) // both
	p.good("close 7")
	p.refuses("enter door "+one, api.ErrFull) // what was seen
	p.good("tick 20")
	p.good("push")
	p.good("tick 10")
	p.refuses("enter door "+one, api.ErrFull)
	p.good("tick 1")
	p.answers("enter door "+one, "41")
	two := p.comes("bob", "door")
	p.refuses("enter door "+two, api.ErrFull) // sessions
	p.refuses("enter door "+one, api.ErrExist)
	p.good("close 40")
	p.answers("enter door "+two, "42")
	p.answers("sweep door", listed(slices.DeleteFunc(numbersTo(39), func(n int) bool { return n == 7 })))
	p.answers("sessions", "41 42")
}

func numbersTo(n int) []int {
	var l []int
	for i := range n {
		l = append(l, i+1)
	}
	return l
}

// P140 with P141: at most 20 people, services among them, and at most 60 entries.
func TestFullRealm(t *testing.T) {
	p := having(t)
	for n := len(p.people); n < 20; n++ {
		p.good(fmt.Sprintf("service s%d %d", n, n))
	}
	p.refuses("person zed 5", api.ErrFull)
	p.refuses("service zed 5", api.ErrFull)
	p.refuses("sweep zed", api.ErrNone)
	for range 60 {
		p.good("revoke ann")
	}
	p.refuses("revoke ann", api.ErrFull)
	p.refuses("rekey ann 9", api.ErrFull)
	p.refuses("flush", api.ErrFull)
	p.answers("push", "ok")
	p.answers("floors s19", "ann:61")
	p.good("login ann " + fmt.Sprint(p.proof("ann")) + " door")
}

// P140: what a realm does of a service's key is not told of its gate: that has the key with which it was made.
func TestGateKeepsItsKey(t *testing.T) {
	p := having(t)
	one := p.comes("ann", "door")
	p.good("rekey door 9")
	p.refuses("enter door "+p.comes("ann", "door"), api.ErrMark)
	p.refuses("renew "+one+" door", api.ErrMark)
	p.answers("enter door "+one, "1")
	p.good("service gate 9")
	p.good("push")
	p.answers("enter gate "+p.comes("ann", "gate"), "2")
	p.refuses("enter gate "+p.comes("ann", "door"), api.ErrName)
}

// P140: one who is no service has no gate, and yet a ticket may be for them.
func TestPeopleHaveNoGates(t *testing.T) {
	p := having(t)
	one := p.comes("ann", "bob")
	for _, line := range []string{"enter bob " + one, "sweep bob", "floors bob", "enter ann x", "floors ann"} {
		p.refuses(line, api.ErrNone)
	}
	p.good("renew " + one + " bob")
	p.refuses("renew "+one+" door", api.ErrMark)
	p.good("enter door " + p.comes("door", "door"))
}

// P141: none of these lines.
func TestNoLines(t *testing.T) {
	p := having(t)
	one := p.comes("ann", "door")
	lines := []string{"", " ", "what", "Push", "push ", " push", "push\n", "push 1", "push  ", "pus", "pushh", "flush 1", "flush ", "sessions 1", "sessions ", "people 1", " people", "people\x00", "NAME", "N", "person NAME", "off", "off ann now", "off  ann", "on", "on ann bob", "revoke", "revoke ann 1", "tick", "tick ", "tick 1 1", "tick  1", "close", "close 1 1", "ask", "ask ", "ask 1 ", "prove ann", "prove 5", "prove ann 5 5", "person ann", "person 5", "person  ann 5", "person ann  5", "person ann 5 ", "person ann 5 door", "service gate", "login ann 5", "login 5 door", "login ann door 5", "login ann 5 door x", "renew door", "renew " + one, "renew " + one + " door ", "renew " + strings.ReplaceAll(one, "_", " ") + " door", "rekey ann", "rekey 7", "rekey ann ann", "enter door", "enter " + one, "enter door " + strings.ReplaceAll(one, "_", " "), "enter door " + one + " 1", "sweep", "sweep door 1", "sweep door door", "floors", "floors door 1", "cut 1", "again", "text", "seal 5 a", "open 5 a 1"}
	for _, line := range lines {
		p.refuses(line, api.ErrText)
	}
	numbers := []string{"", "x", "-1", "+1", "01", "00", "1x", "x1", "1.0", "1_0", "0x1", "12345678901", "00000000001", "٣", "1\n", "\x00", "1e3", strings.Repeat("9", 5000)}
	for _, form := range forms {
		if !strings.Contains(" "+form+" ", " N ") {
			continue
		}
		for _, number := range numbers {
			line := strings.NewReplacer("NAME", "zed", "SERVICE", "zed").Replace(strings.Replace(" "+form+" ", " N ", " "+number+" ", 1))
			p.refuses(line[1:len(line)-1], api.ErrText)
		}
	}
}

// P141: numbers of up to ten digits are numbers: what is called tells what is wrong with them.
func TestGreatNumbers(t *testing.T) {
	p := having(t)
	for _, number := range []string{"9999999999", "2147483648", "4294967296", "1000000007"} {
		p.refuses("person cyd "+number, api.ErrKey)
		p.refuses("service cyd "+number, api.ErrKey)
		p.refuses("rekey ann "+number, api.ErrKey)
		p.refuses("prove ann "+number, api.ErrKey)
		p.refuses("login ann "+number+" door", api.ErrMark)
		p.refuses("tick "+number, api.ErrBound)
		p.refuses("close "+number, api.ErrNone)
		p.refuses("ask "+number, api.ErrNone)
	}
	p.refuses("tick 1000001", api.ErrBound)
	p.refuses("person cyd 0", api.ErrKey)
	p.refuses("rekey ann 0", api.ErrKey)
	p.good("person cyd 1000000006")
	p.good("tick 1000000")
}

// P141: any word may stand for a name: it is what is called that refuses it.
func TestWordsThatAreNoNames(t *testing.T) {
	p := having(t)
	for _, name := range []string{"", "A", "ann ", "abcdefghi", "*", "a-b", "é", "\xff", "\n", "zed"} {
		if strings.Contains(name, " ") {
			continue
		}
		if name != "zed" {
			p.refuses("person "+name+" 0", api.ErrName)
			p.refuses("service "+name+" 5", api.ErrName)
		}
		for _, line := range []string{"off NAME", "on NAME", "revoke NAME", "rekey NAME 0", "login NAME 5 door", "login ann 5 NAME", "renew x NAME", "enter NAME x", "sweep NAME", "floors NAME"} {
			p.refuses(strings.Replace(line, "NAME", name, 1), api.ErrNone)
		}
	}
}

// P141 with P3: of several errors the first is told, and with each nothing changes.
func TestErrorsInOrder(t *testing.T) {
	p := having(t)
	p.good("service gate 9")
	p.good("person off 4")
	p.good("off off")
	own := p.comes("ann", "door")
	// ErrText goes ahead of ErrNone, and that ahead of those of what is called.
	p.refuses("login zed x zed", api.ErrText)
	p.refuses("enter zed "+own, api.ErrNone)
	p.refuses("enter gate x", api.ErrStale)
	p.refuses("enter door x", api.ErrText)
	p.refuses("enter door "+own+"9", api.ErrText)
	p.refuses("enter door "+strings.Repeat("a", api.MaxText+1), api.ErrBound)
	p.refuses("enter door x_5", api.ErrMark)
	p.refuses("enter door "+word(9, api.Ticket{Who: "ann", For: "door", Epoch: 1, From: 0, Until: 9, Serial: 1}), api.ErrMark)
	p.refuses("enter door "+own+"_", api.ErrText)
	p.refuses("enter door "+strings.ToUpper(own), api.ErrText)
	p.refuses("enter door "+word(8, api.Ticket{Who: "ann", For: "gate", Epoch: 1, From: 5, Until: 9, Serial: 1}), api.ErrName)
	p.refuses("enter door "+word(8, api.Ticket{Who: "ann", For: "door", Epoch: 1, From: 5, Until: 9, Serial: 1}), api.ErrEarly)
	p.refuses("enter door "+word(8, api.Ticket{Who: "ann", For: "door", Epoch: 1, From: 0, Until: 0, Serial: 1}), api.ErrLate)
	p.refuses("enter door "+word(8, api.Ticket{Who: "ann", For: "door", Epoch: 0, From: 0, Until: 9, Serial: 1}), api.ErrBound)
	p.refuses("login off 5 zed", api.ErrNone)
	p.refuses("login off 5 door", api.ErrOff)
	p.refuses("login ann 5 off", api.ErrOff)
	p.refuses("login ann 5 door", api.ErrMark)
	p.refuses("renew x off", api.ErrOff)
	p.refuses("renew x door", api.ErrText)
	p.refuses("renew "+own+" gate", api.ErrMark)
	p.refuses("renew "+word(9, api.Ticket{Who: "ann", For: "door", Epoch: 1, From: 0, Until: 9, Serial: 1})+" gate", api.ErrName)
	p.refuses("renew "+word(8, api.Ticket{Who: "zed", For: "door", Epoch: 1, From: 0, Until: 9, Serial: 1})+" door", api.ErrNone)
	p.refuses("renew "+word(8, api.Ticket{Who: "off", For: "door", Epoch: 1, From: 0, Until: 9, Serial: 1})+" door", api.ErrOff)
	p.refuses("renew "+word(8, api.Ticket{Who: "ann", For: "door", Epoch: 2, From: 0, Until: 9, Serial: 1})+" door", api.ErrFloor)
	p.refuses("renew "+word(8, api.Ticket{Who: "ann", For: "door", Epoch: 1, From: 5, Until: 9, Serial: 1})+" door", api.ErrEarly)
	p.refuses("person A 0", api.ErrName)
	p.refuses("person ann 0", api.ErrKey)
	p.refuses("person ann 5", api.ErrExist)
	p.refuses("service ann 5", api.ErrExist)
	p.refuses("person door 5", api.ErrExist)
	p.refuses("rekey zed 0", api.ErrNone)
	p.refuses("rekey ann 0", api.ErrKey)
	p.refuses("rekey ann 5", api.ErrExist)
	p.refuses("on ann", api.ErrExist)
	p.refuses("close 1", api.ErrNone)
	p.refuses("ask 0", api.ErrNone)
	p.good("enter door " + own)
	p.refuses("enter door "+own, api.ErrExist)
	p.good("revoke ann")
	p.good("push")
	p.refuses("enter door "+own, api.ErrFloor)
	p.refuses("renew "+own+" door", api.ErrFloor)
}

// P141: the errors are bare.
func TestErrorsAreBare(t *testing.T) {
	p := having(t)
	var fault *api.Fault
	for _, line := range []string{"what", "person A 5", "tick 9999999", "enter door x", "enter zed x", "renew x door", "close 1", "enter door " + strings.Repeat("A_", 9) + "1"} {
		if got, err := p.house.Do(line); got != "" || err == nil || errors.As(err, &fault) {
			t.Errorf("Do(%q): %q, %v", line, got, err)
		}
	}
}

// P141: what tells is on no tape, nor is what was refused; neither needs power.
func TestWhatIsOnTheTape(t *testing.T) {
	p := having(t)
	p.good("enter door " + p.comes("ann", "door"))
	bytes := p.house.Tape().Bytes()
	if err := p.house.Tape().Cut(0); err != nil {
		t.Fatal(err)
	}
	for range 3 {
		for _, line := range []string{"ask 1", "prove ann 5", "sessions", "people", "floors door"} {
			p.good(line)
		}
		for _, line := range []string{"what", "ask 2", "person ann 5", "tick x", "close 9", "floors zed", "revoke zed"} {
			if _, err := p.do(line); err == nil {
				t.Errorf("%q", line)
			}
		}
		if got := p.house.Tape().Bytes(); got != bytes {
			t.Errorf("%q, not %q", got, bytes)
		}
		// The first time power is there still: it fails ahead of the next byte.
		if _, err := p.house.Do("tick 1"); err != api.ErrOff || p.house.Tape().Power() {
			t.Error(err)
		}
	}
}

// filled is a house on a tape of so many bytes.
func filled(t *testing.T, bytes int) *house.House {
	t.Helper()
	s := "10:person a 5\n."
	for (bytes-len(s))%len("6:tick 0\n.") != 0 {
		s += "5:flush\n."
	}
	s += strings.Repeat("6:tick 0\n.", (bytes-len(s))/len("6:tick 0\n."))
	d, err := tape.NewDisk(s)
	if err != nil {
		t.Fatal(err)
	}
	h, err := house.Open(d)
	if err != nil || len(h.Tape().Bytes()) != bytes {
		t.Fatal(err)
	}
	return h
}

// P141: ErrFull, behind all other errors, and nothing changes; what fits yet is done.
func TestFullTape(t *testing.T) {
	for left := range 10 {
		h := filled(t, api.MaxBytes-left)
		was, bytes := h.Text(), h.Tape().Bytes()
		for line, want := range map[string]error{"tick 1": api.ErrFull, "flush": api.ErrFull, "person b 5": api.ErrFull, "person A 5": api.ErrName, "person a 5": api.ErrExist, "what": api.ErrText, "close 1": api.ErrNone, "sweep a": api.ErrNone} {
			if left == 9 && line == "flush" {
				continue
			}
			if got, err := h.Do(line); got != "" || err != want || h.Text() != was || h.Tape().Bytes() != bytes {
				t.Errorf("%d left: Do(%q): %q, %v, not %v", left, line, got, err, want)
			}
		}
		if got, err := h.Do("sessions"); got != "nothing" || err != nil {
			t.Errorf("sessions: %q, %v", got, err)
		}
		got, err := h.Do("push")
		if fits := left >= len("4:push\n."); fits != (got == "ok" && err == nil) || fits == (err == api.ErrFull) {
			t.Errorf("%d left: push: %q, %v", left, got, err)
		}
	}
}

// P141 with P143: wherever power fails, a line is done, or nothing of it; and what was done is there when the house is opened anew.
func TestPowerFails(t *testing.T) {
	changers := changers(t)
	for cut := 0; ; cut++ {
		p := newPair(t)
		if err := p.house.Tape().Cut(cut); err != nil {
			t.Fatal(err)
		}
		for _, line := range changers {
			p.failing(line)
		}
		many, whole := len(p.lines), p.house.Tape().Power()
		p.reopened()
		if whole != (many == len(changers)) {
			t.Errorf("%d lines, power %v", many, whole)
		}
		if whole {
			return
		}
	}
}

// failing does a line where power may fail, or be off.
func (p *pair) failing(line string) {
	p.Helper()
	was := p.house.Text()
	after := p.clone()
	want, wantErr := after.does(line)
	got, err := p.house.Do(line)
	if err == nil {
		p.model = after
	} else {
		want = ""
	}
	if got != want || err != wantErr && !(err == api.ErrOff && !p.house.Tape().Power()) {
		p.Fatalf("Do(%q): %q, %v, not %q, %v", line, got, err, want, wantErr)
	}
	if err != nil && p.house.Text() != was {
		p.Fatalf("Do(%q): %v, and yet %s", line, err, p.house.Text())
	}
	if got := p.house.Text(); got != p.text() {
		p.Fatalf("Do(%q): %s, not %s", line, got, p.text())
	}
}

// reopened opens the tape itself anew: that house goes on.
func (p *pair) reopened() {
	p.Helper()
	d := p.house.Tape()
	h, err := house.Open(d)
	if err != nil || h.Tape() != d || !d.Power() || !realm.Same(h.Realm(), p.house.Realm()) {
		p.Fatalf("Open: %v, power %v", err, d.Power())
	}
	p.house = h
	p.check("Open")
	p.good("tick 1")
}

// P143: so it is where power comes back by hand, with nothing recovered; a Cut that was made meanwhile waits on.
func TestPowerComesBack(t *testing.T) {
	changers := changers(t)
	for cut := range 240 {
		for _, next := range []int{-1, 0, 9, 31} {
			p := newPair(t)
			for i, line := range changers {
				if i%4 == 0 {
					p.house.Tape().On()
				}
				if i == 4 && next >= 0 {
					p.cuts(next)
				}
				if i == 0 {
					p.cuts(cut)
				}
				p.failing(line)
			}
			p.reopened()
		}
	}
}

func (p *pair) cuts(n int) {
	p.Helper()
	if err := p.house.Tape().Cut(n); err != nil {
		p.Fatal(err)
	}
}

// P143: of a Cut that was made behind On, each byte of a record counts.
func TestCutsBehindTornBytes(t *testing.T) {
	for left := range 12 {
		p := newPair(t, "person ann 5")
		p.cuts(4)
		p.failing("tick 1")
		p.house.Tape().On()
		p.cuts(left)
		_, err := p.house.Do("tick 2")
		if fits := left >= len("6:tick 2\n."); fits != (err == nil) {
			t.Errorf("%d bytes: %v", left, err)
		}
	}
}

// P141: as long as power is off the tape is as it failed.
func TestWithoutPower(t *testing.T) {
	p := newPair(t, "person ann 5")
	p.cuts(4)
	for range 3 {
		p.failing("tick 1")
		if got := p.house.Tape().Bytes(); got != p.bytes()+"6:ti" {
			t.Errorf("%q", got)
		}
	}
}

// P143: also where, meanwhile, a line was refused for its length.
func TestTornAndFull(t *testing.T) {
	h := filled(t, api.MaxBytes-12)
	if err := h.Tape().Cut(4); err != nil {
		t.Fatal(err)
	}
	if _, err := h.Do("tick 1"); err != api.ErrOff {
		t.Fatal(err)
	}
	if _, err := h.Do("person zed 5"); err != api.ErrFull {
		t.Fatal(err)
	}
	h.Tape().On()
	if got, err := h.Do("off a"); got != "ok" || err != nil {
		t.Fatal(got, err)
	}
	o, err := house.Open(h.Tape())
	if err != nil || !realm.Same(o.Realm(), h.Realm()) {
		t.Error(err)
	}
}

// P142: Tape is the house's own, and Realm a copy.
func TestTapeAndRealm(t *testing.T) {
	p := having(t)
	if p.house.Tape() != p.house.Tape() {
		t.Error("two tapes")
	}
	r := p.house.Realm()
	if _, err := r.Revoke("ann"); err != nil {
		t.Fatal(err)
	}
	if _, err := r.Next(5); err != nil {
		t.Fatal(err)
	}
	p.check("a copy's")
	p.answers("revoke ann", "2")
	if r.Time() != 5 || len(r.Feed()) != 1 {
		t.Error("what was done to the house was done to the copy")
	}
	other := newPair(t, "person bob 6")
	p.answers("people", "ann:2 bob:1 door:1")
	other.answers("people", "bob:1")
}

// P142: ErrShape alone where there is no tape.
func TestOpenNone(t *testing.T) {
	if h, err := house.Open(nil); h != nil || err != api.ErrShape {
		t.Error(h, err)
	}
}

func diskOf(t *testing.T, lines ...string) *tape.Disk {
	t.Helper()
	d, err := tape.NewDisk("")
	if err != nil {
		t.Fatal(err)
	}
	for _, line := range lines {
		if err := tape.Append(d, line); err != nil {
			t.Fatal(err)
		}
	}
	return d
}

// P142: a record that is none of what changes, or that has an error, tells its number.
func TestOpenFaults(t *testing.T) {
	good := []string{"person ann 5", "service door 8", "push"}
	for line, want := range map[string]error{"": api.ErrText, "what": api.ErrText, "people": api.ErrText, "sessions": api.ErrText, "ask 1": api.ErrText, "prove ann 5": api.ErrText, "floors door": api.ErrText, "floors zed": api.ErrText, "tick x": api.ErrText, "push ": api.ErrText, "push\n": api.ErrText, "person ann 5": api.ErrExist, "person A 5": api.ErrName, "person cyd 0": api.ErrKey, "off zed": api.ErrNone, "on ann": api.ErrExist, "tick 1000001": api.ErrBound, "sweep ann": api.ErrNone, "enter zed x": api.ErrNone, "enter door x": api.ErrText, "login ann 1 door": api.ErrMark, "close 1": api.ErrNone, "renew x door": api.ErrText, "rekey ann 5": api.ErrExist, "revoke zed": api.ErrNone} {
		for behind := range 3 {
			lines := append(slices.Clone(good), line)
			for range behind {
				lines = append(lines, "what")
			}
			h, err := house.Open(diskOf(t, lines...))
			var fault *api.Fault
			if h != nil || !errors.As(err, &fault) || *fault != (api.Fault{At: 3, Err: want}) {
				t.Errorf("%q: %v, not %v at 3", line, err, want)
			}
		}
	}
	for at := range good {
		h, err := house.Open(diskOf(t, slices.Insert(slices.Clone(good), at, "tick 1000001")...))
		var fault *api.Fault
		if h != nil || !errors.As(err, &fault) || *fault != (api.Fault{At: at, Err: api.ErrBound}) {
			t.Errorf("%v, not at %d", err, at)
		}
	}
}

// P142 with P3: a tape that makes no house is as it was.
func TestOpenWithAnErrorChangesNothing(t *testing.T) {
	for _, torn := range []int{0, 1, 5} {
		d := diskOf(t, "person ann 5", "what")
		if err := d.Cut(torn); err != nil {
			t.Fatal(err)
		}
		if err := tape.Append(d, "tick 3"); err != api.ErrOff {
			t.Fatal(err)
		}
		was := d.Bytes()
		if h, err := house.Open(d); h != nil || err == nil || d.Bytes() != was || d.Power() {
			t.Errorf("%v; %q, not %q; power %v", err, d.Bytes(), was, d.Power())
		}
	}
}

// P142: torn bytes go, and power is there; no Cut waits any more.
func TestOpenRecovers(t *testing.T) {
	for _, torn := range []string{"", "6", "6:", "6:tick 3", "6:tick 3\n", "x", "06:tick 3\n.", "6:tick 3..4:push\n."} {
		d, err := tape.NewDisk("12:person ann 5\n." + torn)
		if err != nil {
			t.Fatal(err)
		}
		if err := d.Cut(0); err != nil {
			t.Fatal(err)
		}
		p := newPair(t, "person ann 5")
		if p.house, err = house.Open(d); err != nil || p.house.Tape() != d || !d.Power() {
			t.Fatal(err)
		}
		p.check("Open")
		p.answers("service door 8", "ok")
		p.again()
	}
}

// P142: what Text tells, line by line: each session, with an error's text where it has one, and each gate, by names.
func TestText(t *testing.T) {
	p := newPair(t, "person ann 5", "service zoo 8", "service door 9", "person bob 6", "push")
	p.good("enter zoo " + p.comes("ann", "zoo"))
	p.good("tick 10")
	p.good("enter door " + p.comes("bob", "door"))
	for range 8 {
		p.good("enter zoo " + p.comes("bob", "zoo"))
	}
	p.good("close 9")
	p.good("revoke ann")
	p.good("flush")
	p.good("revoke bob")
	p.good("push")
	p.good("service alley 4")
	p.good("tick 40")
	want := "people alley:3 ann:3 bob:4 door:3 zoo:3\nsessions 1 2 3 4 5 6 7 8 10\nask 1 keyholder: late\nask 2 bob\nask 3 bob\nask 4 bob\nask 5 bob\nask 6 bob\nask 7 bob\nask 8 bob\nask 10 bob\nfloors alley -\nfloors door *:3,bob:4\nfloors zoo *:3,bob:4\n"
	if got := p.house.Text(); got != want {
		t.Errorf("%s not %s", got, want)
	}
	if got, want := house.New().Text(), "people nothing\nsessions nothing\n"; got != want {
		t.Errorf("%s not %s", got, want)
	}
}

// P143: behind push and sweep no session is open whose person was revoked, whichever service's gate it came by.
func TestRevokedSessionsEnd(t *testing.T) {
	for _, how := range []string{"revoke ann", "rekey ann 55", "flush"} {
		for _, service := range []string{"door", "gate"} {
			p := having(t)
			p.good("service gate 9")
			p.good("push")
			old := p.comes("ann", "door")
			p.good("enter gate " + p.comes("ann", "gate"))
			p.good("enter gate " + p.comes("bob", "gate"))
			p.good(how)
			// The gates don't know it as yet.
			p.answers("enter door "+old, "3")
			p.good("tick 2")
			p.good("push")
			p.good("enter gate " + p.comes("ann", "gate"))
			want := "1 3"
			if how == "flush" {
				want = "1 2 3"
			}
			p.answers("sweep "+service, want)
			p.answers("ask 4", "ann")
			p.refuses("ask 1", api.ErrNone)
			p.again()
			p.answers("sweep door", "nothing")
		}
	}
}

// walk does lines that come by chance, a few of which are wrong, and counts what they come to.
func (p *pair) walk(source *rand.Rand, steps int, met map[string]int) {
	p.Helper()
	var tickets []string
	for range steps {
		line := p.anyLine(source, tickets)
		answer, err := p.do(line)
		if err == nil && strings.HasPrefix(answer, "ticket") {
			tickets = append(tickets[max(0, len(tickets)-9):], answer)
		}
		command, _, _ := strings.Cut(line, " ")
		met[fmt.Sprint(command, " ", err)]++
		switch source.Intn(20) {
		case 0:
			p.again()
		case 1:
			p.nobodyRevoked(pick(source, names))
		}
	}
}

// nobodyRevoked wants that behind push and sweep all that are open are of people's own epochs.
func (p *pair) nobodyRevoked(service string) {
	p.Helper()
	p.do("push")
	if _, err := p.do("sweep " + service); err != nil {
		return
	}
	for n, a := range p.open {
		if a.Epoch < p.people[a.Who].Epoch {
			p.Fatalf("session %d: %v of %v", n, a, p.people[a.Who])
		}
	}
}

var names = []string{"ann", "bob", "door", "gate", "zed"}

func pick[A any](source *rand.Rand, l []A) A { return l[source.Intn(len(l))] }

func (p *pair) anyLine(source *rand.Rand, tickets []string) string {
	name, service := pick(source, names), pick(source, []string{"door", "door", "gate", "ann"})
	entering := "x_x"
	if len(tickets) > 0 && source.Intn(20) > 0 {
		entering = pick(source, tickets)
		if source.Intn(8) > 0 {
			service = strings.Split(entering, "_")[2]
		}
	}
	if source.Intn(5) == 0 {
		from := max(0, p.time-source.Intn(70)+9)
		entering = word(p.doors[service].key, api.Ticket{Who: name, For: service, Epoch: max(0, p.people[name].Epoch-source.Intn(2)), From: from, Until: from + source.Intn(90), Serial: source.Intn(60)})
	}
	session := p.last - source.Intn(30)
	lines := []string{
		fmt.Sprintf("person %s %d", name, source.Intn(9)), fmt.Sprintf("service %s %d", service, pick(source, []int{8, 9})),
		"off " + name, "on ann", "on bob", "on door", "on gate", "push", "push", "push", "push", "push", "push", "push",
		"revoke " + name, fmt.Sprintf("rekey %s %d", name, source.Intn(9)), "flush", fmt.Sprint("tick ", source.Intn(40)), "tick 1",
		"sweep " + service, fmt.Sprint("close ", session),
		fmt.Sprintf("prove %s %d", name, source.Intn(9)), "sessions", "people", "floors " + service, "what", "tick " + name,
	}
	switch source.Intn(9) {
	case 0, 1:
		return fmt.Sprintf("login %s %d %s", name, p.proof(name)+source.Intn(8)/7, service)
	case 2, 3:
		return "enter " + service + " " + entering
	case 4:
		return "renew " + entering + " " + service
	case 5:
		return fmt.Sprint("ask ", session)
	}
	return pick(source, lines)
}

// P140 to P143: long walks; a house that is opened anew on the way goes on as if it had not been.
func TestWalks(t *testing.T) {
	met := map[string]int{}
	for seed := range int64(40) {
		p := newPair(t, "person ann 5", "service door 8", "push")
		for range seed % 4 * 20 {
			p.good("revoke door")
		}
		p.walk(rand.New(rand.NewSource(seed)), 300, met)
	}
	for command, errors := range map[string][]error{
		"person": {nil, api.ErrKey, api.ErrExist}, "service": {nil, api.ErrExist}, "off": {nil, api.ErrNone, api.ErrExist}, "on": {nil, api.ErrExist}, "push": {nil},
		"login": {nil, api.ErrNone, api.ErrOff, api.ErrMark}, "renew": {nil, api.ErrNone, api.ErrOff, api.ErrText, api.ErrMark, api.ErrFloor, api.ErrEarly, api.ErrLate},
		"revoke": {nil, api.ErrNone, api.ErrFull}, "rekey": {nil, api.ErrNone, api.ErrKey, api.ErrExist, api.ErrFull}, "flush": {nil, api.ErrFull}, "tick": {nil, api.ErrText},
		"enter": {nil, api.ErrNone, api.ErrStale, api.ErrText, api.ErrMark, api.ErrBound, api.ErrEarly, api.ErrLate, api.ErrFloor, api.ErrExist},
		"sweep": {nil, api.ErrNone}, "close": {nil, api.ErrNone}, "ask": {nil, api.ErrNone, api.ErrLate}, "prove": {nil, api.ErrKey}, "floors": {nil, api.ErrNone},
	} {
		for _, err := range errors {
			if met[fmt.Sprint(command, " ", err)] == 0 {
				t.Errorf("%s: %v was never met", command, err)
			}
		}
	}
	if met["enter <nil>"] < 300 {
		t.Errorf("%d sessions", met["enter <nil>"])
	}
}

// P2: the same lines, the same answers.
func TestTwoHousesAreAlike(t *testing.T) {
	one, two := having(t), having(t)
	source := rand.New(rand.NewSource(1))
	for range 300 {
		line := one.anyLine(source, nil)
		one.do(line)
		two.do(line)
	}
	if !realm.Same(one.house.Realm(), two.house.Realm()) || one.house.Text() != two.house.Text() {
		t.Error("not alike")
	}
}

// P140: heads are made with the realm's key, 7, whose follower takes what the feed tells.
func TestRealmKey(t *testing.T) {
	p := having(t)
	p.good("revoke ann")
	head, err := p.house.Realm().Head()
	if err != nil {
		t.Fatal(err)
	}
	if h, err := feed.Open(7, head); err != nil || h.Seq != 1 {
		t.Error(h, err)
	}
}

// P1: whatever the lines, and whatever the tape's bytes, nothing panics, and the model is answered; $ is the newest ticket, and ? the right proof.
func FuzzHouses(f *testing.F) {
	f.Add("person ann 5\nservice door 8\npush\nlogin ann ? door\nenter door $\nask 1\nrevoke ann\npush\nsweep door", "")
	f.Add("push\nflush\nservice door 8\npush\nflush\nfloors door\nperson ann 1", "4:push\n.4:what\n.")
	f.Add("person ann 5\nservice door 8\npush\nlogin ann ? door\nrenew $ door\ntick 20\nenter door $\ntick 1\nenter door $\nclose 1", "12:person ann 5\n.6:tick 3")
	f.Fuzz(func(t *testing.T, text, bytes string) {
		p := newPair(t)
		ticket := "x"
		for i, line := range strings.Split(text, "\n") {
			if i == 60 {
				break
			}
			if answer, err := p.do(p.spelt(line, ticket)); err == nil && strings.HasPrefix(answer, "ticket") {
				ticket = answer
			}
		}
		p.again()
		if d, err := tape.NewDisk(bytes); err == nil {
			if h, err := house.Open(d); err == nil {
				h.Text()
			}
		}
	})
}
