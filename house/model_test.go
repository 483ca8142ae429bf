package house_test

import (
	"fmt"
	"maps"
	"regexp"
	"slices"
	"strconv"
	"strings"
	"testing"

	"keyholder/api"
	"keyholder/house"
	"keyholder/mark"
	"keyholder/realm"
	"keyholder/tape"
	"keyholder/ticket"
)

var (
	isName   = regexp.MustCompile(`\A[a-z0-9]{1,8}\z`)
	isNumber = regexp.MustCompile(`\A(0|[1-9][0-9]{0,9})\z`)

	// As P140 spells them: N is a number, all that is written large is a word.
	forms = []string{"person NAME N", "service NAME N", "off NAME", "on NAME", "push", "login NAME N SERVICE", "renew TICKET SERVICE", "revoke NAME", "rekey NAME N", "flush", "tick N", "enter SERVICE TICKET", "sweep SERVICE", "close N", "ask N", "prove NAME N", "sessions", "people", "floors SERVICE"}
	tells = []string{"ask", "prove", "sessions", "people", "floors"}
)

// door is what the model keeps of a gate.
type door struct{ key, has, time int } // time -1: it has no head

// model of a house, as P140 tells it: slow and plain.
type model struct {
	time, serial, last int
	people             map[string]api.Person
	feed               []api.Entry
	doors              map[string]door
	seen               map[int]int
	open               map[int]api.Ticket
	lines              []string
}

func newModel() *model {
	return &model{serial: 1, people: map[string]api.Person{}, doors: map[string]door{}, seen: map[int]int{}, open: map[int]api.Ticket{}}
}

// clone is what a later change of the model does not change.
func (m *model) clone() *model {
	c := *m
	c.people, c.doors, c.seen, c.open = maps.Clone(m.people), maps.Clone(m.doors), maps.Clone(m.seen), maps.Clone(m.open)
	c.feed, c.lines = slices.Clone(m.feed), slices.Clone(m.lines)
	return &c
}

// formed: is a line made as a form?
func formed(form, line string) bool {
	parts, words := strings.Split(form, " "), strings.Split(line, " ")
	if len(parts) != len(words) {
		return false
	}
	for i, part := range parts {
		switch {
		case part == "N" && !isNumber.MatchString(words[i]):
			return false
		case part == strings.ToLower(part) && part != words[i]:
			return false
		}
	}
	return true
}

// does tells what is answered, and changes what is to change.
func (m *model) does(line string) (string, error) {
	if !slices.ContainsFunc(forms, func(form string) bool { return formed(form, line) }) {
		return "", api.ErrText
	}
	w := strings.Split(line, " ")
	answer, err := m.command(w[0], append(w[1:], "", "", ""))
	if err == nil && !slices.Contains(tells, w[0]) {
		m.lines = append(m.lines, line)
	}
	return answer, err
}

func (m *model) command(c string, w []string) (string, error) {
	switch c {
	case "person":
		return "ok", m.add(w[0], w[1], false)
	case "service":
		return "ok", m.add(w[0], w[1], true)
	case "off", "on":
		return "ok", m.off(w[0], c == "off")
	case "push":
		for name, d := range m.doors {
			m.doors[name] = door{d.key, len(m.feed), m.time}
		}
		return "ok", nil
	case "login":
		return m.login(w[0], number(w[1]), w[2])
	case "renew":
		return m.renew(strings.ReplaceAll(w[0], "_", " "), w[1])
	case "revoke", "rekey":
		return m.raise(w[0], w[1])
	case "flush":
		return m.flush()
	case "tick":
		if m.time+number(w[0]) > 1000000 {
			return "", api.ErrBound
		}
		m.time += number(w[0])
		return fmt.Sprint(m.time), nil
	case "enter":
		return m.enter(w[0], strings.ReplaceAll(w[1], "_", " "))
	case "sweep":
		return m.sweep(w[0])
	case "close":
		if _, ok := m.open[number(w[0])]; !ok {
			return "", api.ErrNone
		}
		delete(m.open, number(w[0]))
		return "ok", nil
	}
	return m.tell(c, w)
}

func (m *model) tell(c string, w []string) (string, error) {
	switch c {
	case "ask":
		a, ok := m.open[number(w[0])]
		if !ok {
			return "", api.ErrNone
		}
		if m.time >= a.Until {
			return "", api.ErrLate
		}
		return a.Who, nil
	case "prove":
		n, err := mark.Of(number(w[1]), fmt.Sprint(w[0], " ", m.time))
		return fmt.Sprint(n), err
	case "sessions":
		return listed(slices.Sorted(maps.Keys(m.open))), nil
	case "people":
		var l []string
		for _, name := range slices.Sorted(maps.Keys(m.people)) {
			l = append(l, fmt.Sprintf("%s:%d", name, m.people[name].Epoch))
		}
		return listed(l), nil
	}
	d, ok := m.doors[w[0]]
	if !ok {
		return "", api.ErrNone
	}
	return m.floors(d), nil
}

func (m *model) add(name, key string, service bool) error {
	switch {
	case !isName.MatchString(name):
		return api.ErrName
	case number(key) < 1 || number(key) > 1000000006:
		return api.ErrKey
	case m.has(name):
		return api.ErrExist
	case len(m.people) == 20:
		return api.ErrFull
	}
	m.people[name] = api.Person{Name: name, Key: number(key), Epoch: max(m.floor(len(m.feed), "*"), 1)}
	if service {
		m.doors[name] = door{number(key), 0, -1}
	}
	return nil
}

func (m *model) has(name string) bool {
	_, ok := m.people[name]
	return ok
}

func (m *model) off(name string, off bool) error {
	p, ok := m.people[name]
	if !ok {
		return api.ErrNone
	}
	if p.Off == off {
		return api.ErrExist
	}
	p.Off = off
	m.people[name] = p
	return nil
}

// proof of one who is there, now.
func (m *model) proof(name string) int {
	n, _ := mark.Of(m.people[name].Key, fmt.Sprint(name, " ", m.time))
	return n
}

func (m *model) login(name string, proof int, service string) (string, error) {
	who, to := m.people[name], m.people[service]
	switch {
	case !m.has(name) || !m.has(service):
		return "", api.ErrNone
	case who.Off || to.Off:
		return "", api.ErrOff
	case proof != m.proof(name):
		return "", api.ErrMark
	case m.time == 1000000:
		return "", api.ErrBound
	}
	m.serial++
	return word(to.Key, api.Ticket{Who: name, For: service, Epoch: who.Epoch, From: m.time, Until: min(m.time+50, 1000000), Serial: m.serial - 1}), nil
}

func (m *model) renew(s, service string) (string, error) {
	to := m.people[service]
	if !m.has(service) {
		return "", api.ErrNone
	}
	if to.Off {
		return "", api.ErrOff
	}
	a, err := ticket.Open(to.Key, s)
	if err != nil {
		return "", err
	}
	switch who := m.people[a.Who]; {
	case a.For != service:
		return "", api.ErrName
	case !m.has(a.Who):
		return "", api.ErrNone
	case who.Off:
		return "", api.ErrOff
	case who.Epoch != a.Epoch:
		return "", api.ErrFloor
	case m.time < a.From:
		return "", api.ErrEarly
	case m.time >= a.Until:
		return "", api.ErrLate
	}
	a.From, a.Until, a.Serial = m.time, min(m.time+50, a.Until), m.serial
	m.serial++
	return word(to.Key, a), nil
}

func (m *model) raise(name, key string) (string, error) {
	p := m.people[name]
	switch {
	case !m.has(name):
		return "", api.ErrNone
	case key != "" && (number(key) < 1 || number(key) > 1000000006):
		return "", api.ErrKey
	case key != "" && number(key) == p.Key:
		return "", api.ErrExist
	case len(m.feed) == 60:
		return "", api.ErrFull
	}
	if key != "" {
		p.Key = number(key)
	}
	p.Epoch++
	m.people[name] = p
	m.writes(name, p.Epoch)
	return fmt.Sprint(p.Epoch), nil
}

func (m *model) flush() (string, error) {
	if len(m.feed) == 60 {
		return "", api.ErrFull
	}
	epoch := 0
	for _, p := range m.people {
		epoch = max(epoch, p.Epoch)
	}
	epoch++
	// With nobody there is still a floor of all, which does not fall.
	for name, p := range m.people {
		p.Epoch = epoch
		m.people[name] = p
	}
	m.writes("*", epoch)
	return fmt.Sprint(epoch), nil
}

func (m *model) writes(who string, epoch int) {
	m.feed = append(m.feed, api.Entry{Seq: len(m.feed) + 1, Time: m.time, Floor: api.Floor{Who: who, Epoch: epoch}})
}

// floor of a name by so many entries.
func (m *model) floor(many int, name string) int {
	n := 0
	for _, e := range m.feed[:many] {
		if e.Floor.Who == name || e.Floor.Who == "*" {
			n = max(n, e.Floor.Epoch)
		}
	}
	return n
}

func (m *model) floors(d door) string {
	var l []string
	all := m.floor(d.has, "*")
	if all > 0 {
		l = append(l, fmt.Sprintf("*:%d", all))
	}
	for _, name := range slices.Sorted(maps.Keys(m.people)) {
		if n := m.floor(d.has, name); n > all {
			l = append(l, fmt.Sprintf("%s:%d", name, n))
		}
	}
	if l == nil {
		return "-"
	}
	return strings.Join(l, ",")
}

func (m *model) enter(service, s string) (string, error) {
	d, ok := m.doors[service]
	if !ok {
		return "", api.ErrNone
	}
	if d.time < 0 || d.time < m.time-20 {
		return "", api.ErrStale
	}
	a, err := ticket.Open(d.key, s)
	if err != nil {
		return "", err
	}
	came, again := m.seen[a.Serial]
	again = again && came >= m.time-50
	many := 0
	for _, from := range m.seen {
		if from >= m.time-50 {
			many++
		}
	}
	switch {
	case a.For != service:
		return "", api.ErrName
	case m.time < a.From:
		return "", api.ErrEarly
	case m.time >= a.Until:
		return "", api.ErrLate
	case a.Epoch < m.floor(d.has, a.Who):
		return "", api.ErrFloor
	case a.From < m.time-50:
		return "", api.ErrLate
	case again:
		return "", api.ErrExist
	case many == 40 || len(m.open) == 40:
		return "", api.ErrFull
	}
	m.seen[a.Serial] = a.From
	m.last++
	m.open[m.last] = a
	return fmt.Sprint(m.last), nil
}

func (m *model) sweep(service string) (string, error) {
	d, ok := m.doors[service]
	if !ok {
		return "", api.ErrNone
	}
	var l []int
	for n, a := range m.open {
		if m.time >= a.Until || a.Epoch < m.floor(d.has, a.Who) {
			l = append(l, n)
			delete(m.open, n)
		}
	}
	slices.Sort(l)
	return listed(l), nil
}

// text of the house, as P142 tells it.
func (m *model) text() string {
	lines := []string{"people", "sessions"}
	for _, n := range slices.Sorted(maps.Keys(m.open)) {
		lines = append(lines, fmt.Sprint("ask ", n))
	}
	for _, name := range slices.Sorted(maps.Keys(m.doors)) {
		lines = append(lines, "floors "+name)
	}
	s := ""
	for _, line := range lines {
		answer, err := m.does(line)
		if err != nil {
			answer = err.Error()
		}
		s += line + " " + answer + "\n"
	}
	return s
}

// bytes of the tape, as P130 tells them.
func (m *model) bytes() string {
	s := ""
	for _, line := range m.lines {
		s += fmt.Sprintf("%d:%s\n.", len(line), line)
	}
	return s
}

func number(s string) int {
	n, _ := strconv.Atoi(s)
	return n
}

// word of a sealed ticket.
func word(key int, a api.Ticket) string {
	s := fmt.Sprintf("ticket %s %s %d %d %d %d", a.Who, a.For, a.Epoch, a.From, a.Until, a.Serial)
	n, _ := mark.Of(key, s)
	return strings.ReplaceAll(fmt.Sprint(s, " ", n), " ", "_")
}

func listed[A any](l []A) string {
	if len(l) == 0 {
		return "nothing"
	}
	return strings.Trim(fmt.Sprint(l), "[]")
}

// pair is a house, and what it is to be.
type pair struct {
	*testing.T
	house *house.House
	*model
}

func newPair(t *testing.T, lines ...string) *pair {
	t.Helper()
	p := &pair{t, house.New(), newModel()}
	p.check("New")
	for _, line := range lines {
		p.good(line)
	}
	return p
}

// having is a house with people and a door, whose keys are 5, 6 and 8, and whose gate has a head.
func having(t *testing.T) *pair {
	t.Helper()
	return newPair(t, "person ann 5", "person bob 6", "service door 8", "push")
}

// check asks for all that a house tells of itself.
func (p *pair) check(what string) {
	p.Helper()
	if got, want := p.house.Text(), p.text(); got != want {
		p.Fatalf("%.80q: text\n%snot\n%s", what, got, want)
	}
	if got, want := p.house.Tape().Bytes(), p.bytes(); got != want {
		p.Fatalf("%.80q: on the tape is %.200q, not %.200q", what, got, want)
	}
	r := p.house.Realm()
	if got := r.Feed(); r.Time() != p.time || !slices.Equal(got, p.feed) {
		p.Fatalf("%.80q: time %d, feed %v; not %d, %v", what, r.Time(), got, p.time, p.feed)
	}
	for _, a := range r.People() {
		if a != p.people[a.Name] {
			p.Fatalf("%.80q: %v, not %v", what, a, p.people[a.Name])
		}
	}
}

// do a line, and tell what is answered, which is what P140 and P141 tell.
func (p *pair) do(line string) (string, error) {
	p.Helper()
	want, wantErr := p.does(line)
	if wantErr != nil {
		want = ""
	}
	got, err := p.house.Do(line)
	if got != want || err != wantErr {
		p.Fatalf("Do(%.80q): %q, %v, not %q, %v", line, got, err, want, wantErr)
	}
	p.check(line)
	return got, err
}

// good wants no error.
func (p *pair) good(line string) string {
	p.Helper()
	answer, err := p.do(line)
	if err != nil {
		p.Fatalf("Do(%.80q): %v", line, err)
	}
	return answer
}

// answers wants that answer.
func (p *pair) answers(line, want string) {
	p.Helper()
	if got := p.good(line); got != want {
		p.Errorf("Do(%.80q): %q, not %q", line, got, want)
	}
}

// refuses wants that error itself.
func (p *pair) refuses(line string, want error) {
	p.Helper()
	if _, err := p.do(line); err != want {
		p.Errorf("Do(%.80q): %v, not %v", line, err, want)
	}
}

// comes in with the right proof, and has a ticket.
func (p *pair) comes(name, service string) string {
	p.Helper()
	return p.good(fmt.Sprintf("login %s %d %s", name, p.proof(name), service))
}

// disk of the same bytes.
func (p *pair) disk() *tape.Disk {
	p.Helper()
	d, err := tape.NewDisk(p.house.Tape().Bytes())
	if err != nil {
		p.Fatal(err)
	}
	return d
}

// again opens the house anew: that is the one that goes on.
func (p *pair) again() {
	p.Helper()
	d := p.disk()
	h, err := house.Open(d)
	if err != nil || h.Tape() != d {
		p.Fatalf("Open: %v", err)
	}
	if !realm.Same(h.Realm(), p.house.Realm()) {
		p.Fatal("Open: another realm")
	}
	p.house = h
	p.check("Open")
}
