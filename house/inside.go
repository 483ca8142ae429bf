package house

import (
	"maps"
	"slices"
	"strconv"
	"strings"

	"keyholder/api"
	"keyholder/feed"
	"keyholder/floor"
	"keyholder/gate"
	"keyholder/mark"
	"keyholder/realm"
	"keyholder/seen"
	"keyholder/session"
)

const (
	realmKey    = 7
	ticketsLast = 50
	headsOld    = 20 // may be so old
	seenLong    = 50

	done    = "ok"
	nothing = "nothing"
	ofEpoch = ":"
)

// inside is all that a house has but its tape: so that a change may be tried on a copy.
type inside struct {
	realm *realm.Realm
	gates map[string]*gate.Gate
	seen  *seen.Seen
	desk  *session.Desk
}

func newInside() *inside {
	// These numbers are right ones: no errors come of them.
	r, _ := realm.New(realmKey, ticketsLast)
	s, _ := seen.New(seenLong)
	return &inside{realm: r, gates: map[string]*gate.Gate{}, seen: s, desk: session.New()}
}

func (i *inside) copy() *inside {
	c := &inside{realm: i.realm.Copy(), gates: map[string]*gate.Gate{}, seen: i.seen.Copy(), desk: i.desk.Copy()}
	for name, g := range i.gates {
		c.gates[name] = g.Copy()
	}
	return c
}

// services that have a gate, by names.
func (i *inside) services() []string {
	// A map is gone through in any order.
	return slices.Sorted(maps.Keys(i.gates))
}

func (i *inside) gate(name string) (*gate.Gate, error) {
	g, ok := i.gates[name]
	if !ok {
		return nil, api.ErrNone
	}
	return g, nil
}

func (i *inside) person(o order) (string, error) { return doneOr(i.realm.Add(o.name, o.number)) }

func (i *inside) service(o order) (string, error) {
	if err := i.realm.Add(o.name, o.number); err != nil {
		return "", err
	}
	g, err := gate.New(o.name, o.number, realmKey, headsOld)
	if err != nil {
		return "", err
	}
	i.gates[o.name] = g
	return done, nil
}

func (i *inside) off(o order) (string, error) { return doneOr(i.realm.Off(o.name, true)) }

func (i *inside) on(o order) (string, error) { return doneOr(i.realm.Off(o.name, false)) }

func (i *inside) push(order) (string, error) {
	head, err := i.realm.Head()
	if err != nil {
		return "", err
	}
	entries := i.realm.Feed()
	for _, name := range i.services() {
		if err := give(i.gates[name], head, entries); err != nil {
			return "", err
		}
	}
	return done, nil
}

func (i *inside) login(o order) (string, error) {
	return oneWord(i.realm.Login(o.name, o.number, o.service))
}

func (i *inside) renew(o order) (string, error) {
	return oneWord(i.realm.Renew(o.ticket, o.service))
}

func (i *inside) revoke(o order) (string, error) { return number(i.realm.Revoke(o.name)) }

func (i *inside) rekey(o order) (string, error) { return number(i.realm.Rekey(o.name, o.number)) }

func (i *inside) flush(order) (string, error) { return number(i.realm.Flush()) }

func (i *inside) tick(o order) (string, error) { return number(i.realm.Next(o.number)) }

func (i *inside) enter(o order) (string, error) {
	g, err := i.gate(o.service)
	if err != nil {
		return "", err
	}
	t, err := g.Ask(o.ticket, i.realm.Time())
	if err != nil {
		return "", err
	}
	if err := i.seen.Ask(strconv.Itoa(t.Serial), t.From, i.realm.Time()); err != nil {
		return "", err
	}
	return number(i.desk.Open(t, i.realm.Time()))
}

func (i *inside) sweep(o order) (string, error) {
	g, err := i.gate(o.service)
	if err != nil {
		return "", err
	}
	ended, err := i.desk.Sweep(g.Follower().Floors(), i.realm.Time())
	if err != nil {
		return "", err
	}
	return numbers(ended), nil
}

func (i *inside) close(o order) (string, error) { return doneOr(i.desk.Close(o.number)) }

func (i *inside) ask(o order) (string, error) {
	t, err := i.desk.Ask(o.number, i.realm.Time())
	if err != nil {
		return "", err
	}
	return t.Who, nil
}

func (i *inside) prove(o order) (string, error) {
	return number(mark.Of(o.number, o.name+blank+strconv.Itoa(i.realm.Time())))
}

func (i *inside) sessions(order) (string, error) { return numbers(i.desk.All()), nil }

func (i *inside) people(order) (string, error) {
	var words []string
	for _, p := range i.realm.People() {
		words = append(words, p.Name+ofEpoch+strconv.Itoa(p.Epoch))
	}
	return listed(words), nil
}

func (i *inside) floors(o order) (string, error) {
	g, err := i.gate(o.service)
	if err != nil {
		return "", err
	}
	return floor.Text(g.Follower().Floors())
}

// give a gate the head, and those of the entries that it has not.
func give(g *gate.Gate, head string, entries []api.Entry) error {
	more, err := feed.Since(entries, g.Follower().Seq())
	if err != nil {
		return err
	}
	return g.Take(head, more)
}

func doneOr(err error) (string, error) {
	if err != nil {
		return "", err
	}
	return done, nil
}

func number(n int, err error) (string, error) {
	if err != nil {
		return "", err
	}
	return strconv.Itoa(n), nil
}

func oneWord(ticket string, err error) (string, error) {
	return strings.ReplaceAll(ticket, blank, blankOfTicket), err
}

func numbers(l []int) string {
	var words []string
	for _, n := range l {
		words = append(words, strconv.Itoa(n))
	}
	return listed(words)
}

func listed(words []string) string {
	if len(words) == 0 {
		return nothing
	}
	return strings.Join(words, blank)
}
