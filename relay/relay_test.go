package relay_test

import (
	"fmt"
	"math"
	"math/rand"
	"slices"
	"strings"
	"testing"

	"keyholder/api"
	"keyholder/feed"
	"keyholder/follow"
	"keyholder/relay"
)

const (
	realm = 7  // the key of most trees here
	most  = 60 // of entries
	below = 10 // the most that a tree has beside its root
)

var (
	wrongKeys = []int{0, -1, api.MaxKey + 1, math.MinInt, math.MaxInt}
	goodKeys  = []int{1, 2, realm, 1 << 20, api.MaxKey - 1, api.MaxKey}
)

func entry(seq, time int, who string, epoch int) api.Entry {
	return api.Entry{Seq: seq, Time: time, Floor: api.Floor{Who: who, Epoch: epoch}}
}

// long makes so many entries, two of each time, of three names and of all.
func long(count int) []api.Entry {
	var l []api.Entry
	for i := range count {
		l = append(l, entry(i+1, i/2, []string{"ann", "bob", "*", "cyd"}[i%4], i+1))
	}
	return l
}

// headWith is the head of entries, sealed with any key.
func headWith(t *testing.T, key int, l []api.Entry, time int) string {
	t.Helper()
	s, err := feed.Make(key, l, time)
	if err != nil {
		t.Fatalf("head of %v at %d: %v", l, time, err)
	}
	return s
}

func head(t *testing.T, l []api.Entry, time int) string {
	t.Helper()
	return headWith(t, realm, l, time)
}

// chain: each below the one ahead of it.
func chain(count int) []int {
	above := make([]int, count)
	for i := range above {
		above[i] = i
	}
	return above
}

// star: all below the root.
func star(count int) []int { return make([]int, count) }

// shapes: all right trees of up to four followers below the root, and some greater ones.
func shapes() [][]int {
	all := [][]int{nil}
	from := 0
	for count := range 4 {
		upTo := len(all)
		for _, above := range all[from:upTo] {
			for i := range count + 1 {
				all = append(all, slices.Concat(above, []int{i}))
			}
		}
		from = upTo
	}
	return append(all, []int{}, chain(below), star(below), []int{0, 0, 1, 1, 2, 2, 3, 3, 4, 4}, []int{0, 1, 0, 2, 1, 4, 6, 6, 2, 9})
}

// node is all that a follower tells.
type node struct {
	head    string
	time    int
	entries []api.Entry
}

func fresh() node { return node{time: -1} }

func (n node) same(o node) bool {
	return n.head == o.head && n.time == o.time && slices.Equal(n.entries, o.entries)
}

func nodeOf(t *testing.T, f *follow.Follower) node {
	t.Helper()
	if f == nil {
		t.Fatal("no follower")
	}
	n := node{f.Head(), f.Time(), f.Entries()}
	floors, err := feed.Floors(n.entries)
	if err != nil || f.Seq() != len(n.entries) || !slices.Equal(f.Floors(), floors) {
		t.Fatalf("%v: %d entries, floors %v, %v", n, f.Seq(), f.Floors(), err)
	}
	return n
}

// model is what a tree is to be, as P80 tells it.
type model struct {
	above []int
	nodes []node
}

func newModel(above []int) *model {
	m := &model{above: slices.Clone(above)}
	for range len(above) + 1 {
		m.nodes = append(m.nodes, fresh())
	}
	return m
}

// push is told only of what the root takes.
func (m *model) push(head string, time int, l []api.Entry) {
	m.nodes[0] = node{head, time, slices.Concat(m.nodes[0].entries, l)}
}

func (m *model) poll(i int) (int, error) {
	if i < 1 || i > len(m.above) {
		return 0, api.ErrBound
	}
	from := m.nodes[m.above[i-1]]
	switch {
	case from.time == -1:
		return 0, api.ErrNone
	case from.head == m.nodes[i].head:
		return 0, api.ErrLate
	}
	count := len(from.entries) - len(m.nodes[i].entries)
	m.nodes[i] = from
	return count, nil
}

func (m *model) all() int {
	took := 0
	for i := range m.above {
		if _, err := m.poll(i + 1); err == nil {
			took++
		}
	}
	return took
}

// pair is a tree, and what it is to be.
type pair struct {
	*testing.T
	tree *relay.Tree
	want *model
}

func newPair(t *testing.T, key int, above []int) pair {
	t.Helper()
	tree, err := relay.New(key, above)
	if tree == nil || err != nil {
		t.Fatalf("New(%d, %v): %v, %v", key, above, tree, err)
	}
	p := pair{t, tree, newModel(above)}
	p.check("New")
	return p
}

// check asks of all followers.
func (p pair) check(what string) {
	p.Helper()
	if many := p.tree.Many(); many != len(p.want.nodes) {
		p.Fatalf("%s, of %v: %d followers, not %d", what, p.want.above, many, len(p.want.nodes))
	}
	for i, want := range p.want.nodes {
		if got := nodeOf(p.T, p.tree.Node(i)); !got.same(want) {
			p.Fatalf("%s, of %v: follower %d has %v, not %v", what, p.want.above, i, got, want)
		}
	}
}

func (p pair) push(head string, time int, l []api.Entry) {
	p.Helper()
	if err := p.tree.Push(head, l); err != nil {
		p.Fatalf("Push(%q, %v): %v", head, l, err)
	}
	p.want.push(head, time, l)
	p.check("Push")
}

// pushes as far as l goes, with its head at that time.
func (p pair) pushes(l []api.Entry, time int) {
	p.Helper()
	p.push(head(p.T, l, time), time, l[len(p.want.nodes[0].entries):])
}

func (p pair) poll(i int) {
	p.Helper()
	want, wantErr := p.want.poll(i)
	if n, err := p.tree.Poll(i); n != want || err != wantErr {
		p.Fatalf("Poll(%d), of %v: %d, %v, not %d, %v", i, p.want.above, n, err, want, wantErr)
	}
	p.check(fmt.Sprint("Poll ", i))
}

func (p pair) all() {
	p.Helper()
	want := p.want.all()
	if n := p.tree.All(); n != want {
		p.Fatalf("All, of %v: %d, not %d", p.want.above, n, want)
	}
	p.check("All")
}

// refuses wants that error itself, and nothing changed.
func (p pair) refuses(head string, l []api.Entry, want error) {
	p.Helper()
	if err := p.tree.Push(head, l); err != want {
		p.Errorf("Push(%.60q, %.80q): %v, not %v", head, fmt.Sprint(l), err, want)
	}
	p.check("Push")
}

// fault: is it a *api.Fault of ErrBound at that place, itself?
func fault(err error, at int) bool {
	f, ok := err.(*api.Fault)
	return ok && f.At == at && f.Err == api.ErrBound
}

// wrongAt tells the first place of above that is none; -1: it is right.
func wrongAt(above []int) int {
	for i, n := range above {
		if n < 0 || n > i {
			return i
		}
	}
	return -1
}

// P80 and P81: as many as above has, and one; none of them has anything.
func TestNew(t *testing.T) {
	for _, above := range shapes() {
		for _, key := range goodKeys {
			p := newPair(t, key, above)
			if p.tree.Many() != len(above)+1 {
				t.Errorf("New(%d, %v): %d followers", key, above, p.tree.Many())
			}
		}
	}
}

// P80: ErrKey, ahead of all else.
func TestNewWithWrongKey(t *testing.T) {
	for _, key := range wrongKeys {
		for _, above := range [][]int{nil, {}, {0}, {1}, {-1}, star(below), star(below + 1), slices.Repeat([]int{-1}, 100)} {
			if tree, err := relay.New(key, above); tree != nil || err != api.ErrKey {
				t.Errorf("New(%d, %v): %v, %v", key, above, tree, err)
			}
		}
	}
}

// P80: ErrFull, bare, ahead of what above tells.
func TestNewFull(t *testing.T) {
	for count := range 30 {
		for _, above := range [][]int{star(count), chain(count)} {
			tree, err := relay.New(realm, above)
			if count <= below && (tree == nil || err != nil || tree.Many() != count+1) || count > below && (tree != nil || err != api.ErrFull) {
				t.Errorf("New with %d: %v, %v", count, tree, err)
			}
		}
	}
	for _, n := range []int{-1, 0, 1, 11, math.MinInt, math.MaxInt} {
		for _, count := range []int{11, 12, 1000, 1 << 16} {
			if tree, err := relay.New(realm, slices.Repeat([]int{n}, count)); tree != nil || err != api.ErrFull {
				t.Errorf("New with %d times %d: %v, %v", count, n, tree, err)
			}
		}
	}
}

// P80: all lists of up to four numbers from -1 to 5: the first that is none is told.
func TestNewOfAllSmall(t *testing.T) {
	lists := [][]int{nil}
	for from, length := 0, 0; length < 4; length++ {
		upTo := len(lists)
		for _, above := range lists[from:upTo] {
			for n := -1; n <= 5; n++ {
				lists = append(lists, slices.Concat(above, []int{n}))
			}
		}
		from = upTo
	}
	right := 0
	for _, above := range lists {
		tree, err := relay.New(realm, above)
		at := wrongAt(above)
		if at < 0 {
			right++
		}
		if at < 0 && (tree == nil || err != nil) || at >= 0 && (tree != nil || !fault(err, at)) {
			t.Fatalf("New(%v): %v, %v", above, tree, err)
		}
	}
	if right != 1+1+2+6+24 {
		t.Error(right, "right ones")
	}
}

// P80: at each place the greatest that may stand there, and one more; and what is no number of a list at all.
func TestNewAtEachPlace(t *testing.T) {
	for at := range below {
		for _, n := range []int{-1, at + 1, at + 2, below, below + 1, math.MinInt, math.MaxInt} {
			above := chain(below)
			if above[at] = n; wrongAt(above) < 0 {
				continue
			}
			// Those behind may be wrong as well: the first is told.
			for range 2 {
				if tree, err := relay.New(realm, above); tree != nil || !fault(err, at) {
					t.Errorf("New(%v): %v, %v", above, tree, err)
				}
				for later := at + 1; later < below; later++ {
					above[later] = -later
				}
			}
		}
	}
}

// P80 and P81, as a tale: what each has, spelt out.
func TestByHand(t *testing.T) {
	l := []api.Entry{entry(1, 3, "ann", 2), entry(2, 7, "*", 3), entry(3, 7, "ann", 5)}
	tree, err := relay.New(realm, []int{0, 1, 0})
	if err != nil {
		t.Fatal(err)
	}
	tells := func(want string) {
		t.Helper()
		var parts []string
		for i := range tree.Many() {
			f := tree.Node(i)
			parts = append(parts, fmt.Sprintf("%d@%d%v", f.Seq(), f.Time(), f.Floors()))
		}
		if got := strings.Join(parts, " "); got != want {
			t.Fatalf("%s, not %s", got, want)
		}
	}
	polls := func(i, want int, wantErr error) {
		t.Helper()
		if n, err := tree.Poll(i); n != want || err != wantErr {
			t.Fatalf("Poll(%d): %d, %v", i, n, err)
		}
	}
	pushes := func(upTo, from, time int) {
		t.Helper()
		if err := tree.Push(head(t, l[:upTo], time), l[from:upTo]); err != nil {
			t.Fatal(err)
		}
	}
	tells("0@-1[] 0@-1[] 0@-1[] 0@-1[]")
	polls(1, 0, api.ErrNone)
	pushes(2, 0, 9)
	tells("2@9[{* 3}] 0@-1[] 0@-1[] 0@-1[]")
	polls(2, 0, api.ErrNone)
	polls(1, 2, nil)
	tells("2@9[{* 3}] 2@9[{* 3}] 0@-1[] 0@-1[]")
	polls(1, 0, api.ErrLate)
	pushes(3, 2, 9) // of the same time
	polls(1, 1, nil)
	pushes(3, 3, 12) // no entries
	polls(1, 0, nil)
	tells("3@12[{* 3} {ann 5}] 3@12[{* 3} {ann 5}] 0@-1[] 0@-1[]")
	polls(1, 0, api.ErrLate)
	if n := tree.All(); n != 2 {
		t.Fatal(n)
	}
	tells("3@12[{* 3} {ann 5}] 3@12[{* 3} {ann 5}] 3@12[{* 3} {ann 5}] 3@12[{* 3} {ann 5}]")
	if n := tree.All(); n != 0 {
		t.Fatal(n)
	}
	pushes(3, 3, 13)
	if n := tree.All(); n != 3 { // a head alone is something
		t.Fatal(n)
	}
}

// P80: follow.Take's errors, in their order, bare; the root has what it had.
func TestPushErrors(t *testing.T) {
	l := long(5)
	for _, above := range [][]int{nil, {0}, {0, 1, 0}} {
		p := newPair(t, realm, above)
		p.pushes(l[:3], 9)
		p.all()
		next := l[3:]
		right := head(t, l, 9)
		p.refuses("", next, api.ErrText)
		p.refuses("x", next, api.ErrText)
		p.refuses(right+" ", next, api.ErrText)
		p.refuses(strings.Repeat("a", 4001), next, api.ErrBound)
		p.refuses(headWith(t, realm+1, l, 9), next, api.ErrMark)
		p.refuses(head(t, l, 8), next, api.ErrLate)
		p.refuses(head(t, l[:3], 8), next, api.ErrLate) // ahead of ErrGap
		p.refuses(right, next[:1], api.ErrGap)
		p.refuses(right, next[1:], api.ErrGap)
		p.refuses(right, l, api.ErrGap)
		p.refuses(right, nil, api.ErrGap)
		p.refuses(head(t, l[:3], 9), next, api.ErrGap)
		p.refuses(right, []api.Entry{next[1], next[0]}, api.ErrGap)
		p.refuses(right, []api.Entry{next[0], entry(5, api.MaxTime+1, "ann", 9)}, api.ErrBound)
		p.refuses(right, []api.Entry{next[0], entry(5, 0, "ann", 9)}, api.ErrOrder)
		p.refuses(right, []api.Entry{next[0], entry(5, 9, "A", 9)}, api.ErrName)
		p.refuses(right, []api.Entry{next[0], entry(5, 9, "ann", 0)}, api.ErrBound)
		p.refuses(right, []api.Entry{next[0], entry(5, 9, "ann", 9)}, api.ErrMark)
		p.pushes(l, 9)
	}
}

// P80: the root takes with the tree's key, and so do all.
func TestKeys(t *testing.T) {
	l := long(4)
	for _, key := range goodKeys {
		p := newPair(t, key, []int{0, 1, 1})
		for _, other := range goodKeys {
			if other != key {
				p.refuses(headWith(t, other, l, 9), l, api.ErrMark)
			}
		}
		p.push(headWith(t, key, l, 9), 9, l)
		p.all()
	}
}

// P80: a push is the root's alone.
func TestPushChangesTheRootAlone(t *testing.T) {
	for _, above := range shapes() {
		p := newPair(t, realm, above)
		for n := range 5 {
			p.pushes(long(n), 9+n/2)
		}
	}
}

// P80: ErrBound, ahead of ErrNone, and of ErrLate.
func TestPollOfNone(t *testing.T) {
	for _, above := range shapes() {
		many := len(above) + 1
		none := []int{0, -1, many, many + 1, 100, math.MinInt, math.MaxInt}
		p := newPair(t, realm, above)
		for range 3 {
			for _, i := range none {
				if n, err := p.tree.Poll(i); n != 0 || err != api.ErrBound {
					t.Fatalf("Poll(%d), of %v: %d, %v", i, above, n, err)
				}
			}
			p.check("Poll")
			if p.want.nodes[0].time < 0 {
				p.pushes(long(3), 9)
			} else {
				p.all()
			}
		}
	}
}

// P80: ErrNone, as long as the one above has no head, though the root has one.
func TestPollWithNoHeadAbove(t *testing.T) {
	for _, above := range shapes() {
		p := newPair(t, realm, above)
		for i := range above {
			p.poll(i + 1)
		}
		p.pushes(long(3), 9)
		for i := len(above); i > 0; i-- {
			p.poll(i)
		}
		p.all()
	}
	// A head of no entries is a head.
	p := newPair(t, realm, chain(2))
	p.pushes(nil, 0)
	p.poll(1)
	p.poll(1)
	if n, err := p.tree.Poll(2); n != 0 || err != nil {
		t.Error(n, err)
	}
}

// P80: from feeds cut anywhere, to a follower that has the beginning, or has it all: it takes what is more.
func TestPollOfPart(t *testing.T) {
	full := long(most)
	for _, cuts := range [][3]int{{0, 0, 0}, {0, 1, 2}, {1, 1, 1}, {1, 2, 2}, {2, 2, 3}, {0, 30, 60}, {0, 0, 60}, {59, 60, 60}, {60, 60, 60}, {1, 59, 60}} {
		for _, times := range [][3]int{{40, 40, 40}, {40, 40, 41}, {40, 41, 41}, {30, 35, api.MaxTime}, {api.MaxTime, api.MaxTime, api.MaxTime}} {
			p := newPair(t, realm, chain(3))
			// The first follower has the least, until the root has it all.
			for i, cut := range cuts {
				p.pushes(full[:cut], times[i])
				if i == 0 {
					p.poll(1)
				}
			}
			p.poll(1)
			p.poll(2)
			p.poll(3)
			p.poll(1)
		}
	}
}

// P80: it has the newest head already; one of the same time is another, where it tells of more.
func TestPollLate(t *testing.T) {
	l := long(6)
	for _, above := range [][]int{{0}, {0, 1}, {0, 0}} {
		p := newPair(t, realm, above)
		for n := range len(l) + 1 {
			p.pushes(l[:n], 9)
			for range 3 {
				p.poll(1)
				p.poll(len(above))
			}
			// The same head again is no newer one.
			p.pushes(l[:n], 9)
			p.poll(1)
		}
	}
	// From the one above, not from the root.
	p := newPair(t, realm, chain(2))
	p.pushes(l[:2], 9)
	p.all()
	p.pushes(l[:4], 9)
	if n, err := p.tree.Poll(2); n != 0 || err != api.ErrLate {
		t.Error(n, err)
	}
}

// P80 and P82: each polls once, in order, and then all have what the root has.
func TestAll(t *testing.T) {
	l := long(5)
	for _, above := range shapes() {
		p := newPair(t, realm, above)
		p.all() // no head: nobody takes anything
		for _, c := range []struct{ upTo, time, took int }{
			{0, 9, len(above)},
			{0, 9, 0},
			{2, 9, len(above)},
			{2, 9, 0},
			{2, 10, len(above)}, // a head alone
			{5, 10, len(above)},
			{5, api.MaxTime, len(above)},
			{5, api.MaxTime, 0},
		} {
			p.pushes(l[:c.upTo], c.time)
			if n := p.tree.All(); n != c.took {
				t.Fatalf("All, of %v, at %v: %d", above, c, n)
			}
			root := nodeOf(t, p.tree.Node(0))
			for i := range p.tree.Many() {
				if got := nodeOf(t, p.tree.Node(i)); !got.same(root) {
					t.Fatalf("All, of %v: %v, not %v", above, got, root)
				}
				p.want.nodes[i] = root
			}
			p.all()
		}
	}
}

// P80: those that have it already are not among those that took something.
func TestAllBehindSomePolls(t *testing.T) {
	for _, above := range shapes() {
		for first := range len(above) + 2 {
			p := newPair(t, realm, above)
			p.pushes(long(2), 9)
			p.poll(first)
			p.poll(first + 1)
			p.all()
			p.pushes(long(4), 9)
			p.poll(first)
			p.all()
		}
	}
}

// P81.
func TestNode(t *testing.T) {
	for _, above := range shapes() {
		p := newPair(t, realm, above)
		for range 2 {
			for _, i := range []int{-1, len(above) + 1, len(above) + 2, 100, math.MinInt, math.MaxInt} {
				if f := p.tree.Node(i); f != nil {
					t.Errorf("Node(%d), of %v: %v", i, above, nodeOf(t, f))
				}
			}
			p.pushes(long(2), 9)
			p.all()
		}
	}
}

// P81: what a copy takes is not the tree's, and what the tree takes is not the copy's.
func TestNodeIsACopy(t *testing.T) {
	l := long(5)
	for _, above := range shapes() {
		p := newPair(t, realm, above)
		for n := range 4 {
			var copies []*follow.Follower
			for i := range p.tree.Many() {
				f := p.tree.Node(i)
				if err := f.Take(head(t, l, 20), l[f.Seq():]); err != nil {
					t.Fatal(err)
				}
				copies = append(copies, p.tree.Node(i))
			}
			p.check("copies that take")
			was := slices.Clone(p.want.nodes)
			p.pushes(l[:n], 9)
			p.all()
			for i, f := range copies {
				if got := nodeOf(t, f); !got.same(was[i]) {
					t.Fatalf("of %v: %v, not %v", above, got, was[i])
				}
			}
		}
	}
}

// P4 with P3: above is only read, not behind its length, and not kept; nor are the entries.
func TestGivenListsAreNotKept(t *testing.T) {
	room := []int{0, 1, 2, -7, -8}
	p := newPair(t, realm, room[:3])
	if !slices.Equal(room, []int{0, 1, 2, -7, -8}) {
		t.Fatal(room)
	}
	for i := range room {
		room[i] = 3 - i
	}
	l := append(long(3), entry(-1, -1, "behind", -1))
	before := slices.Clone(l)
	p.push(head(t, l[:3], 9), 9, l[:3])
	p.poll(1)
	p.poll(2)
	if !slices.Equal(l, before) {
		t.Fatal(l)
	}
	p.want.nodes[0].entries = slices.Clone(before[:3])
	p.want.nodes[1] = p.want.nodes[0]
	p.want.nodes[2] = p.want.nodes[0]
	for i := range l {
		l[i] = entry(-1, -1, "written", -1)
	}
	p.check("lists written to")
	p.all()
	p.poll(3)
}

// P2: trees have nothing in common.
func TestTreesAreTheirOwn(t *testing.T) {
	above := []int{0, 1, 0}
	a, b := newPair(t, realm, above), newPair(t, realm, above)
	a.pushes(long(3), 9)
	a.poll(1)
	b.check("another tree's")
	b.pushes(long(1), 5)
	b.all()
	a.check("another tree's")
	a.all()
	b.check("another tree's")
}

// P80 to P82: through long walks, of any tree, with heads of which some are refused.
func TestWalks(t *testing.T) {
	source := rand.New(rand.NewSource(7))
	told := map[error]int{}
	for range 150 {
		above := make([]int, source.Intn(below+1))
		for i := range above {
			above[i] = source.Intn(i + 1)
		}
		p := newPair(t, realm, above)
		for range 60 {
			root := p.want.nodes[0]
			switch n := source.Intn(10); {
			case n < 3:
				p.pushMore(source)
			case n == 3 && root.time > 0:
				p.refuses(head(t, nil, root.time-1), nil, api.ErrLate)
			case n == 4:
				p.refuses(head(t, nil, api.MaxTime), []api.Entry{entry(1, 0, "*", 1)}, api.ErrGap)
			case n == 5 && source.Intn(3) == 0:
				p.all()
				for i := range p.tree.Many() {
					if got := nodeOf(t, p.tree.Node(i)); !got.same(root) {
						t.Fatalf("behind All, of %v: %v, not %v", above, got, root)
					}
				}
			default:
				i := source.Intn(len(above) + 2)
				_, err := (&model{p.want.above, slices.Clone(p.want.nodes)}).poll(i)
				told[err]++
				p.poll(i)
			}
		}
	}
	for _, want := range []error{nil, api.ErrBound, api.ErrNone, api.ErrLate} {
		if told[want] < 100 {
			t.Errorf("%v is told %d times", want, told[want])
		}
	}
}

// pushMore pushes up to three entries more, with a head that is right.
func (p pair) pushMore(source *rand.Rand) {
	p.Helper()
	l, time := p.want.nodes[0].entries, max(p.want.nodes[0].time, 0)+source.Intn(3)
	for range source.Intn(4) {
		more, err := feed.Add(l, time, api.Floor{Who: []string{"*", "ann", "bob", "cyd"}[source.Intn(4)], Epoch: 1 + source.Intn(12)})
		if err == nil {
			l = more
		}
	}
	p.pushes(l, time)
}

// P1, P2 and P80 to P82: look for more, among trees by a byte a follower, and what is done to them by a byte each.
func FuzzTrees(f *testing.F) {
	f.Add(realm, []byte{0, 1, 1, 0}, []byte{0, 4, 8, 9, 10, 11, 12, 1, 2, 1})
	f.Add(0, []byte{0}, []byte{})
	f.Add(realm, []byte{0, 2}, []byte{})
	f.Add(realm, chainBytes(below), []byte{0, 1, 0, 1, 2, 3})
	f.Add(realm, make([]byte, below+1), []byte{})
	f.Fuzz(func(t *testing.T, key int, places, deeds []byte) {
		above := make([]int, len(places))
		for i, b := range places {
			above[i] = int(int8(b))
		}
		tree, err := relay.New(key, above)
		at := wrongAt(above)
		switch {
		case key < 1 || key > api.MaxKey:
			if tree != nil || err != api.ErrKey {
				t.Fatal(key, above, tree, err)
			}
			return
		case len(above) > below:
			if tree != nil || err != api.ErrFull {
				t.Fatal(key, above, tree, err)
			}
			return
		case at >= 0:
			if tree != nil || !fault(err, at) {
				t.Fatal(key, above, tree, err)
			}
			return
		}
		p := newPair(t, key, above)
		l := long(most)
		for i, b := range deeds {
			had, time := len(p.want.nodes[0].entries), most+i/2
			switch upTo := min(had+int(b/4%4), most); b % 4 {
			case 0:
				p.push(headWith(t, key, l[:upTo], time), time, l[had:upTo])
			case 1:
				p.all()
			default:
				p.poll(int(int8(b)) / 4)
			}
		}
	})
}

func chainBytes(count int) []byte {
	var b []byte
	for _, n := range chain(count) {
		b = append(b, byte(n))
	}
	return b
}
