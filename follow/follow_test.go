package follow_test

import (
	"fmt"
	"math"
	"math/rand"
	"slices"
	"strconv"
	"strings"
	"testing"

	"keyholder/api"
	"keyholder/feed"
	"keyholder/floor"
	"keyholder/follow"
	"keyholder/mark"
)

const (
	realm      = 7  // the key of most followers here
	most       = 60 // of entries
	mostFloors = 21 // MaxPeople, and that of all
	sumOfNone  = 304
)

var (
	wrongKeys = []int{0, -1, api.MaxKey + 1, math.MinInt, math.MaxInt}
	goodKeys  = []int{1, 2, realm, 1 << 20, api.MaxKey - 1, api.MaxKey}
)

func entry(seq, time int, who string, epoch int) api.Entry {
	return api.Entry{Seq: seq, Time: time, Floor: api.Floor{Who: who, Epoch: epoch}}
}

// plainFeed makes entries of a text such as `3/ann:2 7/*:4`, numbered from 1.
func plainFeed(s string) []api.Entry {
	var l []api.Entry
	for i, word := range strings.Fields(s) {
		time, rest, _ := strings.Cut(word, "/")
		who, epoch, _ := strings.Cut(rest, ":")
		l = append(l, entry(i+1, number(time), who, number(epoch)))
	}
	return l
}

func number(s string) int {
	n, err := strconv.Atoi(s)
	if err != nil {
		panic(err)
	}
	return n
}

// long makes so many entries of one person, a tick between.
func long(count int) []api.Entry {
	var l []api.Entry
	for i := range count {
		l = append(l, entry(i+1, i, "ann", i+1))
	}
	return l
}

// wide makes so many entries, each of another person.
func wide(count, epoch int) []api.Entry {
	var l []api.Entry
	for i := range count {
		l = append(l, entry(i+1, 3, fmt.Sprintf("n%02d", i), epoch))
	}
	return l
}

// with is a new list of both, numbered from 1.
func with(l []api.Entry, more ...api.Entry) []api.Entry {
	both := slices.Concat(l, more)
	for i := len(l); i < len(both); i++ {
		both[i].Seq = i + 1
	}
	return both
}

// wrongOf tells what is wrong with a feed, as P60 tells it.
func wrongOf(l []api.Entry) error {
	last := 0
	for i, e := range l {
		isName := len(e.Floor.Who) >= 1 && len(e.Floor.Who) <= 8 && strings.Trim(e.Floor.Who, "abcdefghijklmnopqrstuvwxyz0123456789") == ""
		switch {
		case e.Seq != i+1:
			return api.ErrGap
		case e.Time < 0 || e.Time > 1000000:
			return api.ErrBound
		case e.Time < last:
			return api.ErrOrder
		case e.Floor.Who != "*" && !isName:
			return api.ErrName
		case e.Floor.Epoch < 1 || e.Floor.Epoch > 1073741824:
			return api.ErrBound
		}
		last = e.Time
	}
	return nil
}

// floorsOf tells the floors of a right feed without package floor; false: there would be too many on the way.
func floorsOf(l []api.Entry) ([]api.Floor, bool) {
	epochs := map[string]int{}
	for _, e := range l {
		epochs[e.Floor.Who] = max(epochs[e.Floor.Who], e.Floor.Epoch)
		if len(listOf(epochs)) > mostFloors {
			return nil, false
		}
	}
	return listOf(epochs), true
}

func listOf(epochs map[string]int) []api.Floor {
	var l []api.Floor
	for who, epoch := range epochs {
		if epoch > 0 && (who == "*" || epoch > epochs["*"]) {
			l = append(l, api.Floor{Who: who, Epoch: epoch})
		}
	}
	slices.SortFunc(l, func(a, b api.Floor) int { return strings.Compare(a.Who, b.Who) })
	return l
}

// sumOf tells the sum of the floors of a right feed; 0: they are too many.
func sumOf(l []api.Entry) int {
	floors, ok := floorsOf(l)
	if !ok {
		return 0
	}
	var parts []string
	for _, f := range floors {
		parts = append(parts, fmt.Sprintf("%s:%d", f.Who, f.Epoch))
	}
	text := strings.Join(parts, ",")
	if text == "" {
		text = "-"
	}
	return markOf(1, text)
}

func markOf(key int, s string) int {
	n, err := mark.Of(key, s)
	if err != nil {
		panic(err)
	}
	return n
}

// sealed is whatever text with its mark.
func sealed(key int, s string) string { return fmt.Sprint(s, " ", markOf(key, s)) }

// headOf is a head of these numbers, whether there is such a feed or not.
func headOf(key, seq, time, sum int) string {
	return sealed(key, fmt.Sprint("head ", seq, " ", time, " ", sum))
}

// head is the right one of a right feed.
func head(l []api.Entry, time int) string { return headOf(realm, len(l), time, sumOf(l)) }

// state is all that a follower tells.
type state struct {
	head      string
	seq, time int
	entries   []api.Entry
	floors    []api.Floor
}

func stateOf(f *follow.Follower) state {
	return state{f.Head(), f.Seq(), f.Time(), f.Entries(), f.Floors()}
}

func (s state) same(o state) bool {
	return s.head == o.head && s.seq == o.seq && s.time == o.time && slices.Equal(s.entries, o.entries) && slices.Equal(s.floors, o.floors)
}

// stateWith is what a follower is to tell of entries and the newest head.
func stateWith(l []api.Entry, head string, time int) state {
	floors, _ := floorsOf(l)
	return state{head, len(l), time, l, floors}
}

// wrongTake tells what is wrong with a head that is opened, and entries, as P70 tells it.
func wrongTake(s state, h feed.Head, l []api.Entry) error {
	both := slices.Concat(s.entries, l)
	switch {
	case h.Time < s.time:
		return api.ErrLate
	case h.Seq != len(both):
		return api.ErrGap
	case wrongOf(both) != nil:
		return wrongOf(both)
	case sumOf(both) == 0 || sumOf(both) != h.Sum:
		return api.ErrMark
	}
	return nil
}

func newFollower(t *testing.T, key int) *follow.Follower {
	t.Helper()
	f, err := follow.New(key)
	if f == nil || err != nil {
		t.Fatalf("New(%d): %v, %v", key, f, err)
	}
	return f
}

// having makes a follower, with the realm's key, that has a feed, with a head of that time.
func having(t *testing.T, l []api.Entry, time int) *follow.Follower {
	t.Helper()
	f := newFollower(t, realm)
	takes(t, f, head(l, time), time, nil, l)
	return f
}

// takes wants that the follower, which had some entries, takes more, and tells just these.
func takes(t *testing.T, f *follow.Follower, head string, time int, had, l []api.Entry) {
	t.Helper()
	if err := f.Take(head, l); err != nil {
		t.Fatalf("Take(%q, %v) behind %v: %v", head, l, had, err)
	}
	if got, want := stateOf(f), stateWith(slices.Concat(had, l), head, time); !got.same(want) {
		t.Fatalf("Take(%q, %v) behind %v: %v, not %v", head, l, had, got, want)
	}
}

// refuses wants that error itself, with no place, and nothing changed.
func refuses(t *testing.T, f *follow.Follower, head string, l []api.Entry, want error) {
	t.Helper()
	was := stateOf(f)
	if err := f.Take(head, l); err != want {
		t.Errorf("Take(%.60q, %.80q) behind %v: %v, not %v", head, fmt.Sprint(l), was, err, want)
	}
	if now := stateOf(f); !now.same(was) {
		t.Errorf("Take(%.60q, %.80q): %v, which was %v", head, fmt.Sprint(l), now, was)
	}
}

// smallFeeds: all right ones of up to three entries, of two names, of epochs up to 2, of two times.
func smallFeeds() [][]api.Entry {
	feeds := [][]api.Entry{nil}
	from := 0
	for range 3 {
		upTo := len(feeds)
		for _, l := range feeds[from:upTo] {
			for n := range 8 {
				longer := with(l, entry(0, n/4, []string{"*", "a"}[n%2], 1+n/2%2))
				if wrongOf(longer) == nil {
					feeds = append(feeds, longer)
				}
			}
		}
		from = upTo
	}
	return feeds
}

func rightFeeds() [][]api.Entry {
	return append(smallFeeds(), []api.Entry{}, long(1), long(59), long(60), wide(20, 1), wide(21, api.MaxNum),
		with(wide(20, 2), entry(0, 3, "*", 1)), with(wide(21, 1), entry(0, 3, "*", 1)),
		plainFeed("0/ann:1"), plainFeed("1000000/ann:1073741824"), plainFeed("0/*:1073741824"), plainFeed("0/*:1 1000000/*:1"),
		plainFeed("1/ann:5 1/ann:5 1/ann:2 1/*:9 1/*:3 2/ann:9"))
}

// P70: none, and no head, whose time is -1.
func TestNew(t *testing.T) {
	for _, key := range goodKeys {
		f := newFollower(t, key)
		if got := stateOf(f); !got.same(state{time: -1}) {
			t.Errorf("New(%d): %v", key, got)
		}
		if got := stateOf(f.Copy()); !got.same(state{time: -1}) {
			t.Errorf("New(%d), copied: %v", key, got)
		}
	}
	for _, key := range wrongKeys {
		if f, err := follow.New(key); f != nil || err != api.ErrKey {
			t.Errorf("New(%d): %v, %v", key, f, err)
		}
	}
	a, b := newFollower(t, realm), newFollower(t, realm)
	takes(t, a, head(long(2), 5), 5, nil, long(2))
	if got := stateOf(b); !got.same(state{time: -1}) {
		t.Error("two new followers are one:", got)
	}
}

// P70 and P71, with heads spelt out, whose sums are reckoned by hand.
func TestTakeByHand(t *testing.T) {
	f := newFollower(t, realm)
	for _, c := range []struct {
		head   string
		l      []api.Entry
		time   int
		floors string
	}{
		{sealed(realm, "head 0 0 304"), nil, 0, "-"},                          // of `-`: 257 + 45 + 2
		{"head 2 9 19896222 568084945", plainFeed("3/ann:2 7/*:3"), 9, "*:3"}, // of `*:3`: ((257+42+2)*257+58+2)*257 + 51 + 2
		{sealed(realm, "head 2 12 19896222"), nil, 12, "*:3"},
		{sealed(realm, "head 3 12 19896222"), []api.Entry{entry(3, 8, "ann", 3)}, 12, "*:3"},
	} {
		had := f.Entries()
		if err := f.Take(c.head, c.l); err != nil {
			t.Fatalf("Take(%q): %v", c.head, err)
		}
		text, err := floor.Text(f.Floors())
		if text != c.floors || err != nil || f.Head() != c.head || f.Time() != c.time || f.Seq() != len(had)+len(c.l) || !slices.Equal(f.Entries(), slices.Concat(had, c.l)) {
			t.Errorf("Take(%q): %v", c.head, stateOf(f))
		}
	}
}

// P70: right feeds, cut in two anywhere, at times that are as early as they may be, and as late.
func TestTakeGood(t *testing.T) {
	for _, l := range rightFeeds() {
		for cut := range len(l) + 1 {
			for _, time := range []int{0, 5, api.MaxTime} {
				f := newFollower(t, realm)
				takes(t, f, head(l[:cut], 0), 0, nil, l[:cut])
				takes(t, f, head(l, time), time, l[:cut], l[cut:])
				// The same head, or a later one, with nothing more.
				takes(t, f, head(l, time), time, l, nil)
				takes(t, f, head(l, api.MaxTime), api.MaxTime, l, []api.Entry{})
			}
		}
	}
}

// P70: heads that feed.Make makes are heads of the feed, with any key.
func TestTakeOfMade(t *testing.T) {
	for i, l := range rightFeeds() {
		key := goodKeys[i%len(goodKeys)]
		f := newFollower(t, key)
		for n := range len(l) + 1 {
			s, err := feed.Make(key, l[:n], api.MaxTime)
			if err != nil {
				t.Fatal(l[:n], err)
			}
			takes(t, f, s, api.MaxTime, l[:max(0, n-1)], l[max(0, n-1):n])
		}
	}
}

// P70 with P3: feed.Open's, ahead of all else, bare.
func TestTakeOfNoHead(t *testing.T) {
	l := plainFeed("3/ann:2 7/*:4")
	right := head(l, 9)
	for _, f := range []*follow.Follower{newFollower(t, realm), having(t, l, 9), having(t, long(60), 70)} {
		for _, given := range [][]api.Entry{nil, l, long(61), make([]api.Entry, 2)} {
			for _, s := range []string{"", " ", "x", "head", "head 2 9 x", right[:len(right)-1] + "x", right + " ", " " + right, "head 2 9 1 01",
				strings.Repeat("a", 4000), sealed(realm, "head"), sealed(realm, "head 2 9"), sealed(realm, "head 2 9 1 1"), sealed(realm, "ticket 2 9 1"),
				headOf(realm, 61, 9, 1), headOf(realm, 2, api.MaxTime+1, 1), headOf(realm, 2, 9, api.MaxKey+1), headOf(realm, -1, 9, 1), headOf(realm, 2, -1, 1), headOf(realm, 2, 9, -1),
				sealed(realm, "head 02 9 1"), sealed(realm, "head 2 9 1x")} {
				refuses(t, f, s, given, api.ErrText)
			}
			refuses(t, f, strings.Repeat("a", 4001), given, api.ErrBound)
			refuses(t, f, strings.Repeat(right+" ", 400), given, api.ErrBound)
			for _, s := range []string{"head 2 9 1", headOf(8, 2, 9, sumOf(l)), headOf(1, 0, 0, 0), sealed(6, "head"), sealed(8, "ticket 2 9 1"), right[:len(right)-1]} {
				refuses(t, f, s, given, api.ErrMark)
			}
		}
	}
}

// P70: the head is held against the follower's own key.
func TestTakeWithAnotherKey(t *testing.T) {
	l := plainFeed("3/ann:2 7/*:4")
	for _, key := range goodKeys {
		f := newFollower(t, key)
		for _, other := range goodKeys {
			s := headOf(other, 2, 9, sumOf(l))
			if other != key {
				refuses(t, f, s, l, api.ErrMark)
				refuses(t, f.Copy(), s, l, api.ErrMark)
			}
		}
		takes(t, f.Copy(), headOf(key, 2, 9, sumOf(l)), 9, nil, l)
		takes(t, f, headOf(key, 2, 9, sumOf(l)), 9, nil, l)
	}
}

// P70: a head with one byte another one is refused (chapter 2: as long as the mark begins where it began).
func TestTakeOfChangedHead(t *testing.T) {
	l := plainFeed("3/ann:2 7/*:4")
	right := head(l, 9)
	f := newFollower(t, realm)
	for i := range len(right) {
		for b := range 256 {
			changed := []byte(right)
			changed[i] = byte(b)
			if byte(b) == right[i] || (b == ' ') != (right[i] == ' ') {
				continue
			}
			was := stateOf(f)
			if err := f.Take(string(changed), l); err != api.ErrText && err != api.ErrMark || !stateOf(f).same(was) {
				t.Fatalf("Take(%q): %v, %v", changed, err, stateOf(f))
			}
		}
	}
	takes(t, f, right, 9, nil, l)
}

// P70 with P3: ErrLate goes ahead of ErrGap, that ahead of feed.Check's, and that ahead of ErrMark; all of them bare.
func TestTakeErrorsInOrder(t *testing.T) {
	had := plainFeed("3/ann:2 7/*:4")
	f := having(t, had, 9)
	next := []api.Entry{entry(3, 8, "ann", 5)}
	sum := sumOf(slices.Concat(had, next))
	falling := []api.Entry{entry(3, 6, "ann", 5)}
	for _, c := range []struct {
		seq, time, sum int
		l              []api.Entry
		want           error
	}{
		// The time, whatever else is wrong.
		{3, 8, sum, next, api.ErrLate},
		{2, 0, sumOf(had), nil, api.ErrLate},
		{2, 8, sum, next, api.ErrLate},
		{3, 8, sum, falling, api.ErrLate},
		{3, 8, 1, next, api.ErrLate},
		{60, 8, 0, nil, api.ErrLate},
		// How many there are, whatever they are.
		{2, 9, sum, next, api.ErrGap},
		{4, 9, sum, next, api.ErrGap},
		{1, 9, sum, next, api.ErrGap},
		{0, 9, sumOfNone, nil, api.ErrGap},
		{3, 9, sum, nil, api.ErrGap},
		{3, 9, sum, with(had, next...), api.ErrGap},
		{1, 9, sum, falling, api.ErrGap},
		{2, 9, 1, falling, api.ErrGap},
		{60, 9, sum, long(60), api.ErrGap},
		{2, 9, sum, long(1 << 12), api.ErrGap},
		// What is wrong with both together.
		{3, 9, sum, had[:1], api.ErrGap},
		{3, 9, sum, []api.Entry{entry(1, 8, "ann", 5)}, api.ErrGap},
		{3, 9, sum, []api.Entry{entry(2, 8, "ann", 5)}, api.ErrGap},
		{3, 9, sum, []api.Entry{entry(4, 8, "ann", 5)}, api.ErrGap},
		{3, 9, sum, []api.Entry{entry(0, 8, "ann", 5)}, api.ErrGap},
		{3, 9, sum, []api.Entry{{}}, api.ErrGap},
		{3, 9, sum, falling, api.ErrOrder},
		{3, 9, 1, falling, api.ErrOrder},
		{3, 9, 1, []api.Entry{entry(3, 6, "A", 0)}, api.ErrOrder},
		{3, 9, 1, []api.Entry{entry(3, -1, "A", 0)}, api.ErrBound},
		{3, 9, sum, []api.Entry{entry(3, api.MaxTime+1, "ann", 5)}, api.ErrBound},
		{3, 9, 1, []api.Entry{entry(3, 7, "A", 0)}, api.ErrName},
		{3, 9, 1, []api.Entry{entry(3, 7, "", 5)}, api.ErrName},
		{3, 9, 1, []api.Entry{entry(3, 7, "**", 5)}, api.ErrName},
		{3, 9, 1, []api.Entry{entry(3, 7, "ann", 0)}, api.ErrBound},
		{3, 9, 1, []api.Entry{entry(3, 7, "*", api.MaxNum+1)}, api.ErrBound},
		{4, 9, 1, []api.Entry{entry(3, 8, "ann", 5), entry(4, 7, "ann", 5)}, api.ErrOrder},
		{4, 9, 1, []api.Entry{entry(3, 8, "A", 5), entry(3, 7, "ann", 5)}, api.ErrName},
		// The sum.
		{3, 9, sum + 1, next, api.ErrMark},
		{3, 9, sum - 1, next, api.ErrMark},
		{3, 9, 0, next, api.ErrMark},
		{3, 9, sumOfNone, next, api.ErrMark},
		{3, 9, sumOf(had), next, api.ErrMark},
		{3, 9, floor.Sum([]api.Floor{{Who: "ann", Epoch: 5}}), next, api.ErrMark}, // those of what is new alone
		{3, 9, sum, []api.Entry{entry(3, 8, "ann", 6)}, api.ErrMark},
		{3, 9, sum, []api.Entry{entry(3, 8, "ann", 4)}, api.ErrMark},
		{3, 9, sum, []api.Entry{entry(3, 8, "bob", 5)}, api.ErrMark},
		{2, 9, sum, nil, api.ErrMark},
		{2, 9, sumOfNone, nil, api.ErrMark},
		{2, api.MaxTime, 0, nil, api.ErrMark},
	} {
		refuses(t, f, headOf(realm, c.seq, c.time, c.sum), c.l, c.want)
	}
	takes(t, f, headOf(realm, 3, 9, sum), 9, had, next)
}

// P70: the edges of the first head: no time is late, and no head is ahead of it.
func TestTakeFirst(t *testing.T) {
	for _, c := range []struct {
		seq, time, sum int
		l              []api.Entry
		want           error
	}{
		{0, 0, sumOfNone, nil, nil},
		{0, 0, sumOfNone, []api.Entry{}, nil},
		{0, api.MaxTime, sumOfNone, nil, nil},
		{0, 0, 0, nil, api.ErrMark},
		{0, 0, sumOfNone - 1, nil, api.ErrMark},
		{1, 0, sumOfNone, nil, api.ErrGap},
		{0, 0, sumOfNone, long(1), api.ErrGap},
		{1, 0, sumOf(long(1)), long(1), nil},
		{1, 0, sumOfNone, long(1), api.ErrMark},
		{1, 0, sumOf(long(2)), long(2)[1:], api.ErrGap},
	} {
		f := newFollower(t, realm)
		if c.want != nil {
			refuses(t, f, headOf(realm, c.seq, c.time, c.sum), c.l, c.want)
		} else {
			takes(t, f, headOf(realm, c.seq, c.time, c.sum), c.time, nil, c.l)
		}
	}
}

// P70: heads of one time are all taken, whichever comes first; one below is late, by one tick too.
func TestTakeByTime(t *testing.T) {
	l := long(5)
	for _, time := range []int{0, 1, 4, 9, api.MaxTime} {
		f := having(t, l[:2], time)
		for _, early := range []int{0, time / 2, time - 1} {
			if early >= 0 && early < time {
				refuses(t, f, head(l[:2], early), nil, api.ErrLate)
				refuses(t, f, head(l, early), l[2:], api.ErrLate)
			}
		}
		takes(t, f, head(l, time), time, l[:2], l[2:])
	}
	// Of how a head's time fits that of its last entry nothing is said.
	f := newFollower(t, realm)
	takes(t, f, head(l, 0), 0, nil, l)
	takes(t, f, head(l, 3), 3, l, nil)
	refuses(t, f, head(l, 2), nil, api.ErrLate)
}

// P70: as many entries as a feed may have, and no more.
func TestTakeFull(t *testing.T) {
	full := long(60)
	for _, cut := range []int{0, 1, 30, 59, 60} {
		f := having(t, full[:cut], 60)
		takes(t, f, head(full, 60), 60, full[:cut], full[cut:])
		more := []api.Entry{entry(61, 60, "ann", 61)}
		refuses(t, f, headOf(realm, 60, 60, sumOf(full)), more, api.ErrGap)
		refuses(t, f, headOf(realm, 61, 60, sumOf(long(61))), more, api.ErrText)
		takes(t, f, head(full, 61), 61, full, nil)
	}
}

// P70: floors that would be too many have no sum: no head tells them, whatever it says.
func TestTakeOfTooManyFloors(t *testing.T) {
	for _, l := range [][]api.Entry{
		wide(22, 1),
		wide(60, 1),
		with(wide(21, 2), entry(0, 3, "*", 1)),
		with(with([]api.Entry{entry(1, 0, "*", 1)}, wide(20, 2)...), entry(0, 3, "zed", 2)),
		with(wide(22, 1), entry(0, 3, "*", 1)),
	} {
		for _, cut := range []int{0, 1, 21} {
			f := having(t, l[:cut], 3)
			for _, sum := range []int{0, 1, sumOfNone, sumOf(l[:21]), floor.Sum([]api.Floor{{Who: "*", Epoch: 1}}), api.MaxKey} {
				refuses(t, f, headOf(realm, len(l), 3, sum), l[cut:], api.ErrMark)
			}
			// ErrMark comes last.
			refuses(t, f, headOf(realm, len(l), 2, sumOfNone), l[cut:], api.ErrLate)
			refuses(t, f, headOf(realm, len(l)-1, 3, sumOfNone), l[cut:], api.ErrGap)
		}
	}
}

// P70: small followers, small lists, all heads around them.
func TestTakeOfAllSmall(t *testing.T) {
	var lists [][]api.Entry
	for _, a := range smallEntries() {
		lists = append(lists, []api.Entry{a})
	}
	for _, l := range [][]api.Entry{nil, plainFeed("0/a:2"), plainFeed("1/*:1")} {
		lists = append(lists, l, with(l, entry(0, 1, "a", 2)), with(long(1), with(l, entry(0, 1, "a", 2))...)[1:])
	}
	for _, had := range smallFeeds() {
		if len(had) > 2 {
			continue
		}
		f := having(t, had, 1)
		was := stateOf(f)
		for _, l := range lists {
			both := slices.Concat(had, l)
			sum := sumOf(both)
			for _, h := range []feed.Head{{Seq: len(both), Time: 0, Sum: sum}, {Seq: len(both), Time: 1, Sum: sum}, {Seq: len(both), Time: 2, Sum: sum},
				{Seq: len(both) + 1, Time: 1, Sum: sum}, {Seq: len(l), Time: 1, Sum: sum}, {Seq: len(both), Time: 1, Sum: sumOf(had)}, {Seq: len(both), Time: 1, Sum: sumOf(l)}} {
				s := headOf(realm, h.Seq, h.Time, h.Sum)
				want := wrongTake(was, h, l)
				tried := f.Copy()
				if want != nil {
					refuses(t, tried, s, l, want)
				} else {
					takes(t, tried, s, h.Time, had, l)
				}
			}
		}
		if now := stateOf(f); !now.same(was) {
			t.Fatalf("%v, which was %v: its copies are not of their own", now, was)
		}
	}
}

func smallEntries() []api.Entry {
	var l []api.Entry
	for seq := range 5 {
		for _, time := range []int{-1, 0, 1, api.MaxTime + 1} {
			for _, who := range []string{"*", "a", "b", "A"} {
				for _, epoch := range []int{0, 1, 2} {
					l = append(l, entry(seq, time, who, epoch))
				}
			}
		}
	}
	return l
}

// P71: a copy tells the same, takes the same, and neither sees what the other takes.
func TestCopy(t *testing.T) {
	l := plainFeed("3/ann:2 7/*:4 9/bob:5 9/cyd:6")
	for n := range len(l) {
		f := having(t, l[:n], 9)
		was := stateOf(f)
		c := f.Copy()
		if c == f || !stateOf(c).same(was) {
			t.Fatalf("Copy of %v: %v", was, stateOf(c))
		}
		// Each goes its own way: what they take is another entry, at one place.
		other := with(l[:n], entry(0, 9, "zed", 9))
		takes(t, c, head(l, 9), 9, l[:n], l[n:])
		if !stateOf(f).same(was) {
			t.Fatalf("%v, which was %v", stateOf(f), was)
		}
		takes(t, f, head(other, 10), 10, l[:n], other[n:])
		if want := stateWith(l, head(l, 9), 9); !stateOf(c).same(want) {
			t.Fatalf("%v, not %v", stateOf(c), want)
		}
		// The newest head is each one's own, too.
		refuses(t, f, head(other, 9), nil, api.ErrLate)
		takes(t, c, head(l, 9), 9, l, nil)
	}
}

// P4: what is handed over stays as it was, also behind its length, and may be written to later.
func TestGivenEntriesAreNotKept(t *testing.T) {
	for _, l := range rightFeeds() {
		for cut := range len(l) + 1 {
			room := slices.Concat(l[cut:], []api.Entry{entry(-7, -7, "behind", -7), entry(-8, -8, "*", -8)})
			before := slices.Clone(room)
			given := room[:len(l)-cut]
			f := having(t, l[:cut], 3)
			refuses(t, f, headOf(realm, len(l), 3, 1), given, api.ErrMark)
			takes(t, f, head(l, 3), 3, l[:cut], given)
			if !slices.Equal(room, before) {
				t.Fatalf("%v, which was %v", room, before)
			}
			want := stateOf(f)
			c := f.Copy()
			for i := range room {
				room[i] = entry(-1, -1, "written", -1)
			}
			if !stateOf(f).same(want) || !stateOf(c).same(want) {
				t.Fatalf("%v, and %v, which were %v", stateOf(f), stateOf(c), want)
			}
		}
	}
}

// P4: what is answered is new memory, also behind its length.
func TestAnswersAreNew(t *testing.T) {
	for _, l := range rightFeeds() {
		f := having(t, l[:len(l)/2], 3)
		takes(t, f, head(l, 3), 3, l[:len(l)/2], l[len(l)/2:])
		c := f.Copy()
		want := stateWith(slices.Clone(l), head(l, 3), 3)
		for range 2 {
			for _, one := range []*follow.Follower{f, c} {
				entries, floors := one.Entries(), one.Floors()
				entries, floors = entries[:cap(entries)], floors[:cap(floors)]
				for i := range entries {
					entries[i] = entry(-1, -1, "written", -1)
				}
				for i := range floors {
					floors[i] = api.Floor{Who: "written", Epoch: -1}
				}
			}
			if !stateOf(f).same(want) || !stateOf(c).same(want) {
				t.Fatalf("%v, and %v, not %v", stateOf(f), stateOf(c), want)
			}
		}
	}
}

// P4: what is appended to an answer does not show in what is taken later.
func TestAnswersMayGrow(t *testing.T) {
	f := having(t, long(3), 5)
	_ = append(f.Entries(), entry(4, 9, "zed", 9))
	_ = append(f.Floors(), api.Floor{Who: "zed", Epoch: 9})
	takes(t, f, head(long(5), 5), 5, long(3), long(5)[3:])
	_ = append(f.Entries(), entry(6, 9, "zed", 9))
	if want := stateWith(long(5), head(long(5), 5), 5); !stateOf(f).same(want) {
		t.Error(stateOf(f))
	}
}

// P72: whoever took the same head has the same floors, however the entries came, and whichever they were.
func TestSameHeadsSameFloors(t *testing.T) {
	byHead := map[string]state{}
	for _, l := range rightFeeds() {
		for step := 1; step <= len(l)+1; step++ {
			f := newFollower(t, realm)
			for n := 0; n < len(l); n += step {
				upTo := min(n+step, len(l))
				takes(t, f, head(l[:upTo], 5), 5, l[:n], l[n:upTo])
			}
			takes(t, f, head(l, 9), 9, l, nil)
			if other, ok := byHead[f.Head()]; ok && !slices.Equal(other.floors, f.Floors()) {
				t.Fatalf("%q: %v, and %v", f.Head(), other, stateOf(f))
			}
			byHead[f.Head()] = stateOf(f)
		}
	}
	// Entries that lead to the same floors are as good.
	a := having(t, plainFeed("1/ann:5 2/ann:2"), 9)
	b := having(t, plainFeed("1/ann:1 1/ann:5"), 9)
	if a.Head() != b.Head() || !slices.Equal(a.Floors(), b.Floors()) || slices.Equal(a.Entries(), b.Entries()) {
		t.Error(stateOf(a), stateOf(b))
	}
	// Those that lead to others are refused under that head.
	refuses(t, newFollower(t, realm), a.Head(), plainFeed("1/ann:4 1/ann:2"), api.ErrMark)
}

// P70 to P72: through long walks, with heads and entries of which some are wrong, what is taken is there, what is refused changes nothing, floors only rise, and two that are told the same things have the same.
func TestWalks(t *testing.T) {
	source := rand.New(rand.NewSource(7))
	names := []string{"*", "*", "A", "ann"}
	for _, e := range wide(24, 1) {
		names = append(names, e.Floor.Who)
	}
	told := map[error]int{}
	for range 100 {
		f, other := newFollower(t, realm), newFollower(t, realm)
		for range 60 {
			was := stateOf(f)
			h, l := randomTake(source, was, names)
			s := headOf(realm, h.Seq, h.Time, h.Sum)
			want := wrongTake(was, h, l)
			told[want]++
			if want != nil {
				refuses(t, f, s, l, want)
			} else {
				takes(t, f, s, h.Time, was.entries, l)
				rises(t, was.floors, f.Floors(), names)
			}
			if err := other.Take(s, l); err != want || !stateOf(other).same(stateOf(f)) {
				t.Fatalf("Take(%q, %v): %v, %v, and %v, %v", s, l, want, stateOf(f), err, stateOf(other))
			}
			if source.Intn(4) == 0 {
				other = other.Copy()
			}
		}
	}
	for _, want := range []error{nil, api.ErrLate, api.ErrGap, api.ErrOrder, api.ErrName, api.ErrBound, api.ErrMark} {
		if told[want] < 10 {
			t.Errorf("%v is told %d times", want, told[want])
		}
	}
}

// randomTake is mostly right.
func randomTake(source *rand.Rand, s state, names []string) (feed.Head, []api.Entry) {
	time := max(s.time, 0)
	if n := len(s.entries); n > 0 {
		time = max(time, s.entries[n-1].Time)
	}
	var l []api.Entry
	for i := range source.Intn(4) {
		e := entry(len(s.entries)+i+1, time, names[source.Intn(len(names))], 1+source.Intn(12))
		if e.Floor.Who == "*" {
			e.Floor.Epoch = 1 + e.Floor.Epoch/3
		}
		switch source.Intn(30) {
		case 0:
			e.Seq += source.Intn(3) - 1
		case 1:
			e.Time--
		case 2:
			e.Floor.Epoch = 0
		}
		l = append(l, e)
	}
	both := slices.Concat(s.entries, l)
	h := feed.Head{Seq: min(len(both), most), Time: time + source.Intn(3), Sum: sumOf(both)}
	switch source.Intn(20) {
	case 0:
		h.Seq = source.Intn(most + 1)
	case 1:
		h.Time = max(h.Time-3, 0)
	case 2:
		h.Sum = source.Intn(api.MaxKey + 1)
	case 3:
		h.Sum = sumOf(s.entries)
	}
	return h, l
}

// rises wants that nobody's floor is below what it was.
func rises(t *testing.T, was, now []api.Floor, names []string) {
	t.Helper()
	if err := floor.Check(now); err != nil {
		t.Fatal(now, err)
	}
	for _, name := range append(names, "zed") {
		if floor.Of(now, name) < floor.Of(was, name) {
			t.Fatalf("%v, and then %v: %s falls", was, now, name)
		}
	}
}

// P1, P2, P70 and P72: look for more, among entries of four bytes each, and any head.
func FuzzTakes(f *testing.F) {
	f.Add([]byte{1, 3, 1, 2, 2, 3, 2, 5, 3, 7, 0, 4}, 1, 5, 3, 9, 0, "")
	f.Add([]byte{}, 0, 0, 0, 0, 304, "x")
	f.Add([]byte{1, 3, 1, 2, 2, 2, 1, 3}, 1, 4, 2, 4, 0, "head 2 4 1")
	f.Add([]byte{1, 3, 1, 2}, 0, 4, 1, 3, 1, "head 61 4 1")
	f.Fuzz(func(t *testing.T, b []byte, cut, first, seq, time, sum int, text string) {
		var l []api.Entry
		for part := range slices.Chunk(b, 4) {
			if len(part) == 4 {
				l = append(l, entry(int(part[0]), int(part[1])-1, []string{"*", "ann", "bob", "cyd", "A", ""}[part[2]%6], int(part[3])))
			}
		}
		one, err := follow.New(realm)
		if err != nil {
			t.Fatal(err)
		}
		cut = min(max(cut, 0), len(l))
		one.Take(headOf(realm, cut, first, sumOf(l[:cut])), l[:cut])
		one.Take(text, l)
		was := stateOf(one)
		if sum == 0 {
			sum = sumOf(slices.Concat(was.entries, l[cut:]))
		}
		h := feed.Head{Seq: seq, Time: time, Sum: sum}
		want := wrongTake(was, h, l[cut:])
		if seq < 0 || seq > most || time < 0 || time > api.MaxTime || sum < 0 || sum > api.MaxKey {
			want = api.ErrText
		}
		s, other := headOf(realm, seq, time, sum), one.Copy()
		err, errOther := one.Take(s, l[cut:]), other.Take(s, l[cut:])
		if err != want || errOther != want || !stateOf(one).same(stateOf(other)) {
			t.Fatal(was, s, l, err, errOther, want)
		}
		next := was
		if want == nil {
			next = stateWith(slices.Concat(was.entries, l[cut:]), s, time)
		}
		if !stateOf(one).same(next) {
			t.Fatal(was, s, l, stateOf(one), next)
		}
	})
}
