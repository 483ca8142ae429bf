package feed_test

import (
	"fmt"
	"math"
	"math/rand"
	"slices"
	"strconv"
	"strings"
	"testing"

	"keyholder/api"
	"keyholder/feed"
	"keyholder/floor"
	"keyholder/mark"
	"keyholder/seal"
)

const (
	most       = 60 // of entries
	mostFloors = 21 // MaxPeople, and that of all
)

var (
	wrongTimes  = []int{-1, -7, api.MaxTime + 1, math.MinInt, math.MaxInt}
	wrongEpochs = []int{0, -1, api.MaxNum + 1, math.MinInt, math.MaxInt}
	wrongNames  = []string{"", " ", "A", "annA", "a-b", "**", "a*", "*a", "-", "a ", " a", "é", "\xff", "a\x00", "abcdefghi", strings.Repeat("a", 1<<16)}
	goodNames   = []string{"*", "0", "9", "9a", "a", "abcdefgh", "ann", "z"}
	wrongKeys   = []int{0, -1, api.MaxKey + 1, math.MinInt, math.MaxInt}
	goodKeys    = []int{1, 2, 7, 1 << 20, api.MaxKey - 1, api.MaxKey}
)

func entry(seq, time int, who string, epoch int) api.Entry {
	return api.Entry{Seq: seq, Time: time, Floor: api.Floor{Who: who, Epoch: epoch}}
}

// plainFeed makes entries of a text such as `3/ann:2 7/*:4`, numbered from 1, without the package's own adding.
func plainFeed(s string) []api.Entry {
	var l []api.Entry
	for i, word := range strings.Fields(s) {
		time, rest, _ := strings.Cut(word, "/")
		who, epoch, _ := strings.Cut(rest, ":")
		l = append(l, entry(i+1, number(time), who, number(epoch)))
	}
	return l
}

func number(s string) int {
	n, err := strconv.Atoi(s)
	if err != nil {
		panic(err)
	}
	return n
}

// long makes so many entries of one person, a tick between.
func long(count int) []api.Entry {
	var l []api.Entry
	for i := range count {
		l = append(l, entry(i+1, i, "ann", i+1))
	}
	return l
}

// wide makes so many entries, each of another person.
func wide(count, epoch int) []api.Entry {
	var l []api.Entry
	for i := range count {
		l = append(l, entry(i+1, 3, fmt.Sprintf("n%02d", i), epoch))
	}
	return l
}

// with is a new list of both, numbered from 1.
func with(l []api.Entry, more ...api.Entry) []api.Entry {
	both := slices.Concat(l, more)
	for i := len(l); i < len(both); i++ {
		both[i].Seq = i + 1
	}
	return both
}

// is: is it that error, bare (at is -1), or of a *api.Fault at that place, itself?
func is(err error, at int, want error) bool {
	if at < 0 {
		return err == want
	}
	f, ok := err.(*api.Fault)
	return ok && f.At == at && f.Err == want
}

// wrongBehind tells what is wrong with an entry behind others, as P60 tells it.
func wrongBehind(ahead []api.Entry, e api.Entry) error {
	isName := len(e.Floor.Who) >= 1 && len(e.Floor.Who) <= 8 && strings.Trim(e.Floor.Who, "abcdefghijklmnopqrstuvwxyz0123456789") == ""
	switch {
	case e.Seq != len(ahead)+1:
		return api.ErrGap
	case e.Time < 0 || e.Time > 1000000:
		return api.ErrBound
	case len(ahead) > 0 && e.Time < ahead[len(ahead)-1].Time:
		return api.ErrOrder
	case e.Floor.Who != "*" && !isName:
		return api.ErrName
	case e.Floor.Epoch < 1 || e.Floor.Epoch > 1073741824:
		return api.ErrBound
	}
	return nil
}

// firstWrong tells what is wrong with a feed, as P60 tells it: nil and -1 if it is right.
func firstWrong(l []api.Entry) (int, error) {
	if len(l) > most {
		return -1, api.ErrFull
	}
	for i, e := range l {
		if err := wrongBehind(l[:i], e); err != nil {
			return i, err
		}
	}
	return -1, nil
}

// floorsOf tells the floors of a right feed without package floor; false: there would be too many on the way.
func floorsOf(l []api.Entry) ([]api.Floor, bool) {
	epochs := map[string]int{}
	for _, e := range l {
		epochs[e.Floor.Who] = max(epochs[e.Floor.Who], e.Floor.Epoch)
		if len(listOf(epochs)) > mostFloors {
			return nil, false
		}
	}
	return listOf(epochs), true
}

func listOf(epochs map[string]int) []api.Floor {
	var l []api.Floor
	for who, epoch := range epochs {
		if epoch > 0 && (who == "*" || epoch > epochs["*"]) {
			l = append(l, api.Floor{Who: who, Epoch: epoch})
		}
	}
	slices.SortFunc(l, func(a, b api.Floor) int { return strings.Compare(a.Who, b.Who) })
	return l
}

type wrongFeed struct {
	l   []api.Entry
	at  int
	err error
}

// wrongFeeds: feeds with something wrong, and beside it what would be told later.
func wrongFeeds() []wrongFeed {
	first := entry(1, 3, "ann", 2)
	all := []wrongFeed{
		// The number is one more than the place.
		{long(5)[1:], 0, api.ErrGap},
		{slices.Concat(long(2), long(5)[3:]), 2, api.ErrGap},
		{slices.Concat(long(2), long(2)), 2, api.ErrGap},
		{[]api.Entry{first, first}, 1, api.ErrGap},
		{[]api.Entry{first, entry(3, 3, "ann", 2)}, 1, api.ErrGap},
		{[]api.Entry{first, entry(2, 3, "ann", 2), entry(2, 3, "ann", 2)}, 2, api.ErrGap},
		{[]api.Entry{first, entry(math.MaxInt, 3, "ann", 2)}, 1, api.ErrGap},
		{[]api.Entry{first, entry(math.MinInt, 3, "ann", 2)}, 1, api.ErrGap},
		{[]api.Entry{entry(0, 3, "ann", 2)}, 0, api.ErrGap},
		{[]api.Entry{entry(-1, 3, "ann", 2)}, 0, api.ErrGap},
		// The time does not fall.
		{plainFeed("3/ann:2 2/ann:3"), 1, api.ErrOrder},
		{plainFeed("1/ann:2 0/ann:3"), 1, api.ErrOrder},
		{plainFeed("3/ann:2 5/ann:3 4/ann:4"), 2, api.ErrOrder},
		{plainFeed("3/ann:2 1000000/ann:3 999999/ann:4"), 2, api.ErrOrder},
		// Of one entry, in the order of the errors.
		{[]api.Entry{{}}, 0, api.ErrGap},
		{[]api.Entry{first, entry(1, -1, "A", 0)}, 1, api.ErrGap},
		{[]api.Entry{first, entry(2, -1, "A", 0)}, 1, api.ErrBound},
		{[]api.Entry{first, entry(2, 2, "A", 0)}, 1, api.ErrOrder},
		{[]api.Entry{first, entry(2, 3, "A", 0)}, 1, api.ErrName},
		{[]api.Entry{first, entry(2, 3, "a", 0)}, 1, api.ErrBound},
		// Of several entries, the first of them, whatever the others have.
		{[]api.Entry{entry(1, 3, "a", 0), entry(7, -1, "A", 0)}, 0, api.ErrBound},
		{[]api.Entry{first, entry(2, 2, "a", 1), {}}, 1, api.ErrOrder},
		{[]api.Entry{first, entry(2, 3, "A", 1), entry(9, -1, "A", 0)}, 1, api.ErrName},
		{with(long(59), entry(0, 59, "", 1)), 59, api.ErrName},
		{with(long(59), entry(0, 57, "ann", 1)), 59, api.ErrOrder},
		// A feed that is not right, and whose floors would be too many.
		{with(wide(22, 1), entry(0, 2, "zed", 1)), 22, api.ErrOrder},
		// Too many, whatever they are.
		{long(61), -1, api.ErrFull},
		{make([]api.Entry, 61), -1, api.ErrFull},
		{make([]api.Entry, 1<<16), -1, api.ErrFull},
		{make([]api.Entry, 60), 0, api.ErrGap},
	}
	for _, time := range wrongTimes {
		all = append(all,
			wrongFeed{[]api.Entry{entry(1, time, "ann", 1)}, 0, api.ErrBound},
			wrongFeed{[]api.Entry{first, entry(2, time, "ann", 1)}, 1, api.ErrBound})
	}
	for _, name := range wrongNames {
		all = append(all,
			wrongFeed{[]api.Entry{entry(1, 0, name, 1)}, 0, api.ErrName},
			wrongFeed{[]api.Entry{first, entry(2, 3, name, 0)}, 1, api.ErrName})
	}
	for _, epoch := range wrongEpochs {
		all = append(all,
			wrongFeed{[]api.Entry{entry(1, 0, "*", epoch)}, 0, api.ErrBound},
			wrongFeed{[]api.Entry{first, entry(2, 3, "ann", epoch)}, 1, api.ErrBound})
	}
	return all
}

// smallFeeds: all right ones of up to three entries, of three names, of epochs up to 3, of two times.
func smallFeeds() [][]api.Entry {
	feeds := [][]api.Entry{nil}
	from := 0
	for range 3 {
		upTo := len(feeds)
		for _, l := range feeds[from:upTo] {
			for n := range 18 {
				e := entry(len(l)+1, n/9, []string{"*", "a", "b"}[n%3], 1+n/3%3)
				if wrongBehind(l, e) == nil {
					feeds = append(feeds, append(slices.Clone(l), e))
				}
			}
		}
		from = upTo
	}
	return feeds
}

func rightFeeds() [][]api.Entry {
	var named []api.Entry
	for i, name := range goodNames {
		named = append(named, entry(i+1, i, name, i+1))
	}
	return append(smallFeeds(), []api.Entry{}, named, long(1), long(59), long(60), wide(20, 1), wide(21, api.MaxNum),
		plainFeed("0/ann:1"), plainFeed("1000000/ann:1073741824"), plainFeed("0/*:1073741824"), plainFeed("0/*:1 1000000/*:1"),
		// What an entry tells need not be more than what there was.
		plainFeed("1/ann:5 1/ann:5 1/ann:2 1/*:9 1/*:3 2/ann:9"))
}

// P60: every edge.
func TestCheckGood(t *testing.T) {
	feeds := append(rightFeeds(), wide(22, 1), wide(60, 1))
	for _, l := range feeds {
		if err := feed.Check(l); err != nil {
			t.Errorf("%v: %v", l, err)
		}
	}
}

// P60 with P3: ErrFull bare and ahead; the first entry that is wrong; of one, the errors in their order.
func TestCheckErrorsInOrder(t *testing.T) {
	for _, c := range wrongFeeds() {
		if err := feed.Check(c.l); !is(err, c.at, c.err) {
			t.Errorf("%.80q: %v, not %v at %d", fmt.Sprint(c.l), err, c.err, c.at)
		}
	}
}

// P60: all feeds of up to two entries, right or not.
func TestCheckOfAllShortFeeds(t *testing.T) {
	var entries []api.Entry
	for seq := range 4 {
		for _, time := range []int{-1, 0, 1, 2, api.MaxTime, api.MaxTime + 1} {
			for _, who := range []string{"*", "a", "A", ""} {
				for _, epoch := range []int{-1, 0, 1, api.MaxNum, api.MaxNum + 1} {
					entries = append(entries, entry(seq, time, who, epoch))
				}
			}
		}
	}
	for _, a := range entries {
		for _, b := range entries {
			for _, l := range [][]api.Entry{{a}, {a, b}} {
				at, want := firstWrong(l)
				if err := feed.Check(l); !is(err, at, want) {
					t.Fatalf("%v: %v, not %v at %d", l, err, want, at)
				}
			}
		}
	}
}

func TestAddByHand(t *testing.T) {
	var l []api.Entry
	for _, c := range []struct {
		time  int
		who   string
		epoch int
		want  string
	}{
		{0, "ann", 1, "0/ann:1"},
		{0, "ann", 1, "0/ann:1 0/ann:1"},
		{3, "bob", api.MaxNum, "0/ann:1 0/ann:1 3/bob:1073741824"},
		{api.MaxTime, "*", 4, "0/ann:1 0/ann:1 3/bob:1073741824 1000000/*:4"},
		{api.MaxTime, "ann", 1, "0/ann:1 0/ann:1 3/bob:1073741824 1000000/*:4 1000000/ann:1"},
	} {
		longer, err := feed.Add(l, c.time, api.Floor{Who: c.who, Epoch: c.epoch})
		if !slices.Equal(longer, plainFeed(c.want)) || err != nil {
			t.Fatalf("Add(%v, %d, %s, %d): %v, %v, not %q", l, c.time, c.who, c.epoch, longer, err, c.want)
		}
		l = longer
	}
}

// P60: to every right feed that has room, at its edges.
func TestAddGood(t *testing.T) {
	for _, l := range append(rightFeeds(), wide(21, 1), wide(22, 1), wide(59, 1)) {
		if len(l) == most {
			continue
		}
		last := 0
		if len(l) > 0 {
			last = l[len(l)-1].Time
		}
		for _, time := range []int{last, min(last+1, api.MaxTime), api.MaxTime} {
			for _, who := range goodNames {
				for _, epoch := range []int{1, 3, api.MaxNum} {
					want := with(l, entry(0, time, who, epoch))
					got, err := feed.Add(l, time, api.Floor{Who: who, Epoch: epoch})
					if !slices.Equal(got, want) || err != nil {
						t.Fatalf("Add(%v, %d, %s, %d): %v, %v", l, time, who, epoch, got, err)
					}
				}
			}
		}
	}
}

// P60 with P3: Check's with their place, then ErrFull, then those of the new one, bare; no list beside them.
func TestAddErrorsInOrder(t *testing.T) {
	refuses := func(l []api.Entry, time int, who string, epoch, at int, want error) {
		t.Helper()
		if got, err := feed.Add(l, time, api.Floor{Who: who, Epoch: epoch}); len(got) != 0 || !is(err, at, want) {
			t.Errorf("Add(%.80q, %d, %.20q, %d): %v, %v, not %v at %d", fmt.Sprint(l), time, who, epoch, got, err, want, at)
		}
	}
	for _, c := range wrongFeeds() {
		for _, time := range []int{-1, 0, api.MaxTime} {
			refuses(c.l, time, "ann", 1, c.at, c.err)
			refuses(c.l, time, "A", 0, c.at, c.err)
		}
	}
	for _, l := range [][]api.Entry{long(60), wide(60, 1)} {
		for _, time := range []int{-1, 0, 59, api.MaxTime, api.MaxTime + 1} {
			refuses(l, time, "ann", 1, -1, api.ErrFull)
			refuses(l, time, "A", 0, -1, api.ErrFull)
		}
	}
	for _, l := range [][]api.Entry{nil, plainFeed("3/ann:2"), plainFeed("3/ann:2 1000000/*:4"), long(59)} {
		for _, time := range wrongTimes {
			refuses(l, time, "ann", 1, -1, api.ErrBound)
			refuses(l, time, "A", 0, -1, api.ErrBound)
		}
		for _, name := range wrongNames {
			refuses(l, api.MaxTime, name, 1, -1, api.ErrName)
			refuses(l, api.MaxTime, name, 0, -1, api.ErrName)
		}
		for _, epoch := range wrongEpochs {
			refuses(l, api.MaxTime, "ann", epoch, -1, api.ErrBound)
			refuses(l, api.MaxTime, "*", epoch, -1, api.ErrBound)
		}
	}
	refuses(plainFeed("3/ann:2"), 2, "ann", 1, -1, api.ErrOrder)
	refuses(plainFeed("3/ann:2"), 0, "A", 0, -1, api.ErrOrder)
	refuses(plainFeed("3/ann:2 1000000/*:4"), 999999, "ann", 5, -1, api.ErrOrder)
	refuses(long(59), 57, "ann", 1, -1, api.ErrOrder)
}

func TestFloorsByHand(t *testing.T) {
	for l, want := range map[string]string{
		"":                             "-",
		"0/ann:1":                      "ann:1",
		"0/*:1":                        "*:1",
		"3/ann:2 3/bob:5 7/*:4":        "*:4,bob:5",
		"3/ann:2 3/*:3":                "*:3",
		"3/*:3 3/ann:2":                "*:3",
		"3/*:3 3/ann:3":                "*:3",
		"3/*:3 3/ann:4":                "*:3,ann:4",
		"3/ann:5 3/ann:2":              "ann:5",
		"3/bob:1 4/ann:1 5/cyd:1":      "ann:1,bob:1,cyd:1",
		"3/*:9 4/*:2 5/ann:9":          "*:9",
		"0/ann:1073741824 1000000/*:1": "*:1,ann:1073741824",
	} {
		got, err := feed.Floors(plainFeed(l))
		if s, errText := floor.Text(got); s != want || err != nil || errText != nil {
			t.Errorf("Floors(%q): %v, %v, not %q", l, got, err, want)
		}
	}
}

func TestFloorsOfRightFeeds(t *testing.T) {
	for _, l := range rightFeeds() {
		want, ok := floorsOf(l)
		if got, err := feed.Floors(l); !slices.Equal(got, want) || err != nil || !ok {
			t.Errorf("Floors(%v): %v, %v, not %v", l, got, err, want)
		}
	}
}

// P60 with P3: Check's with their place, then ErrFull of the floors, bare, where there are too many on the way; no list beside them.
func TestFloorsErrorsInOrder(t *testing.T) {
	refuses := func(l []api.Entry, at int, want error) {
		t.Helper()
		if got, err := feed.Floors(l); len(got) != 0 || !is(err, at, want) {
			t.Errorf("Floors(%.80q): %v, %v, not %v at %d", fmt.Sprint(l), got, err, want, at)
		}
	}
	for _, c := range wrongFeeds() {
		refuses(c.l, c.at, c.err)
	}
	for _, l := range tooWide() {
		refuses(l, -1, api.ErrFull)
	}
}

// tooWide: right feeds, of too many floors.
func tooWide() [][]api.Entry {
	return [][]api.Entry{
		wide(22, 1),
		wide(60, 1),
		with(wide(21, 2), entry(0, 3, "*", 1)),
		with(with([]api.Entry{entry(1, 0, "*", 1)}, wide(20, 2)...), entry(0, 3, "zed", 2)),
		// One of all that comes later does not help.
		with(wide(22, 1), entry(0, 3, "*", 1)),
	}
}

// P60: it is not full where that of all takes others away in time.
func TestFloorsOfWideFeeds(t *testing.T) {
	for _, c := range []struct {
		l    []api.Entry
		want int
	}{
		{wide(20, 1), 20},
		{wide(21, 1), 21},
		{with(wide(21, 1), entry(0, 3, "n20", 9)), 21},
		{with(wide(21, 1), entry(0, 3, "*", 1)), 1},
		{with(with(wide(21, 1), entry(0, 3, "*", 1)), wide(20, 2)...), 21},
		{with(wide(20, 2), entry(0, 3, "*", 1)), 21},
		{with([]api.Entry{entry(1, 0, "*", 5)}, wide(59, 5)...), 1},
	} {
		if got, err := feed.Floors(c.l); len(got) != c.want || err != nil {
			t.Errorf("Floors(%v): %v, %v, not %d of them", c.l, got, err, c.want)
		}
	}
}

// P61, marks reckoned by hand.
func TestMakeByHand(t *testing.T) {
	for _, c := range []struct {
		l    string
		time int
		want string // ahead of the head's own mark
	}{
		{"", 0, "head 0 0 304"},                         // of `-`: 257 + 45 + 2
		{"", api.MaxTime, "head 0 1000000 304"},         // the same
		{"3/ann:2 7/*:3", 7, "head 2 7 19896222"},       // of `*:3`: ((257+42+2)*257+58+2)*257 + 51 + 2
		{"3/ann:2 7/*:3", 9, "head 2 9 19896222"},       // the same
		{"7/*:3 7/*:2 7/ann:3", 7, "head 3 7 19896222"}, // the same
	} {
		for _, key := range goodKeys {
			n, err := mark.Of(key, c.want)
			if err != nil {
				t.Fatal(err)
			}
			want := c.want + " " + strconv.Itoa(n)
			if got, err := feed.Make(key, plainFeed(c.l), c.time); got != want || err != nil {
				t.Errorf("Make(%d, %q, %d): %q, %v, not %q", key, c.l, c.time, got, err, want)
			}
		}
	}
}

// P61 and P62: a head is opened as it was made, and tells its feed's length, its time, and its floors.
func TestHeadTellsItsFeed(t *testing.T) {
	told := map[int]string{}
	for i, l := range rightFeeds() {
		last := 0
		if len(l) > 0 {
			last = l[len(l)-1].Time
		}
		floors, _ := floorsOf(l)
		text, err := floor.Text(floors)
		if err != nil {
			t.Fatal(err)
		}
		sum, err := mark.Of(1, text)
		if err != nil {
			t.Fatal(err)
		}
		if other, ok := told[sum]; ok && other != text {
			t.Errorf("%q and %q: one sum", text, other)
		}
		told[sum] = text
		key := goodKeys[i%len(goodKeys)]
		for _, time := range []int{last, (last + api.MaxTime) / 2, api.MaxTime} {
			s, err := feed.Make(key, l, time)
			if err != nil {
				t.Fatalf("Make(%d, %v, %d): %v", key, l, time, err)
			}
			want := feed.Head{Seq: len(l), Time: time, Sum: sum}
			if h, err := feed.Open(key, s); h != want || err != nil {
				t.Errorf("Open(%d, %q): %v, %v, not %v", key, s, h, err, want)
			}
			if h, err := feed.Open(key%api.MaxKey+1, s); h != (feed.Head{}) || err != api.ErrMark {
				t.Errorf("Open of %q with another key: %v, %v", s, h, err)
			}
		}
	}
}

// P61 with P3: ErrKey, then Floors' errors with their places, then ErrBound; no text beside them.
func TestMakeErrorsInOrder(t *testing.T) {
	refuses := func(key int, l []api.Entry, time, at int, want error) {
		t.Helper()
		if s, err := feed.Make(key, l, time); s != "" || !is(err, at, want) {
			t.Errorf("Make(%d, %.80q, %d): %q, %v, not %v at %d", key, fmt.Sprint(l), time, s, err, want, at)
		}
	}
	right := plainFeed("3/ann:2 7/*:4")
	for _, c := range wrongFeeds() {
		for _, time := range []int{-1, 0, api.MaxTime} {
			refuses(0, c.l, time, -1, api.ErrKey)
			refuses(7, c.l, time, c.at, c.err)
		}
	}
	for _, l := range tooWide() {
		for _, time := range []int{-1, 2, 3, api.MaxTime} {
			refuses(api.MaxKey+1, l, time, -1, api.ErrKey)
			refuses(7, l, time, -1, api.ErrFull)
		}
	}
	for _, key := range wrongKeys {
		refuses(key, nil, 0, -1, api.ErrKey)
		refuses(key, right, 7, -1, api.ErrKey)
		refuses(key, right, 6, -1, api.ErrKey)
	}
	for _, time := range wrongTimes {
		refuses(7, nil, time, -1, api.ErrBound)
		refuses(7, right, time, -1, api.ErrBound)
	}
	for _, time := range []int{0, 3, 6} {
		refuses(7, right, time, -1, api.ErrBound)
	}
	refuses(7, plainFeed("0/ann:1 1000000/ann:2"), 999999, -1, api.ErrBound)
}

func sealed(t *testing.T, key int, words string) string {
	t.Helper()
	s, err := seal.Make(key, strings.Split(words, " "))
	if err != nil {
		t.Fatal(words, err)
	}
	return s
}

// P61: a head's numbers up to their bounds, whatever feed they may be of.
func TestOpenGood(t *testing.T) {
	for words, want := range map[string]feed.Head{
		"head 0 0 0":                 {},
		"head 3 9 1":                 {Seq: 3, Time: 9, Sum: 1},
		"head 60 1000000 1000000006": {Seq: 60, Time: 1000000, Sum: 1000000006},
		"head 1 0 304":               {Seq: 1, Time: 0, Sum: 304},
	} {
		if h, err := feed.Open(7, sealed(t, 7, words)); h != want || err != nil {
			t.Errorf("Open(%q): %v, %v, not %v", words, h, err, want)
		}
	}
}

// P61: what is sealed, and none of a head.
func TestOpenNone(t *testing.T) {
	for _, words := range []string{
		"head", "head 3", "head 3 9", "head 3 9 1 1", "head 3 9 1 1 1", "3 9 1", "3 9 1 head",
		"heads 3 9 1", "hea 3 9 1", "ticket 3 9 1", "- 3 9 1", "* 3 9 1", "ticket ann door 2 3 9 7",
		"head x 9 1", "head 3 x 1", "head 3 9 x", "head - 9 1", "head 3 * 1", "head 3 9 -",
		"head -1 9 1", "head 3 -1 1", "head 3 9 -1", "head -0 9 1",
		"head 03 9 1", "head 3 09 1", "head 3 9 01", "head 00 9 1", "head 3 00 1", "head 3 9 00",
		"head 61 9 1", "head 3 1000001 1", "head 3 9 1000000007", "head 3 9 9999999999", "head 3 9 10000000000",
		"head 3 9 18446744073709551617", "head 18446744073709551617 9 1", "head 1000000 60 1",
	} {
		s := sealed(t, 7, words)
		if h, err := feed.Open(7, s); h != (feed.Head{}) || err != api.ErrText {
			t.Errorf("Open(%q): %v, %v", s, h, err)
		}
		// Another mark is told ahead of it.
		if h, err := feed.Open(8, s); h != (feed.Head{}) || err != api.ErrMark {
			t.Errorf("Open(%q) with another key: %v, %v", s, h, err)
		}
	}
}

// P61 with P3: seal.Open's, in its order, bare; no head beside them.
func TestOpenErrorsInOrder(t *testing.T) {
	refuses := func(key int, s string, want error) {
		t.Helper()
		if h, err := feed.Open(key, s); h != (feed.Head{}) || err != want {
			t.Errorf("Open(%d, %.60q): %v, %v, not %v", key, s, h, err, want)
		}
	}
	right := sealed(t, 7, "head 3 9 1")
	tooLong := strings.Repeat("a", api.MaxText+1)
	for _, key := range wrongKeys {
		for _, s := range []string{right, "", tooLong, "x"} {
			refuses(key, s, api.ErrKey)
		}
	}
	refuses(7, tooLong, api.ErrBound)
	refuses(7, right+strings.Repeat(" ", api.MaxText), api.ErrBound)
	for _, s := range []string{
		"", " ", "head", "head  3 9 1 5", " " + right, right + " ", right + "\n", "Head 3 9 1 5", "head 3 9 1 x", "head 3 9 1 05", "head 3 9 1 1000000007",
		strings.Repeat("a", api.MaxText), "\xff", "head\t3 9 1 5", strings.Repeat("1 ", 11) + "1",
	} {
		refuses(7, s, api.ErrText)
	}
	refuses(7, "head 3 9 1 0", api.ErrMark)
	refuses(7, "head 3 9 1", api.ErrMark) // `head 3 9`, with the mark 1
	refuses(7, "x 0", api.ErrMark)
	refuses(6, right, api.ErrMark)
}

// P61: with one byte another one no head is opened.
func TestOpenOfChangedHeads(t *testing.T) {
	s, err := feed.Make(7, plainFeed("3/ann:2 3/bob:5 7/*:4"), 9)
	if err != nil {
		t.Fatal(err)
	}
	markAt := strings.LastIndex(s, " ")
	for at := range len(s) {
		for b := range 256 {
			// The mark begins elsewhere then, and P22 promises nothing.
			moved := at == markAt || at > markAt && b == ' '
			if byte(b) == s[at] || moved {
				continue
			}
			changed := s[:at] + string([]byte{byte(b)}) + s[at+1:]
			if h, err := feed.Open(7, changed); h != (feed.Head{}) || err != api.ErrText && err != api.ErrMark {
				t.Fatalf("Open(%q): %v, %v", changed, h, err)
			}
		}
	}
}

// P61: behind every number of every right feed.
func TestSinceGood(t *testing.T) {
	for _, l := range append(rightFeeds(), wide(60, 1)) {
		for seq := range len(l) + 1 {
			got, err := feed.Since(l, seq)
			if !slices.Equal(got, l[seq:]) || err != nil {
				t.Fatalf("Since(%v, %d): %v, %v", l, seq, got, err)
			}
			if len(got) > 0 && got[0].Seq != seq+1 {
				t.Fatalf("Since(%v, %d): %v", l, seq, got)
			}
		}
	}
}

// P61 with P3: Check's with their place, then ErrBound, then ErrGap; no list beside them.
func TestSinceErrorsInOrder(t *testing.T) {
	refuses := func(l []api.Entry, seq, at int, want error) {
		t.Helper()
		if got, err := feed.Since(l, seq); len(got) != 0 || !is(err, at, want) {
			t.Errorf("Since(%.80q, %d): %v, %v, not %v at %d", fmt.Sprint(l), seq, got, err, want, at)
		}
	}
	for _, c := range wrongFeeds() {
		for _, seq := range []int{-1, 0, 1, 60, 61, math.MinInt, math.MaxInt} {
			refuses(c.l, seq, c.at, c.err)
		}
	}
	for _, l := range rightFeeds() {
		for _, seq := range []int{-1, -2, -len(l) - 1, math.MinInt} {
			refuses(l, seq, -1, api.ErrBound)
		}
		for _, seq := range []int{len(l) + 1, len(l) + 2, most + 1, math.MaxInt} {
			refuses(l, seq, -1, api.ErrGap)
		}
	}
	// Memory behind the length is none of the feed.
	refuses(long(5)[:3], 4, -1, api.ErrGap)
}

// P60 to P62: through long walks what is added is there, what is refused changes nothing, the floors only rise, and each head tells them.
func TestWalks(t *testing.T) {
	source := rand.New(rand.NewSource(6))
	names := []string{"*", "*", "A", "ann"}
	for _, e := range wide(24, 1) {
		names = append(names, e.Floor.Who)
	}
	for range 100 {
		var l []api.Entry
		time := 0
		for range 80 {
			f := api.Floor{Who: names[source.Intn(len(names))], Epoch: source.Intn(12)}
			if f.Who == "*" {
				f.Epoch /= 3
			}
			at := time + source.Intn(4) - 1
			before := slices.Clone(l)
			longer, err := feed.Add(l, at, f)
			want := with(l, api.Entry{Time: at, Floor: f})
			_, wrong := firstWrong(want)
			if err != wrong || err == nil && !slices.Equal(longer, want) || err != nil && len(longer) != 0 || !slices.Equal(l, before) {
				t.Fatalf("Add(%v, %d, %v): %v, %v, not %v", before, at, f, longer, err, wrong)
			}
			if err != nil {
				continue
			}
			tellsMore(t, l, longer, at)
			l, time = longer, at
		}
	}
}

// tellsMore asks of a feed, and of what it was ahead of its last entry.
func tellsMore(t *testing.T, l, longer []api.Entry, time int) {
	t.Helper()
	floors, ok := floorsOf(longer)
	got, err := feed.Floors(longer)
	s, errMake := feed.Make(5, longer, time)
	if !ok {
		if len(got) != 0 || err != api.ErrFull || s != "" || errMake != api.ErrFull {
			t.Fatalf("%v: %v, %v, and %q, %v, not full", longer, got, err, s, errMake)
		}
		return
	}
	if !slices.Equal(got, floors) || err != nil {
		t.Fatalf("Floors(%v): %v, %v, not %v", longer, got, err, floors)
	}
	h, errOpen := feed.Open(5, s)
	if want := (feed.Head{Seq: len(longer), Time: time, Sum: floor.Sum(floors)}); h != want || errMake != nil || errOpen != nil {
		t.Fatalf("head of %v: %v, %v, %v, not %v", longer, h, errMake, errOpen, want)
	}
	before, _ := floorsOf(l)
	for _, f := range before {
		if floor.Of(got, f.Who) < f.Epoch {
			t.Fatalf("%v, and then %v: %s falls", l, longer, f.Who)
		}
	}
	if last, err := feed.Since(longer, len(l)); !slices.Equal(last, longer[len(l):]) || err != nil {
		t.Fatalf("Since(%v, %d): %v, %v", longer, len(l), last, err)
	}
}

// P3 and P4: what is handed over stays as it was, also behind its length; what is answered is new.
func TestMemory(t *testing.T) {
	for _, l := range rightFeeds() {
		room := slices.Concat(l, []api.Entry{entry(-7, -7, "behind", -7), entry(-8, -8, "*", -8)})
		before := slices.Clone(room)
		given := room[:len(l)]
		var answers [][]api.Entry
		for _, f := range []api.Floor{{Who: "ann", Epoch: 9}, {Who: "*", Epoch: 9}, {Who: "A", Epoch: 9}, {}} {
			longer, _ := feed.Add(given, api.MaxTime, f)
			answers = append(answers, longer)
		}
		for _, seq := range []int{-1, 0, len(l) / 2, len(l), len(l) + 1} {
			behind, _ := feed.Since(given, seq)
			answers = append(answers, behind)
		}
		for i, answer := range answers {
			answer = answer[:cap(answer)]
			for k := range answer {
				answer[k] = entry(-1, -1, "written", -1)
			}
			if !slices.Equal(room, before) {
				t.Fatalf("answer %d of %v: %v", i, before, room)
			}
		}
		floors, _ := feed.Floors(given)
		floors = floors[:cap(floors)]
		for k := range floors {
			floors[k] = api.Floor{Who: "written", Epoch: -1}
		}
		feed.Check(given)
		feed.Make(7, given, api.MaxTime)
		if !slices.Equal(room, before) {
			t.Fatalf("%v: %v", before, room)
		}
	}
}

// P2 and P4: what is written into a feed later shows in no answer.
func TestAnswersAreKept(t *testing.T) {
	l := plainFeed("3/ann:2 7/*:1")
	longer, _ := feed.Add(l, 8, api.Floor{Who: "bob", Epoch: 4})
	behind, _ := feed.Since(l, 0)
	floors, _ := feed.Floors(l)
	head, _ := feed.Make(7, l, 9)
	l[0], l[1] = entry(9, 9, "zed", 9), entry(8, 8, "yan", 8)
	text, _ := floor.Text(floors)
	if !slices.Equal(longer, plainFeed("3/ann:2 7/*:1 8/bob:4")) || !slices.Equal(behind, plainFeed("3/ann:2 7/*:1")) || text != "*:1,ann:2" {
		t.Error(longer, behind, text)
	}
	if again, _ := feed.Make(7, plainFeed("3/ann:2 7/*:1"), 9); again != head || head == "" {
		t.Error(again, head)
	}
}

// P4: no faults are shared: what is written into one shows in no other.
func TestFaultsAreNew(t *testing.T) {
	l := plainFeed("3/ann:2 2/ann:3")
	first, ok := feed.Check(l).(*api.Fault)
	if !ok {
		t.Fatal("no fault")
	}
	first.At, first.Err = 9, api.ErrOff
	if err := feed.Check(l); !is(err, 1, api.ErrOrder) {
		t.Error(err)
	}
}

// P1, P2 and P61: whatever is opened, a call ends, and a second one answers the same; what is opened is what would be sealed.
func FuzzHeads(f *testing.F) {
	f.Add(7, "")
	f.Add(7, "head 0 0 304")
	f.Add(0, "head 3 9 1")
	f.Add(7, "head 61 9 1")
	f.Add(7, "head 03 9 1")
	f.Fuzz(func(t *testing.T, key int, s string) {
		if n, err := mark.Of(key, s); err == nil {
			s += " " + strconv.Itoa(n)
		}
		h, err := feed.Open(key, s)
		again, errAgain := feed.Open(key, s)
		if h != again || err != errAgain || err != nil && h != (feed.Head{}) {
			t.Fatal(h, again, err, errAgain)
		}
		if err != nil {
			return
		}
		words := []string{"head", strconv.Itoa(h.Seq), strconv.Itoa(h.Time), strconv.Itoa(h.Sum)}
		if told, errMake := seal.Make(key, words); told != s || errMake != nil || h.Seq > most || h.Time > api.MaxTime || h.Sum > api.MaxKey {
			t.Fatal(h, told, s, errMake)
		}
	})
}

// P60 to P62: look for more, among feeds of four bytes an entry.
func FuzzFeeds(f *testing.F) {
	f.Add([]byte{1, 3, 1, 2, 2, 3, 2, 5, 3, 7, 0, 4}, 9, 1)
	f.Add([]byte{}, 0, 0)
	f.Add([]byte{2, 0, 1, 1}, -1, -1)
	f.Fuzz(func(t *testing.T, b []byte, time, seq int) {
		var l []api.Entry
		for part := range slices.Chunk(b, 4) {
			if len(part) == 4 {
				l = append(l, entry(int(part[0]), int(part[1])-1, []string{"*", "ann", "bob", "cyd", "A", ""}[part[2]%6], int(part[3])))
			}
		}
		at, want := firstWrong(l)
		if err := feed.Check(l); !is(err, at, want) {
			t.Fatal(l, err, at, want)
		}
		s, err := feed.Make(7, l, time)
		if want != nil {
			if s != "" || !is(err, at, want) {
				t.Fatal(l, s, err, at, want)
			}
			return
		}
		floors, _ := floorsOf(l)
		early := time < 0 || time > api.MaxTime || len(l) > 0 && time < l[len(l)-1].Time
		if early && err != api.ErrBound || !early && err != nil {
			t.Fatal(l, time, err)
		}
		if h, errOpen := feed.Open(7, s); !early && (h != (feed.Head{Seq: len(l), Time: time, Sum: floor.Sum(floors)}) || errOpen != nil) {
			t.Fatal(l, time, h, errOpen)
		}
		behind, err := feed.Since(l, seq)
		if seq >= 0 && seq <= len(l) && (!slices.Equal(behind, l[seq:]) || err != nil) || seq < 0 && err != api.ErrBound || seq > len(l) && err != api.ErrGap {
			t.Fatal(l, seq, behind, err)
		}
	})
}
