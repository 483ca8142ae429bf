package floor_test

import (
	"fmt"
	"math"
	"math/rand"
	"slices"
	"strconv"
	"strings"
	"testing"

	"keyholder/api"
	"keyholder/floor"
	"keyholder/mark"
)

const most = 21 // of floors: MaxPeople, and that of all

var (
	wrongEpochs = []int{0, -1, api.MaxNum + 1, math.MinInt, math.MaxInt}
	wrongNames  = []string{"", " ", "A", "annA", "a-b", "**", "a*", "*a", "* ", "-", "a ", " a", "a b", "a:1", "a,b", "é", "\xff", "a\x00", "ann\n", "abcdefghi", strings.Repeat("a", 1<<16)}
	goodNames   = []string{"*", "0", "9", "9a", "a", "abcdefgh", "ann", "annn", "b", "z"}
	asked       = []string{"*", "a", "b", "c", "d", "0", "aa", "", "A", "-", "**", "\xff"}
)

func one(who string, epoch int) api.Floor { return api.Floor{Who: who, Epoch: epoch} }

// plainList makes floors of a text such as `*:3 ann:4`, right or not, without the package's own reading.
func plainList(s string) []api.Floor {
	var l []api.Floor
	for _, word := range strings.Fields(s) {
		at := strings.LastIndex(word, ":")
		epoch, err := strconv.Atoi(word[at+1:])
		if err != nil {
			panic(err)
		}
		l = append(l, one(word[:at], epoch))
	}
	return l
}

// people makes so many floors, without that of all.
func people(count, epoch int) []api.Floor {
	var l []api.Floor
	for i := range count {
		l = append(l, one(fmt.Sprintf("n%02d", i), epoch))
	}
	return l
}

// counts tells what counts for a name as P50 tells it, gone through from the front.
func counts(l []api.Floor, name string) int {
	epoch := 0
	for _, f := range l {
		if f.Who == "*" || f.Who == name {
			epoch = max(epoch, f.Epoch)
		}
	}
	return epoch
}

// listOf makes the only right list of these people for which so much counts.
func listOf(people []string, epoch func(name string) int) []api.Floor {
	var l []api.Floor
	all := epoch("*")
	if all > 0 {
		l = append(l, one("*", all))
	}
	slices.Sort(people)
	for _, name := range slices.Compact(people) {
		if name != "*" && epoch(name) > all {
			l = append(l, one(name, epoch(name)))
		}
	}
	return l
}

// smallLists: all right ones of three people, of epochs up to 3.
func smallLists() [][]api.Floor {
	var lists [][]api.Floor
	seen := map[string]bool{}
	for n := range 256 {
		epochs := map[string]int{"*": n % 4, "a": n / 4 % 4, "b": n / 16 % 4, "c": n / 64}
		l := listOf([]string{"a", "b", "c"}, func(name string) int { return epochs[name] })
		if s := fmt.Sprint(l); !seen[s] {
			seen[s] = true
			lists = append(lists, l)
		}
	}
	return lists
}

// isFault: is it a *api.Fault of that error at that place, itself?
func isFault(err error, at int, want error) bool {
	f, ok := err.(*api.Fault)
	return ok && f.At == at && f.Err == want
}

// is: is it that error, bare (at is -1), or at that place?
func is(err error, at int, want error) bool {
	if at < 0 {
		return err == want
	}
	return isFault(err, at, want)
}

// firstWrong tells what is wrong with a list, as P50 tells it: nil and -1 if it is right.
func firstWrong(l []api.Floor) (int, error) {
	if len(l) > most {
		return -1, api.ErrFull
	}
	for i, f := range l {
		isName := len(f.Who) >= 1 && len(f.Who) <= 8 && strings.Trim(f.Who, "abcdefghijklmnopqrstuvwxyz0123456789") == ""
		switch {
		case f.Who != "*" && !isName:
			return i, api.ErrName
		case f.Epoch < 1 || f.Epoch > 1073741824:
			return i, api.ErrBound
		case i > 0 && l[i-1].Who >= f.Who:
			return i, api.ErrOrder
		case i > 0 && l[0].Who == "*" && f.Epoch <= l[0].Epoch:
			return i, api.ErrShape
		}
	}
	return -1, nil
}

type wrongList struct {
	l   []api.Floor
	at  int
	err error
}

// wrongLists: lists with something wrong, and beside it what would be told later.
func wrongLists() []wrongList {
	all := []wrongList{
		{plainList("b:1 a:1"), 1, api.ErrOrder},
		{plainList("a:1 a:2"), 1, api.ErrOrder},
		{plainList("a:2 a:2"), 1, api.ErrOrder},
		{plainList("a:1 *:2"), 1, api.ErrOrder},
		{plainList("a:2 *:1"), 1, api.ErrOrder},
		{plainList("*:1 *:2"), 1, api.ErrOrder},
		{plainList("*:2 *:2"), 1, api.ErrOrder},
		{plainList("aa:1 a:1"), 1, api.ErrOrder},
		{plainList("a:1 9:1"), 1, api.ErrOrder},
		{plainList("a:1 c:1 b:1 a:1"), 2, api.ErrOrder},
		{plainList("*:3 a:3"), 1, api.ErrShape},
		{plainList("*:3 a:2"), 1, api.ErrShape},
		{plainList("*:3 a:4 b:3 c:1"), 2, api.ErrShape},
		{plainList("*:1073741824 a:1073741824"), 1, api.ErrShape},
		// Of one floor, in the order of the errors.
		{plainList("*:3 b:5 A:0"), 2, api.ErrName},
		{plainList("*:3 b:5 a:0"), 2, api.ErrBound},
		{plainList("*:3 b:5 a:1073741825"), 2, api.ErrBound},
		{plainList("*:3 b:5 a:3"), 2, api.ErrOrder},
		{plainList("*:3 b:5 c:3"), 2, api.ErrShape},
		// Of several floors, the first of them, whatever the others have.
		{plainList("*:3 a:3 a:9 b:0 A:1"), 1, api.ErrShape},
		{plainList("b:9 a:9 c:0 A:1"), 1, api.ErrOrder},
		{plainList("a:0 A:1"), 0, api.ErrBound},
		{append(people(20, 2), one("*", 1)), 20, api.ErrOrder},
		{append(people(20, 2), one("", 1)), 20, api.ErrName},
		// Too many, whatever they are.
		{people(22, 2), -1, api.ErrFull},
		{append([]api.Floor{one("*", 1)}, people(21, 2)...), -1, api.ErrFull},
		{make([]api.Floor, 22), -1, api.ErrFull},
		{make([]api.Floor, 1<<16), -1, api.ErrFull},
		{make([]api.Floor, 21), 0, api.ErrName},
	}
	for _, name := range wrongNames {
		all = append(all,
			wrongList{[]api.Floor{one(name, 1)}, 0, api.ErrName},
			wrongList{[]api.Floor{one("a", 1), one(name, 0)}, 1, api.ErrName})
	}
	for _, epoch := range wrongEpochs {
		all = append(all,
			wrongList{[]api.Floor{one("*", epoch)}, 0, api.ErrBound},
			wrongList{[]api.Floor{one("a", epoch)}, 0, api.ErrBound},
			wrongList{[]api.Floor{one("*", 2), one("a", 3), one("a", epoch)}, 2, api.ErrBound})
	}
	return all
}

func fullLists() [][]api.Floor {
	return [][]api.Floor{
		people(20, 1),
		people(21, 1),
		people(21, api.MaxNum),
		append([]api.Floor{one("*", 1)}, people(20, 2)...),
		append([]api.Floor{one("*", api.MaxNum-1)}, people(20, api.MaxNum)...),
	}
}

func rightLists() [][]api.Floor {
	var named []api.Floor
	for i, name := range goodNames {
		named = append(named, one(name, i+1))
	}
	lists := append(smallLists(), fullLists()...)
	return append(lists, nil, []api.Floor{}, named, named[1:],
		plainList("*:1"), plainList("*:1073741824"), plainList("ann:1"), plainList("ann:1073741824"),
		plainList("*:1073741823 ann:1073741824"), plainList("b:1 c:7 d:1"))
}

// P50: every edge.
func TestCheckGood(t *testing.T) {
	for _, l := range rightLists() {
		if err := floor.Check(l); err != nil {
			t.Errorf("%v: %v", l, err)
		}
	}
}

// P50 with P3: ErrFull bare and ahead; the first floor that is wrong; of one, ErrName, ErrBound, ErrOrder, ErrShape.
func TestCheckErrorsInOrder(t *testing.T) {
	for _, c := range wrongLists() {
		if err := floor.Check(c.l); !is(err, c.at, c.err) {
			t.Errorf("%.80q: %v, not %v at %d", fmt.Sprint(c.l), err, c.err, c.at)
		}
	}
}

// P50: all lists of up to three, right or not.
func TestCheckOfAllShortLists(t *testing.T) {
	var floors []api.Floor
	for _, who := range []string{"*", "a", "b", "A", ""} {
		for _, epoch := range []int{-1, 0, 1, 2, api.MaxNum, api.MaxNum + 1} {
			floors = append(floors, one(who, epoch))
		}
	}
	lists := [][]api.Floor{nil}
	for length := range 4 {
		var longer [][]api.Floor
		for _, l := range lists {
			at, want := firstWrong(l)
			if err := floor.Check(l); !is(err, at, want) {
				t.Fatalf("%v: %v, not %v at %d", l, err, want, at)
			}
			if length == 3 {
				continue
			}
			for _, f := range floors {
				longer = append(longer, append(slices.Clone(l), f))
			}
		}
		lists = longer
	}
}

// P50: of each that is in a list, of others, and of all.
func TestOfAndPasses(t *testing.T) {
	for _, l := range rightLists() {
		names := slices.Clone(asked)
		for _, f := range l {
			names = append(names, f.Who, f.Who+"0", f.Who[:len(f.Who)-1])
		}
		for _, name := range names {
			want := counts(l, name)
			if got := floor.Of(l, name); got != want {
				t.Errorf("Of(%v, %q): %d, not %d", l, name, got, want)
			}
			for _, epoch := range []int{math.MinInt, -1, 0, 1, want - 1, want, want + 1, api.MaxNum, api.MaxNum + 1, math.MaxInt} {
				if floor.Passes(l, name, epoch) != (epoch >= want) {
					t.Errorf("Passes(%v, %q, %d): %v", l, name, epoch, epoch < want)
				}
			}
		}
	}
}

func TestOfByHand(t *testing.T) {
	l := plainList("*:3 ann:5 bob:4")
	for name, want := range map[string]int{"*": 3, "ann": 5, "bob": 4, "cyd": 3, "an": 3, "annn": 3, "": 3} {
		if got := floor.Of(l, name); got != want {
			t.Errorf("%q: %d, not %d", name, got, want)
		}
	}
	l = plainList("ann:5")
	if floor.Of(l, "*") != 0 || floor.Of(l, "bob") != 0 || floor.Of(l, "ann") != 5 {
		t.Error("without one of all it is 0")
	}
	if !floor.Passes(nil, "ann", 0) || floor.Passes(nil, "ann", -1) {
		t.Error("with none it is 0")
	}
}

// P1 and P2: lists that are not right are asked without a panic, and answer the same again.
func TestWrongListsAreAsked(t *testing.T) {
	for _, c := range wrongLists() {
		for _, name := range asked {
			if floor.Of(c.l, name) != floor.Of(slices.Clone(c.l), name) || floor.Passes(c.l, name, 1) != floor.Passes(c.l, name, 1) {
				t.Errorf("%.80q, %q", fmt.Sprint(c.l), name)
			}
		}
	}
}

func TestRaiseByHand(t *testing.T) {
	for _, c := range []struct {
		l     string
		who   string
		epoch int
		want  string
	}{
		{"", "ann", 1, "ann:1"},
		{"", "*", 1, "*:1"},
		{"", "ann", api.MaxNum, "ann:1073741824"},
		{"ann:2", "*", 3, "*:3"},
		{"ann:2", "*", 2, "*:2"},
		{"ann:2", "*", 1, "*:1 ann:2"},
		{"ann:2", "ann", 1, "ann:2"},
		{"ann:2", "ann", 2, "ann:2"},
		{"ann:2", "ann", 3, "ann:3"},
		{"*:3", "ann", 2, "*:3"},
		{"*:3", "ann", 3, "*:3"},
		{"*:3", "ann", 4, "*:3 ann:4"},
		{"*:3 ann:5", "*", 2, "*:3 ann:5"},
		{"*:3 ann:5", "*", 3, "*:3 ann:5"},
		{"*:3 ann:5", "*", 5, "*:5"},
		{"*:3 a:4 b:6 c:5 d:7", "*", 5, "*:5 b:6 d:7"},
		{"b:1 d:1", "a", 1, "a:1 b:1 d:1"},
		{"b:1 d:1", "c", 1, "b:1 c:1 d:1"},
		{"b:1 d:1", "e", 1, "b:1 d:1 e:1"},
		{"*:1 ann:2", "*", api.MaxNum, "*:1073741824"},
	} {
		got, err := floor.Raise(plainList(c.l), one(c.who, c.epoch))
		if !slices.Equal(got, plainList(c.want)) || err != nil {
			t.Errorf("Raise(%q, %s, %d): %v, %v, not %q", c.l, c.who, c.epoch, got, err, c.want)
		}
	}
}

// P50 and P52: of every small list every floor is raised, and no other one falls.
func TestRaiseOfSmallLists(t *testing.T) {
	for _, l := range smallLists() {
		for _, who := range []string{"*", "0", "a", "b", "bb", "c", "d"} {
			for epoch := 1; epoch <= 4; epoch++ {
				f := one(who, epoch)
				want := listOf([]string{"a", "b", "c", who}, func(name string) int {
					return max(counts(l, name), counts([]api.Floor{f}, name))
				})
				if got, err := floor.Raise(l, f); !slices.Equal(got, want) || err != nil {
					t.Fatalf("Raise(%v, %v): %v, %v, not %v", l, f, got, err, want)
				}
			}
		}
	}
}

// P50 with P3: Check's with their place, then ErrName and ErrBound of the new one, bare; no list beside them.
func TestRaiseErrorsInOrder(t *testing.T) {
	refuses := func(l []api.Floor, f api.Floor, at int, want error) {
		t.Helper()
		if got, err := floor.Raise(l, f); len(got) != 0 || !is(err, at, want) {
			t.Errorf("Raise(%.80q, %.40q): %v, %v, not %v at %d", fmt.Sprint(l), fmt.Sprint(f), got, err, want, at)
		}
	}
	for _, c := range wrongLists() {
		for _, f := range []api.Floor{one("ann", 9), one("*", 9), one("A", 9), one("ann", 0), {}} {
			refuses(c.l, f, c.at, c.err)
		}
	}
	for _, l := range append(fullLists(), nil, plainList("*:3 ann:5")) {
		for _, name := range wrongNames {
			refuses(l, one(name, 9), -1, api.ErrName)
			refuses(l, one(name, 0), -1, api.ErrName)
			refuses(l, one(name, math.MaxInt), -1, api.ErrName)
		}
		for _, epoch := range wrongEpochs {
			refuses(l, one("ann", epoch), -1, api.ErrBound)
			refuses(l, one("*", epoch), -1, api.ErrBound)
		}
	}
}

// P50: it is full where there would be one too many, and only there.
func TestRaiseOfFullLists(t *testing.T) {
	names := people(21, 2)
	withAll := append([]api.Floor{one("*", 2)}, people(20, 3)...)
	for _, c := range []struct {
		l    []api.Floor
		f    api.Floor
		want []api.Floor // nil: it is full
	}{
		{names[:20], names[20], names},
		{names[:20], one("*", 1), append([]api.Floor{one("*", 1)}, names[:20]...)},
		{names, one("zed", 1), nil},
		{names, one("*", 1), nil},
		{names, one("*", 2), plainList("*:2")},
		{append(people(20, 2), one("zed", 1)), one("*", 1), append([]api.Floor{one("*", 1)}, people(20, 2)...)},
		{names, one("n20", 1), names},
		{names, one("n20", 2), names},
		{names, one("n20", 3), append(people(20, 2), one("n20", 3))},
		{withAll, one("zed", 3), nil},
		{withAll, one("zed", 2), withAll},
		{withAll, one("*", 1), withAll},
		{withAll, one("*", 3), plainList("*:3")},
	} {
		got, err := floor.Raise(c.l, c.f)
		if c.want == nil && (len(got) != 0 || err != api.ErrFull) {
			t.Errorf("Raise(%v, %v): %v, %v, not full", c.l, c.f, got, err)
		}
		if c.want != nil && (!slices.Equal(got, c.want) || err != nil) {
			t.Errorf("Raise(%v, %v): %v, %v", c.l, c.f, got, err)
		}
	}
}

func TestJoinByHand(t *testing.T) {
	for _, c := range [][3]string{
		{"", "", ""},
		{"ann:5", "", "ann:5"},
		{"*:5", "", "*:5"},
		{"*:3 ann:5", "*:4 bob:6", "*:4 ann:5 bob:6"},
		{"ann:5 bob:2", "*:3 cyd:4", "*:3 ann:5 cyd:4"},
		{"ann:5", "ann:7", "ann:7"},
		{"*:9", "ann:7", "*:9"},
		{"*:9", "ann:9", "*:9"},
		{"*:9", "ann:10", "*:9 ann:10"},
		{"b:1 d:1", "a:1 c:1 e:1", "a:1 b:1 c:1 d:1 e:1"},
		{"a:1 b:2", "a:2 b:1", "a:2 b:2"},
	} {
		a, b, want := plainList(c[0]), plainList(c[1]), plainList(c[2])
		x, errX := floor.Join(a, b)
		y, errY := floor.Join(b, a)
		if !slices.Equal(x, want) || !slices.Equal(y, want) || errX != nil || errY != nil {
			t.Errorf("Join(%q, %q): %v, %v, and %v, %v", c[0], c[1], x, errX, y, errY)
		}
	}
}

// P51 and P52: of every two small lists.
func TestJoinOfSmallLists(t *testing.T) {
	lists := smallLists()
	for _, a := range lists {
		for _, b := range lists {
			want := listOf([]string{"a", "b", "c"}, func(name string) int { return max(counts(a, name), counts(b, name)) })
			got, err := floor.Join(a, b)
			if !slices.Equal(got, want) || err != nil {
				t.Fatalf("Join(%v, %v): %v, %v, not %v", a, b, got, err, want)
			}
			for _, name := range []string{"*", "a", "b", "c", "d"} {
				for epoch := range 5 {
					both := floor.Passes(a, name, epoch) && floor.Passes(b, name, epoch)
					if floor.Passes(got, name, epoch) != both {
						t.Fatalf("Join(%v, %v): %s of %d, both: %v", a, b, name, epoch, both)
					}
				}
			}
		}
	}
}

// P51 with P3: Check's of the first, then of the second, with their places, then ErrFull; no list beside them.
func TestJoinErrorsInOrder(t *testing.T) {
	refuses := func(a, b []api.Floor, at int, want error) {
		t.Helper()
		if got, err := floor.Join(a, b); len(got) != 0 || !is(err, at, want) {
			t.Errorf("Join(%.80q, %.80q): %v, %v, not %v at %d", fmt.Sprint(a), fmt.Sprint(b), got, err, want, at)
		}
	}
	for _, c := range wrongLists() {
		for _, right := range [][]api.Floor{nil, plainList("*:3 ann:5"), people(21, 9)} {
			refuses(c.l, right, c.at, c.err)
			refuses(right, c.l, c.at, c.err)
		}
		refuses(c.l, plainList("a:1 b:1 c:1 A:1"), c.at, c.err)
		refuses(plainList("a:1 b:1 c:1 A:1"), c.l, 3, api.ErrName)
	}
	refuses(people(21, 2), plainList("zed:1"), -1, api.ErrFull)
	refuses(plainList("zed:1"), people(21, 2), -1, api.ErrFull)
	refuses(people(21, 2), plainList("*:1"), -1, api.ErrFull)
	refuses(plainList("*:1"), people(21, 2), -1, api.ErrFull)
	refuses(people(21, 3), plainList("*:2 zed:4"), -1, api.ErrFull)
	refuses(people(11, 2), plainList("a:1 b:1 c:1 d:1 e:1 f:1 g:1 h:1 i:1 j:1 k:1"), -1, api.ErrFull)
}

// P51: it is not full where that of all takes others away.
func TestJoinOfFullLists(t *testing.T) {
	zeds := plainList("y1:1 y2:1 y3:1 y4:1 y5:1 y6:1 y7:1 y8:1 y9:9 z1:1")
	for _, c := range []struct{ a, b, want []api.Floor }{
		{people(21, 2), people(21, 3), people(21, 3)},
		{people(21, 2), plainList("*:2"), plainList("*:2")},
		{people(21, 2), plainList("*:2 zed:3"), plainList("*:2 zed:3")},
		{people(11, 2), zeds, append(people(11, 2), zeds...)},
		{append(people(20, 2), one("z2", 1)), plainList("*:1"), append([]api.Floor{one("*", 1)}, people(20, 2)...)},
		{append([]api.Floor{one("*", 1)}, people(20, 2)...), append([]api.Floor{one("*", 2)}, plainList("y9:9 z1:3")...), plainList("*:2 y9:9 z1:3")},
	} {
		x, errX := floor.Join(c.a, c.b)
		y, errY := floor.Join(c.b, c.a)
		if !slices.Equal(x, c.want) || !slices.Equal(y, c.want) || errX != nil || errY != nil {
			t.Errorf("Join(%v, %v): %v, %v, and %v, %v", c.a, c.b, x, errX, y, errY)
		}
	}
}

func TestTextByHand(t *testing.T) {
	for s, l := range map[string][]api.Floor{
		"-":                        nil,
		"*:3":                      plainList("*:3"),
		"ann:1":                    plainList("ann:1"),
		"0:1,9:10,a:100":           plainList("0:1 9:10 a:100"),
		"*:3,ann:4,bob:1073741824": plainList("*:3 ann:4 bob:1073741824"),
	} {
		if got, err := floor.Text(l); got != s || err != nil {
			t.Errorf("Text(%v): %q, %v, not %q", l, got, err, s)
		}
		if got, err := floor.Read(s); !slices.Equal(got, l) || err != nil {
			t.Errorf("Read(%q): %v, %v, not %v", s, got, err, l)
		}
	}
	if s, err := floor.Text([]api.Floor{}); s != "-" || err != nil {
		t.Errorf("an empty list: %q, %v", s, err)
	}
}

func TestReadAsItWasTold(t *testing.T) {
	told := map[string][]api.Floor{}
	for _, l := range rightLists() {
		s, err := floor.Text(l)
		if err != nil {
			t.Fatalf("Text(%v): %v", l, err)
		}
		if got, err := floor.Read(s); !slices.Equal(got, l) || err != nil {
			t.Errorf("Read(%q): %v, %v, not %v", s, got, err, l)
		}
		if other, ok := told[s]; ok && !slices.Equal(l, other) {
			t.Errorf("%q: of %v and of %v", s, l, other)
		}
		told[s] = l
	}
}

// P51 with P3: Check's, with their place; no text beside them, and the sum is 0.
func TestTextAndSumOfWrongLists(t *testing.T) {
	for _, c := range wrongLists() {
		if s, err := floor.Text(c.l); s != "" || !is(err, c.at, c.err) {
			t.Errorf("Text(%.80q): %q, %v, not %v at %d", fmt.Sprint(c.l), s, err, c.err, c.at)
		}
		if n := floor.Sum(c.l); n != 0 {
			t.Errorf("Sum(%.80q): %d", fmt.Sprint(c.l), n)
		}
	}
}

// P51: what is none at all goes ahead of what Check would say of it.
func TestReadNone(t *testing.T) {
	for _, s := range []string{
		"", " ", ",", ":", "--", " -", "- ", "-\n", "-,", ",-", "-,-", "-,ann:1", "ann:1,-",
		"ann", "ann:", "ann:x", "ann:1x", "ann:1 ", "ann: 1", "ann:01", "ann:00", "ann:+1", "ann:-1", "ann:-0", "ann:1.0", "ann:0x1", "ann:1e1", "ann:1\n", "ann:1\x00",
		"ann:1:2", "ann::1", "ann:1,", ",ann:1", "ann:1,,bob:1", "ann:1;bob:1", "ann:1 bob:1", "ann:1,bob", "ann:1,bob:", "ann=1", "*", "*:", "**",
		"ann:10000000000", "ann:00000000001", "ann:18446744073709551617", "ann:" + strings.Repeat("9", 1<<16), "ann:\uff11",
		"A:x", "A:1,b:x", "ann:0,b", "bob:1,ann:1,x", "*:3,ann:3,bob:01", strings.Repeat("a:1,", 30), strings.Repeat(",", 1<<16), strings.Repeat("-", 1<<16),
	} {
		if l, err := floor.Read(s); len(l) != 0 || err != api.ErrText {
			t.Errorf("Read(%.60q): %v, %v", s, l, err)
		}
	}
}

// P51: texts of lists that Check refuses.
func TestReadOfWrongLists(t *testing.T) {
	refuses := func(s string, at int, want error) {
		t.Helper()
		if l, err := floor.Read(s); len(l) != 0 || !is(err, at, want) {
			t.Errorf("Read(%.60q): %v, %v, not %v at %d", s, l, err, want, at)
		}
	}
	for _, c := range []struct {
		s   string
		at  int
		err error
	}{
		{"A:1", 0, api.ErrName}, {":1", 0, api.ErrName}, {":0", 0, api.ErrName}, {"-:1", 0, api.ErrName}, {"**:1", 0, api.ErrName}, {" ann:1", 0, api.ErrName}, {"ann :1", 0, api.ErrName},
		{"ann:1, bob:1", 1, api.ErrName}, {"ann:1,abcdefghi:1", 1, api.ErrName}, {"\xff:1", 0, api.ErrName}, {"ann:1,\n:1", 1, api.ErrName},
		{"ann:0", 0, api.ErrBound}, {"*:0", 0, api.ErrBound}, {"ann:1073741825", 0, api.ErrBound}, {"ann:9999999999", 0, api.ErrBound}, {"a:1,b:0,A:1", 1, api.ErrBound},
		{"bob:1,ann:1", 1, api.ErrOrder}, {"ann:1,ann:2", 1, api.ErrOrder}, {"ann:1,*:2", 1, api.ErrOrder}, {"*:1,*:2", 1, api.ErrOrder},
		{"*:3,ann:3", 1, api.ErrShape}, {"*:3,ann:4,bob:2", 2, api.ErrShape},
		{strings.Repeat("a:1,", 21) + "a:1", -1, api.ErrFull}, {strings.Repeat(":0,", 21) + ":0", -1, api.ErrFull}, {strings.Repeat("a:1,", 20) + "a:1", 1, api.ErrOrder},
		{strings.Repeat("a:1,", 1<<16) + "a:1", -1, api.ErrFull},
	} {
		refuses(c.s, c.at, c.err)
	}
	for _, c := range wrongLists() {
		var parts []string
		readable := true
		for _, f := range c.l {
			parts = append(parts, f.Who+":"+strconv.Itoa(f.Epoch))
			readable = readable && !strings.ContainsAny(f.Who, ":,") && f.Epoch >= 0 && f.Epoch <= 9999999999
		}
		if readable {
			refuses(strings.Join(parts, ","), c.at, c.err)
		}
	}
}

// P51: with one byte another one it is told as it is read, or it is none.
func TestReadOfChangedTexts(t *testing.T) {
	const s = "*:3,ann:14,bob:1073741824"
	for at := range len(s) {
		for b := range 256 {
			changed := s[:at] + string([]byte{byte(b)}) + s[at+1:]
			l, err := floor.Read(changed)
			if err != nil && len(l) != 0 {
				t.Fatalf("Read(%q): %v, %v", changed, l, err)
			}
			if told, errText := floor.Text(l); err == nil && (told != changed || errText != nil) {
				t.Fatalf("Read(%q): %v, which is %q, %v", changed, l, told, errText)
			}
		}
	}
}

// P51, marks reckoned by hand, and of the texts.
func TestSum(t *testing.T) {
	for s, want := range map[string]int{
		"":    304,      // of `-`: 257 + 45 + 2
		"*:3": 19896222, // ((257+42+2)*257+58+2)*257 + 51 + 2
	} {
		if n := floor.Sum(plainList(s)); n != want {
			t.Errorf("Sum(%q): %d, not %d", s, n, want)
		}
	}
	for _, l := range rightLists() {
		s, _ := floor.Text(l)
		want, err := mark.Of(1, s)
		if n := floor.Sum(l); n != want || err != nil {
			t.Errorf("Sum(%v): %d, not %d, %v", l, n, want, err)
		}
	}
}

// P52: through long walks, of raises and of joins, nothing falls, and what is refused changes nothing.
func TestFloorsOnlyRise(t *testing.T) {
	source := rand.New(rand.NewSource(5))
	names := []string{"*"}
	for _, f := range people(24, 1) {
		names = append(names, f.Who)
	}
	for range 200 {
		var l []api.Floor
		for range 100 {
			f := one(names[source.Intn(len(names))], 1+source.Intn(9))
			if f.Who == "*" {
				f.Epoch = 1 + f.Epoch/3
			}
			next, err := floor.Raise(l, f)
			joined, errJoin := floor.Join(l, []api.Floor{f})
			if !slices.Equal(next, joined) || err != errJoin {
				t.Fatalf("%v with %v: %v, %v, and joined %v, %v", l, f, next, err, joined, errJoin)
			}
			want := listOf(slices.Clone(names), func(name string) int { return max(counts(l, name), counts([]api.Floor{f}, name)) })
			if full := len(want) > most; full && err != api.ErrFull || !full && (!slices.Equal(next, want) || err != nil) {
				t.Fatalf("Raise(%v, %v): %v, %v, not %v", l, f, next, err, want)
			}
			if err != nil {
				continue
			}
			for _, name := range names {
				if floor.Of(next, name) < floor.Of(l, name) {
					t.Fatalf("Raise(%v, %v): %v, and %s falls", l, f, next, name)
				}
			}
			l = next
		}
	}
}

// P3 and P4: what is handed over stays as it was, also behind its length; what is answered is new.
func TestMemory(t *testing.T) {
	for _, l := range rightLists() {
		room := append(slices.Clone(l), one("behind", -7), one("*", -8), one("ann", -9))
		before := slices.Clone(room)
		given := room[:len(l)]
		other := plainList("*:1 b:2")
		answers := map[string][]api.Floor{}
		for _, f := range []api.Floor{one("a", 1), one("bb", 9), one("zz", 9), one("*", 1), one("*", 4), one("ann", 3)} {
			answers[fmt.Sprint("Raise ", f)], _ = floor.Raise(given, f)
		}
		answers["Join none"], _ = floor.Join(given, nil)
		answers["Join to none"], _ = floor.Join(nil, given)
		answers["Join other"], _ = floor.Join(given, other)
		answers["Join to other"], _ = floor.Join(other, given)
		answers["Join itself"], _ = floor.Join(given, given)
		for what, answer := range answers {
			answer = answer[:cap(answer)]
			for i := range answer {
				answer[i] = one("written", -1)
			}
			if !slices.Equal(room, before) || !slices.Equal(other, plainList("*:1 b:2")) {
				t.Fatalf("%s of %v: %v, %v", what, before, room, other)
			}
		}
	}
}

// P2 and P4: what is written into a list later shows in no answer.
func TestAnswersAreKept(t *testing.T) {
	l := plainList("*:3 ann:5")
	raised, _ := floor.Raise(l, one("bob", 4))
	joined, _ := floor.Join(l, nil)
	l[1] = one("zed", 9)
	if !slices.Equal(raised, plainList("*:3 ann:5 bob:4")) || !slices.Equal(joined, plainList("*:3 ann:5")) {
		t.Error(raised, joined)
	}
}

// P1, P2 and P51: whatever is read, a call ends, and a second one answers the same; what is read is what would be told.
func FuzzTexts(f *testing.F) {
	for _, s := range []string{"", "-", "*:3", "*:3,ann:5,bob:4", "ann:01", "A:1", "ann:1,ann:1", "*:3,ann:3", "ann:1073741825", "a:1:2"} {
		f.Add(s)
	}
	f.Fuzz(func(t *testing.T, s string) {
		l, err := floor.Read(s)
		again, errAgain := floor.Read(s)
		if !slices.Equal(l, again) || fmt.Sprint(err) != fmt.Sprint(errAgain) || err != nil && len(l) != 0 {
			t.Fatal(l, again, err, errAgain)
		}
		if told, errText := floor.Text(l); err == nil && (told != s || errText != nil) {
			t.Fatal(l, told, errText)
		}
	})
}

// P50 to P52: look for more.
func FuzzFloors(f *testing.F) {
	f.Add("*:3,ann:5", "bob:4", "ann", 5, "cyd")
	f.Add("-", "*:9", "*", 0, "")
	f.Add("ann:1", "x", "A", api.MaxNum, "*")
	f.Fuzz(func(t *testing.T, textA, textB, who string, epoch int, name string) {
		a, errA := floor.Read(textA)
		b, errB := floor.Read(textB)
		if errA != nil || errB != nil {
			return
		}
		if joined, err := floor.Join(a, b); err == nil {
			if floor.Check(joined) != nil || floor.Of(joined, name) != max(counts(a, name), counts(b, name)) {
				t.Fatal(a, b, joined, name)
			}
		} else if len(a)+len(b) <= most || err != api.ErrFull {
			t.Fatal(a, b, err)
		}
		added := []api.Floor{{Who: who, Epoch: epoch}}
		raised, err := floor.Raise(a, added[0])
		if _, want := firstWrong(added); want != nil && err != want || want == nil && err != nil && (err != api.ErrFull || len(a) < most) {
			t.Fatal(a, added, err, want)
		}
		if err == nil && (floor.Check(raised) != nil || floor.Of(raised, name) != max(counts(a, name), counts(added, name))) {
			t.Fatal(a, added, raised, name)
		}
	})
}
