package person_test

import (
	"fmt"
	"math"
	"math/rand"
	"slices"
	"strings"
	"testing"

	"keyholder/api"
	"keyholder/person"
)

var (
	wrongKeys   = []int{0, -1, api.MaxKey + 1, math.MinInt, math.MaxInt}
	wrongEpochs = []int{0, -1, api.MaxNum + 1, math.MinInt, math.MaxInt}
	wrongNames  = []string{"", " ", "A", "annA", "a-b", "*", "a*", "-", "a ", " a", "a b", "é", "\xff", "a\x00", "ann\n", "abcdefghi", strings.Repeat("a", 1<<16)}
	goodNames   = []string{"a", "z", "0", "9", "ann", "9a", "abcdefgh", "12345678"}
)

// bookOf makes a book of people with key 5.
func bookOf(t *testing.T, names ...string) *person.Book {
	t.Helper()
	b := person.New()
	for _, name := range names {
		if err := b.Add(name, 5); err != nil {
			t.Fatalf("Add(%q): %v", name, err)
		}
	}
	return b
}

func fullBook(t *testing.T) *person.Book {
	t.Helper()
	names := make([]string, api.MaxPeople)
	for i := range names {
		names[i] = fmt.Sprint("n", i)
	}
	return bookOf(t, names...)
}

func get(t *testing.T, b *person.Book, name string) api.Person {
	t.Helper()
	p, err := b.Get(name)
	if err != nil {
		t.Fatalf("Get(%q): %v", name, err)
	}
	return p
}

// raiseTo spares tests of the last epochs the many raises that lead there.
func raiseTo(t *testing.T, b *person.Book, name string, epoch int) {
	t.Helper()
	if n, err := b.RaiseTo(name, epoch); n != epoch || err != nil {
		t.Fatalf("RaiseTo(%q, %d): %d, %v", name, epoch, n, err)
	}
}

// refuses calls, and wants that error itself, and nothing changed.
func refuses(t *testing.T, b *person.Book, want error, what string, call func() error) {
	t.Helper()
	before := b.All()
	if err := call(); err != want {
		t.Errorf("%.60s: %v, not %v", what, err, want)
	}
	if after := b.All(); !slices.Equal(before, after) {
		t.Errorf("%.60s: %v, which was %v", what, after, before)
	}
}

// P30: people that are in order, at every edge.
func TestCheckGood(t *testing.T) {
	for _, name := range goodNames {
		for _, key := range []int{1, 2, 5, api.MaxKey - 1, api.MaxKey} {
			for _, epoch := range []int{1, 2, api.MaxNum - 1, api.MaxNum} {
				for _, off := range []bool{false, true} {
					if err := person.Check(api.Person{Name: name, Key: key, Epoch: epoch, Off: off}); err != nil {
						t.Errorf("%q %d %d %v: %v", name, key, epoch, off, err)
					}
				}
			}
		}
	}
}

// P30 with P3: ErrName goes ahead of ErrKey, and that ahead of ErrBound.
func TestCheckErrorsInOrder(t *testing.T) {
	for _, name := range append(wrongNames, "ann") {
		for _, key := range append(wrongKeys, 5) {
			for _, epoch := range append(wrongEpochs, 3) {
				var want error
				switch {
				case name != "ann":
					want = api.ErrName
				case key != 5:
					want = api.ErrKey
				case epoch != 3:
					want = api.ErrBound
				}
				for _, off := range []bool{false, true} {
					if err := person.Check(api.Person{Name: name, Key: key, Epoch: epoch, Off: off}); err != want {
						t.Errorf("%.20q %d %d %v: %v, not %v", name, key, epoch, off, err, want)
					}
				}
			}
		}
	}
}

// P30: nobody is in a new book.
func TestNew(t *testing.T) {
	b := person.New()
	if all := b.All(); len(all) != 0 {
		t.Error(all)
	}
	for _, name := range append(wrongNames, goodNames...) {
		if p, err := b.Get(name); p != (api.Person{}) || err != api.ErrNone {
			t.Errorf("Get(%.20q): %v, %v", name, p, err)
		}
	}
	if other := person.New(); other.Add("ann", 5) != nil || len(b.All()) != 0 {
		t.Error("two new books are one")
	}
}

// P30: who is added is of epoch 1, and not off.
func TestAdd(t *testing.T) {
	for _, name := range goodNames {
		for _, key := range []int{1, 5, api.MaxKey} {
			b := person.New()
			if err := b.Add(name, key); err != nil {
				t.Errorf("Add(%q, %d): %v", name, key, err)
			}
			want := api.Person{Name: name, Key: key, Epoch: 1}
			if p := get(t, b, name); p != want {
				t.Errorf("Add(%q, %d): %v", name, key, p)
			}
			if all := b.All(); !slices.Equal(all, []api.Person{want}) {
				t.Error(all)
			}
		}
	}
	if b := bookOf(t, "ann", "bob"); get(t, b, "ann").Key != get(t, b, "bob").Key {
		t.Error("two people may have one key")
	}
}

// P30 with P3: ErrName, ErrKey, ErrExist, ErrFull, in a book that has room, and in a full one.
func TestAddErrorsInOrder(t *testing.T) {
	roomy, full := bookOf(t, "n0"), fullBook(t)
	for _, b := range []*person.Book{roomy, full} {
		for _, name := range wrongNames {
			for _, key := range append(wrongKeys, 5) {
				refuses(t, b, api.ErrName, fmt.Sprintf("Add(%q, %d)", name, key), func() error { return b.Add(name, key) })
			}
		}
		for _, name := range []string{"n0", "new"} {
			for _, key := range wrongKeys {
				refuses(t, b, api.ErrKey, fmt.Sprintf("Add(%q, %d)", name, key), func() error { return b.Add(name, key) })
			}
		}
		for _, key := range []int{5, 6} {
			refuses(t, b, api.ErrExist, "Add of one who is there", func() error { return b.Add("n0", key) })
		}
	}
	refuses(t, full, api.ErrFull, "Add to a full book", func() error { return full.Add("new", 5) })
}

// P30: one less than MaxPeople leaves room for one, and those who are off count.
func TestFull(t *testing.T) {
	b := person.New()
	for i := range api.MaxPeople {
		if err := b.Add(fmt.Sprint("n", i), 5); err != nil {
			t.Fatalf("the %dth: %v", i, err)
		}
		if err := b.Off(fmt.Sprint("n", i), true); err != nil {
			t.Fatal(err)
		}
	}
	refuses(t, b, api.ErrFull, "Add of one more", func() error { return b.Add("more", 5) })
	if n := len(b.All()); n != 20 {
		t.Error(n)
	}
	if err := b.Copy().Add("more", 5); err != api.ErrFull {
		t.Error(err)
	}
}

// P30 with P3: by names, which rise by their bytes, in whatever order they came.
func TestAllByNames(t *testing.T) {
	want := []string{"0", "10", "9", "a", "a0", "aa", "ann", "b", "ba", "z"}
	for seed := range int64(20) {
		mixed := slices.Clone(want)
		rand.New(rand.NewSource(seed)).Shuffle(len(mixed), func(i, j int) { mixed[i], mixed[j] = mixed[j], mixed[i] })
		var names []string
		for _, p := range bookOf(t, mixed...).All() {
			names = append(names, p.Name)
			if p != (api.Person{Name: p.Name, Key: 5, Epoch: 1}) {
				t.Error(p)
			}
		}
		if !slices.Equal(names, want) {
			t.Fatalf("%q from %q", names, mixed)
		}
	}
}

// P30: what is done to a book is not done to a copy of it, nor the other way round.
func TestCopy(t *testing.T) {
	changes := map[string]func(b *person.Book) error{
		"Add":   func(b *person.Book) error { return b.Add("new", 7) },
		"Rekey": func(b *person.Book) error { return b.Rekey("ann", 7) },
		"Raise": func(b *person.Book) error { _, err := b.Raise("ann"); return err },
		"Off":   func(b *person.Book) error { return b.Off("ann", true) },
	}
	for what, change := range changes {
		for _, ofCopy := range []bool{false, true} {
			changed := bookOf(t, "bob", "ann")
			kept := changed.Copy()
			if ofCopy {
				changed, kept = kept, changed
			}
			before := changed.All()
			if err := change(changed); err != nil {
				t.Errorf("%s: %v", what, err)
			}
			if !slices.Equal(kept.All(), before) || slices.Equal(changed.All(), before) {
				t.Errorf("%s, of the copy %v: %v and %v", what, ofCopy, changed.All(), kept.All())
			}
		}
	}
	empty := person.New().Copy()
	if err := empty.Add("ann", 5); err != nil || len(empty.All()) != 1 {
		t.Error("a copy of a new book", err)
	}
}

// P4: what is answered is its owner's.
func TestAnswersAreNew(t *testing.T) {
	b := bookOf(t, "ann", "bob")
	all := b.All()
	all[0] = api.Person{Name: "written"}
	_ = append(all[:1], api.Person{})
	p := get(t, b, "ann")
	p.Epoch = 77
	if s := fmt.Sprint(b.All()); s != "[{ann 5 1 false} {bob 5 1 false}]" {
		t.Error(s)
	}
	names := []byte("cyd")
	if err := b.Add(string(names), 5); err != nil {
		t.Fatal(err)
	}
	copy(names, "xxx")
	get(t, b, "cyd")
}

// P31: another key, the next epoch, and nothing else of them, and nobody else.
func TestRekey(t *testing.T) {
	b := bookOf(t, "ann", "bob")
	for i, key := range []int{6, 5, 1, api.MaxKey, 5} {
		if err := b.Rekey("ann", key); err != nil {
			t.Errorf("Rekey(ann, %d): %v", key, err)
		}
		if p := get(t, b, "ann"); p != (api.Person{Name: "ann", Key: key, Epoch: i + 2}) {
			t.Error(p)
		}
	}
	if err := b.Off("bob", true); err != nil {
		t.Error(err)
	}
	if err := b.Rekey("bob", 6); err != nil {
		t.Error("one who is off", err)
	}
	if s := fmt.Sprint(b.All()); s != "[{ann 5 6 false} {bob 6 2 true}]" {
		t.Error(s)
	}
}

// P31 with P3: ErrNone, ErrKey, ErrExist, ErrBound.
func TestRekeyErrorsInOrder(t *testing.T) {
	for _, epoch := range []int{1, api.MaxNum} {
		b := bookOf(t, "ann", "bob")
		raiseTo(t, b, "ann", epoch)
		for _, name := range append(wrongNames, "cyd", "an", "annn") {
			for _, key := range append(wrongKeys, 5, 6) {
				refuses(t, b, api.ErrNone, fmt.Sprintf("Rekey(%q, %d)", name, key), func() error { return b.Rekey(name, key) })
			}
		}
		for _, key := range wrongKeys {
			refuses(t, b, api.ErrKey, fmt.Sprintf("Rekey(ann, %d)", key), func() error { return b.Rekey("ann", key) })
		}
		refuses(t, b, api.ErrExist, "Rekey with the key they have", func() error { return b.Rekey("ann", 5) })
	}
	b := bookOf(t, "ann")
	raiseTo(t, b, "ann", api.MaxNum)
	for _, key := range []int{1, 6, api.MaxKey} {
		refuses(t, b, api.ErrBound, fmt.Sprintf("Rekey(ann, %d) at MaxNum", key), func() error { return b.Rekey("ann", key) })
	}
}

// P31: the next epoch, which is told.
func TestRaise(t *testing.T) {
	b := bookOf(t, "ann", "bob")
	if err := b.Off("ann", true); err != nil {
		t.Error(err)
	}
	for i := range 50 {
		if n, err := b.Raise("ann"); n != i+2 || err != nil {
			t.Errorf("raise %d: %d, %v", i, n, err)
		}
		if s := fmt.Sprint(b.All()); s != fmt.Sprintf("[{ann 5 %d true} {bob 5 1 false}]", i+2) {
			t.Error(s)
		}
	}
}

// P31 with P3: with an error no epoch is told.
func TestRaiseErrors(t *testing.T) {
	b := bookOf(t, "ann", "bob")
	raiseTo(t, b, "ann", api.MaxNum)
	raise := func(name string) func() error {
		return func() error {
			n, err := b.Raise(name)
			if n != 0 {
				t.Errorf("Raise(%.20q): %d", name, n)
			}
			return err
		}
	}
	for _, name := range append(wrongNames, "cyd", "an", "annn") {
		refuses(t, b, api.ErrNone, fmt.Sprintf("Raise(%q)", name), raise(name))
	}
	refuses(t, b, api.ErrBound, "Raise(ann) at MaxNum", raise("ann"))
	if n, err := b.Raise("bob"); n != 2 || err != nil {
		t.Error("another one's epoch", n, err)
	}
}

// P31: the last epoch is one that is reached, by both ways that lead there.
func TestLastEpoch(t *testing.T) {
	b := bookOf(t, "ann", "bob")
	raiseTo(t, b, "ann", api.MaxNum-1)
	raiseTo(t, b, "bob", api.MaxNum-1)
	if n, err := b.Raise("ann"); n != api.MaxNum || err != nil {
		t.Error(n, err)
	}
	if err := b.Rekey("bob", 6); err != nil {
		t.Error(err)
	}
	for _, name := range []string{"ann", "bob"} {
		if p := get(t, b, name); p.Epoch != 1<<30 || person.Check(p) != nil {
			t.Error(p)
		}
		if err := b.Off(name, true); err != nil {
			t.Error("off and on go on", err)
		}
	}
}

// P32: an epoch that is there already, or was passed, stays; and nothing else of them changes, and nobody else.
func TestRaiseTo(t *testing.T) {
	b := bookOf(t, "ann", "bob")
	if err := b.Off("ann", true); err != nil {
		t.Error(err)
	}
	epoch := 1
	for _, to := range []int{1, 0, math.MinInt, -1, 2, 1, 7, 7, 6, 8, 9000, 8999, api.MaxNum - 1, api.MaxNum, api.MaxNum, 1, math.MinInt} {
		epoch = max(epoch, to)
		if n, err := b.RaiseTo("ann", to); n != epoch || err != nil {
			t.Errorf("RaiseTo(ann, %d): %d, %v, not %d", to, n, err, epoch)
		}
		if s := fmt.Sprint(b.All()); s != fmt.Sprintf("[{ann 5 %d true} {bob 5 1 false}]", epoch) {
			t.Error(s)
		}
	}
}

// P32 with P3: of who is not there, and above the last epoch, with no epoch told.
func TestRaiseToErrors(t *testing.T) {
	b := bookOf(t, "ann", "bob")
	raiseTo(t, b, "bob", api.MaxNum)
	to := func(name string, epoch int) func() error {
		return func() error {
			n, err := b.RaiseTo(name, epoch)
			if n != 0 {
				t.Errorf("RaiseTo(%.20q, %d): %d", name, epoch, n)
			}
			return err
		}
	}
	for _, epoch := range []int{math.MinInt, 0, 1, api.MaxNum, api.MaxNum + 1, math.MaxInt} {
		for _, name := range append(wrongNames, "cyd", "an", "annn") {
			refuses(t, b, api.ErrNone, fmt.Sprintf("RaiseTo(%q, %d)", name, epoch), to(name, epoch))
		}
		if epoch > api.MaxNum {
			for _, name := range []string{"ann", "bob"} {
				refuses(t, b, api.ErrBound, fmt.Sprintf("RaiseTo(%q, %d)", name, epoch), to(name, epoch))
			}
		}
	}
}

// P31: off, and on again, and nothing else of them, and nobody else.
func TestOff(t *testing.T) {
	b := bookOf(t, "ann", "bob")
	if _, err := b.Raise("ann"); err != nil {
		t.Error(err)
	}
	for _, off := range []bool{true, false, true, false} {
		refuses(t, b, api.ErrExist, "Off as it is", func() error { return b.Off("ann", !off) })
		if err := b.Off("ann", off); err != nil {
			t.Error(err)
		}
		if s := fmt.Sprint(b.All()); s != fmt.Sprintf("[{ann 5 2 %v} {bob 5 1 false}]", off) {
			t.Error(s)
		}
	}
	for _, name := range append(wrongNames, "cyd", "an", "annn") {
		for _, off := range []bool{false, true} {
			refuses(t, b, api.ErrNone, fmt.Sprintf("Off(%q, %v)", name, off), func() error { return b.Off(name, off) })
		}
	}
}

// slow is a book as P30 and P31 tell it: a list, gone through from the front.
type slow []api.Person

func (s *slow) find(name string) *api.Person {
	for i := range *s {
		if (*s)[i].Name == name {
			return &(*s)[i]
		}
	}
	return nil
}

func (s *slow) add(name string, key int) error {
	if err := person.Check(api.Person{Name: name, Key: key, Epoch: 1}); err != nil {
		return err
	}
	if s.find(name) != nil {
		return api.ErrExist
	}
	if len(*s) == 20 {
		return api.ErrFull
	}
	at := 0
	for at < len(*s) && (*s)[at].Name < name {
		at++
	}
	*s = slices.Insert(*s, at, api.Person{Name: name, Key: key, Epoch: 1})
	return nil
}

func (s *slow) rekey(name string, key int) error {
	p := s.find(name)
	switch {
	case p == nil:
		return api.ErrNone
	case key < 1 || key > 1000000006:
		return api.ErrKey
	case key == p.Key:
		return api.ErrExist
	case p.Epoch == 1<<30:
		return api.ErrBound
	}
	p.Key, p.Epoch = key, p.Epoch+1
	return nil
}

func (s *slow) raise(name string) (int, error) {
	p := s.find(name)
	switch {
	case p == nil:
		return 0, api.ErrNone
	case p.Epoch == 1<<30:
		return 0, api.ErrBound
	}
	p.Epoch++
	return p.Epoch, nil
}

func (s *slow) raiseTo(name string, epoch int) (int, error) {
	p := s.find(name)
	switch {
	case p == nil:
		return 0, api.ErrNone
	case epoch > 1<<30:
		return 0, api.ErrBound
	}
	p.Epoch = max(p.Epoch, epoch)
	return p.Epoch, nil
}

func (s *slow) off(name string, off bool) error {
	p := s.find(name)
	switch {
	case p == nil:
		return api.ErrNone
	case p.Off == off:
		return api.ErrExist
	}
	p.Off = off
	return nil
}

// step does one thing to both, picked by three bytes, and wants both to answer alike.
func step(t *testing.T, b *person.Book, s *slow, what, who, with byte) {
	t.Helper()
	name := fmt.Sprint("n", who%24)
	if who == 255 {
		name = "N"
	}
	key := int(with%6) - 1
	var err, want error
	n, wantN := 0, 0
	switch what % 5 {
	case 0:
		err, want = b.Add(name, key), s.add(name, key)
	case 1:
		err, want = b.Rekey(name, key), s.rekey(name, key)
	case 2:
		n, err = b.Raise(name)
		wantN, want = s.raise(name)
	case 3:
		err, want = b.Off(name, with%2 == 0), s.off(name, with%2 == 0)
	case 4:
		to := []int{0, 1, 2, 3, 9, api.MaxNum - 1, api.MaxNum, api.MaxNum + 1}[with%8]
		if with >= 64 {
			to = int(with % 8)
		}
		n, err = b.RaiseTo(name, to)
		wantN, want = s.raiseTo(name, to)
	}
	if err != want || n != wantN {
		t.Fatalf("%d %s %d: %d, %v, not %d, %v", what%5, name, key, n, err, wantN, want)
	}
}

// epochsRise wants that nobody has gone, and no epoch fallen, nor, but where one was told, risen by more than 1.
func epochsRise(t *testing.T, told bool, before, after []api.Person) {
	t.Helper()
	now := slow(after)
	for _, p := range before {
		q := now.find(p.Name)
		if q == nil || q.Epoch < p.Epoch || q.Epoch > p.Epoch+1 && !told {
			t.Fatalf("%v was %v", q, p)
		}
		if q.Key != p.Key && q.Epoch != p.Epoch+1 {
			t.Fatalf("%v was %v: another key is another epoch", q, p)
		}
	}
}

func walk(t *testing.T, steps []byte) {
	t.Helper()
	b, s := person.New(), slow{}
	for ; len(steps) >= 3; steps = steps[3:] {
		before := b.All()
		step(t, b, &s, steps[0], steps[1], steps[2])
		after := b.All()
		if !slices.Equal(after, s) {
			t.Fatalf("%v, not %v", after, s)
		}
		epochsRise(t, steps[0]%5 == 4, before, after)
		for _, p := range after {
			if got := get(t, b, p.Name); got != p || person.Check(p) != nil {
				t.Fatal(got, p)
			}
		}
		if steps[2]%16 == 0 {
			b = b.Copy()
		}
	}
}

// P32, with P30 and P31: whatever is done, against another way to keep a book.
func TestEpochsOnlyRise(t *testing.T) {
	for seed := range int64(50) {
		steps := make([]byte, 3*400)
		rand.New(rand.NewSource(seed)).Read(steps)
		walk(t, steps)
	}
}

// P1 and P32: look for more.
func FuzzBooks(f *testing.F) {
	f.Add([]byte{0, 1, 5, 2, 1, 0, 1, 1, 3, 3, 1, 0})
	f.Add([]byte{0, 1, 5, 4, 1, 7, 2, 1, 0, 1, 1, 3})
	f.Add([]byte{0, 255, 0})
	f.Fuzz(func(t *testing.T, steps []byte) { walk(t, steps[:min(len(steps), 3000)]) })
}
