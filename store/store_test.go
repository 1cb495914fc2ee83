package store_test

import (
	"math"
	"math/rand"
	"reflect"
	"slices"
	"testing"

	"breviary/api"
	"breviary/store"
)

const never = uint64(math.MaxUint64)

var (
	root = api.Rec{Kind: api.Root}
	gone = api.Rec{Gone: true}
)

// Records and changes, as they are told.

func elem(name string, kids ...int) api.Rec {
	return api.Rec{Kind: api.Elem, Name: name, Parent: 1, Kids: kids}
}

func one(id int, r api.Rec) []api.Change { return []api.Change{{Id: id, R: r}} }

// full is a record with something in each field.
func full() api.Rec {
	return api.Rec{Kind: api.Elem, Name: "a", Text: "b", Parent: 3, Kids: []int{4, 5, 4}, Attrs: []int{6, 7}}
}

// copied is a record that shares no list with another one; no list is an empty one.
func copied(r api.Rec) api.Rec {
	r.Kids = append([]int{}, r.Kids...)
	r.Attrs = append([]int{}, r.Attrs...)
	return r
}

// alike asks whether records are the same, in all their fields.
func alike(a, b api.Rec) bool { return reflect.DeepEqual(copied(a), copied(b)) }

func sameVersion(a, b api.Version) bool { return a.Time == b.Time && alike(a.R, b.R) }

// filled is a store in which numbers are given up to one.
func filled(given int) *store.Store {
	s := store.New()
	for s.Fresh() < given {
	}
	return s
}

// lay installs what is to be taken.
func lay(t *testing.T, s *store.Store, time uint64, l ...api.Change) {
	t.Helper()
	if e := s.Install(time, l); e != api.OK {
		t.Fatalf("Install(%d, %v) = %d", time, l, int(e))
	}
}

// is asks whether a node was this at these times.
func is(t *testing.T, s *store.Store, id int, want api.Rec, times ...uint64) {
	t.Helper()
	for _, time := range times {
		if got, there := s.At(id, time); !there || !alike(got, want) {
			t.Errorf("At(%d, %d) = %v, %v, not %v", id, time, got, there, want)
		}
	}
}

// isNot asks whether a node was not there at these times.
func isNot(t *testing.T, s *store.Store, id int, times ...uint64) {
	t.Helper()
	for _, time := range times {
		if got, there := s.At(id, time); there || !alike(got, api.Rec{}) {
			t.Errorf("At(%d, %d) = %v, %v", id, time, got, there)
		}
	}
}

// refuses asks whether an Install is refused, and turns nothing.
func refuses(t *testing.T, s *store.Store, want api.Errno, time uint64, l ...api.Change) {
	t.Helper()
	before := seen(s)
	if e := s.Install(time, l); e != want {
		t.Errorf("Install(%d, %v) = %d, not %d", time, l, int(e), int(want))
	}
	if after := seen(s); !reflect.DeepEqual(after, before) {
		t.Errorf("Install(%d, %v) was refused, and made %v of %v", time, l, after, before)
	}
}

// sweeps asks how many versions a Sweep lets go.
func sweeps(t *testing.T, s *store.Store, oldest uint64, want int) {
	t.Helper()
	before := s.Count()
	if went := s.Sweep(oldest); went != want || s.Count() != before-want {
		t.Errorf("Sweep(%d) = %d, not %d, and of %d versions left %d", oldest, went, want, before, s.Count())
	}
}

// look is all that a store tells without being turned.
type look struct {
	last  uint64
	count int
	ids   []int
	all   map[int][]api.Version
}

func seen(s *store.Store) look {
	l := look{last: s.Last(), count: s.Count(), ids: append([]int{}, s.Ids()...), all: map[int][]api.Version{}}
	for _, id := range l.ids {
		for _, v := range s.Versions(id) {
			l.all[id] = append(l.all[id], api.Version{Time: v.Time, R: copied(v.R)})
		}
	}
	return l
}

// The chapter's words once more, to hold a store against.

// entry is one version of a node.
type entry struct {
	id   int
	time uint64
	r    api.Rec
}

// model is all versions, in one list, as they were installed.
type model struct {
	given int
	last  uint64
	laid  []entry
}

func newModel() *model { return &model{given: 1, laid: []entry{{1, 0, root}}} }

func mayBe(r api.Rec) bool {
	if r.Gone {
		r.Gone = false
		return alike(r, api.Rec{})
	}
	for _, id := range append(slices.Clone(r.Kids), r.Attrs...) {
		if id <= 0 {
			return false
		}
	}
	return slices.Contains([]int{api.Root, api.Elem, api.Attribute, api.Text, api.Comment, api.PI}, r.Kind) && r.Parent > -1
}

func (m *model) install(time uint64, l []api.Change) api.Errno {
	if time <= m.last {
		return api.ErrTime
	}
	for i, c := range l {
		if !mayBe(c.R) || c.Id <= 0 || c.Id > m.given {
			return api.ErrArg
		}
		for _, d := range l[:i] {
			if c.Id == d.Id {
				return api.ErrArg
			}
		}
	}
	for _, c := range l {
		m.laid = append(m.laid, entry{c.Id, time, copied(c.R)})
	}
	m.last = time
	return api.OK
}

func (m *model) versions(id int) []api.Version {
	var all []api.Version
	for _, x := range m.laid {
		if x.id == id {
			all = append(all, api.Version{Time: x.time, R: x.r})
		}
	}
	return all
}

func (m *model) at(id int, time uint64) (api.Rec, bool) {
	r := gone
	for _, v := range m.versions(id) {
		if v.Time <= time {
			r = v.R
		}
	}
	if r.Gone {
		return api.Rec{}, false
	}
	return r, true
}

func (m *model) sweep(oldest uint64) int {
	var left []entry
	for i, x := range m.laid {
		later := slices.ContainsFunc(m.laid[i+1:], func(y entry) bool { return y.id == x.id && y.time <= oldest })
		if x.time > oldest || !later && !x.r.Gone {
			left = append(left, x)
		}
	}
	went := len(m.laid) - len(left)
	m.laid = left
	return went
}

func (m *model) ids() []int {
	ids := []int{}
	for id := 1; id <= m.given; id++ {
		if m.versions(id) != nil {
			ids = append(ids, id)
		}
	}
	return ids
}

// pair is a store, and what it is to be.
type pair struct {
	s *store.Store
	m *model
}

func newPair() pair { return pair{store.New(), newModel()} }

// agree holds all that the store tells, at all times up to one, against its model.
func (p pair) agree(t *testing.T, times uint64) {
	t.Helper()
	if p.s.Last() != p.m.last || p.s.Count() != len(p.m.laid) || !slices.Equal(p.s.Ids(), p.m.ids()) {
		t.Errorf("Last %d, Count %d, Ids %v, not %d, %d, %v", p.s.Last(), p.s.Count(), p.s.Ids(), p.m.last, len(p.m.laid), p.m.ids())
	}
	for id := -1; id <= p.m.given+1; id++ {
		if got, want := p.s.Versions(id), p.m.versions(id); !slices.EqualFunc(got, want, sameVersion) {
			t.Errorf("Versions(%d) = %v, not %v", id, got, want)
		}
		for time := range times {
			p.agreeAt(t, id, time)
		}
		p.agreeAt(t, id, never)
	}
}

func (p pair) agreeAt(t *testing.T, id int, time uint64) {
	t.Helper()
	got, there := p.s.At(id, time)
	want, wanted := p.m.at(id, time)
	if there != wanted || !alike(got, want) {
		t.Errorf("At(%d, %d) = %v, %v, not %v, %v", id, time, got, there, want, wanted)
	}
}

func (p pair) fresh(t *testing.T) {
	t.Helper()
	p.m.given++
	if id := p.s.Fresh(); id != p.m.given {
		t.Errorf("Fresh = %d, not %d", id, p.m.given)
	}
}

func (p pair) install(t *testing.T, time uint64, l ...api.Change) {
	t.Helper()
	want := p.m.install(time, l)
	if e := p.s.Install(time, l); e != want {
		t.Errorf("Install(%d, %v) = %d, not %d", time, l, int(e), int(want))
	}
}

// sweep holds what goes against the model, and what is left against P9.6, for all times up to one.
func (p pair) sweep(t *testing.T, oldest, times uint64) {
	t.Helper()
	type answer struct {
		r     api.Rec
		there bool
	}
	ask := func() []answer {
		var all []answer
		for id := 1; id <= p.m.given; id++ {
			for time := oldest; time < times; time++ {
				r, there := p.s.At(id, time)
				all = append(all, answer{copied(r), there})
			}
			r, there := p.s.At(id, never)
			all = append(all, answer{copied(r), there})
		}
		return all
	}
	before, want := ask(), p.m.sweep(oldest)
	if went := p.s.Sweep(oldest); went != want {
		t.Errorf("Sweep(%d) = %d, not %d", oldest, went, want)
	}
	if !reflect.DeepEqual(ask(), before) {
		t.Errorf("Sweep(%d) turned an answer of At", oldest)
	}
	for _, id := range p.s.Ids() {
		old := 0
		for _, v := range p.s.Versions(id) {
			if v.Time <= oldest {
				old++
			}
		}
		if old > 1 {
			t.Errorf("Sweep(%d) left %d versions of %d", oldest, old, id)
		}
	}
	if again := p.s.Sweep(oldest); again != 0 {
		t.Errorf("Sweep(%d) let %d go, once more", oldest, again)
	}
}

// P9.1

func TestNew(t *testing.T) {
	s := store.New()
	is(t, s, 1, root, 0, 1, 99, never)
	isNot(t, s, 2, 0, 1, never)
	if v := s.Versions(1); len(v) != 1 || !sameVersion(v[0], api.Version{R: root}) {
		t.Errorf("Versions(1) = %v", v)
	}
	if s.Last() != 0 || s.Count() != 1 || !slices.Equal(s.Ids(), []int{1}) {
		t.Errorf("Last %d, Count %d, Ids %v", s.Last(), s.Count(), s.Ids())
	}
}

func TestFresh(t *testing.T) {
	s := store.New()
	for want := 2; want < 1000; want++ {
		if id := s.Fresh(); id != want {
			t.Fatalf("Fresh = %d, not %d", id, want)
		}
		switch want % 3 {
		case 0:
			lay(t, s, uint64(want), one(want, elem("a"))...)
		case 1:
			s.Install(uint64(want), one(want+1, elem("a")))
		case 2:
			s.Sweep(never)
		}
	}
	if !slices.Equal(s.Ids()[:3], []int{1, 3, 6}) || s.Last() != 999 {
		t.Errorf("Ids %v.., Last %d", s.Ids()[:3], s.Last())
	}
}

func TestLast(t *testing.T) {
	s := filled(2)
	for _, x := range []struct {
		time uint64
		l    []api.Change
		want uint64
	}{
		{0, nil, 0}, {3, one(2, elem("a")), 3}, {3, nil, 3}, {2, nil, 3}, {4, one(3, elem("a")), 3}, {4, nil, 4}, {1 << 40, nil, 1 << 40}, {1<<40 - 1, nil, 1 << 40}, {1 << 63, nil, 1 << 63}, {1, nil, 1 << 63}, {never, nil, never}, {0, nil, never}, {never, nil, never},
	} {
		s.Install(x.time, x.l)
		s.Sweep(x.time)
		if s.Last() != x.want {
			t.Errorf("behind Install(%d, %v) Last is %d, not %d", x.time, x.l, s.Last(), x.want)
		}
	}
}

// P9.2

func TestInstall(t *testing.T) {
	s := filled(4)
	lay(t, s, 5, api.Change{Id: 4, R: full()}, api.Change{Id: 2, R: elem("a", 3)})
	lay(t, s, 6, api.Change{Id: 1, R: api.Rec{Kind: api.Root, Kids: []int{2}}}, api.Change{Id: 4, R: gone})
	isNot(t, s, 2, 0, 4)
	is(t, s, 2, elem("a", 3), 5, 6, never)
	isNot(t, s, 3, 0, 5, 6, never)
	isNot(t, s, 4, 0, 4, 6, 7, never)
	is(t, s, 4, full(), 5)
	is(t, s, 1, root, 0, 5)
	is(t, s, 1, api.Rec{Kind: api.Root, Kids: []int{2}}, 6, never)
	if s.Count() != 5 {
		t.Errorf("Count is %d", s.Count())
	}
}

func TestInstallOfTimesThatWentBy(t *testing.T) {
	s := filled(3)
	refuses(t, s, api.ErrTime, 0, one(2, elem("a"))...)
	refuses(t, s, api.ErrTime, 0)
	lay(t, s, 5, one(2, elem("a"))...)
	for _, time := range []uint64{0, 1, 4, 5} {
		refuses(t, s, api.ErrTime, time, one(2, elem("b"))...)
		refuses(t, s, api.ErrTime, time, one(3, elem("b"))...)
		refuses(t, s, api.ErrTime, time)
		refuses(t, s, api.ErrTime, time, one(0, api.Rec{})...)
	}
	lay(t, s, 6)
	refuses(t, s, api.ErrTime, 6, one(2, elem("b"))...)
	lay(t, s, never, one(2, elem("b"))...)
	refuses(t, s, api.ErrTime, never, one(2, elem("c"))...)
	is(t, s, 2, elem("a"), 5, 6, never-1)
	is(t, s, 2, elem("b"), never)
}

func TestInstallOfWhatMayNotBe(t *testing.T) {
	s := filled(4)
	lay(t, s, 5, one(2, elem("a"))...)
	good := []api.Change{{Id: 2, R: elem("b")}, {Id: 3, R: elem("c")}}
	wrong := []api.Change{
		{Id: 0, R: elem("d")}, {Id: -1, R: elem("d")}, {Id: 5, R: elem("d")}, {Id: 6, R: gone}, {Id: math.MinInt, R: elem("d")}, {Id: math.MaxInt, R: elem("d")},
		{Id: 4, R: api.Rec{}}, {Id: 4, R: api.Rec{Kind: 7}}, {Id: 4, R: api.Rec{Kind: -1}}, {Id: 4, R: api.Rec{Kind: api.Elem, Parent: -1}}, {Id: 4, R: elem("d", 0)}, {Id: 4, R: elem("d", 3, -1)}, {Id: 4, R: api.Rec{Kind: api.Elem, Attrs: []int{0}}}, {Id: 4, R: api.Rec{Gone: true, Kind: api.Elem}},
		{Id: 2, R: elem("b")}, {Id: 3, R: gone},
	}
	for _, w := range wrong {
		for at := range 3 {
			refuses(t, s, api.ErrArg, 6, slices.Insert(slices.Clone(good), at, w)...)
		}
	}
	for _, w := range wrong[:14] {
		refuses(t, s, api.ErrArg, 6, w)
		refuses(t, s, api.ErrTime, 5, w)
	}
	lay(t, s, 6, good...)
	// a number is refused till it is given, and taken from then on
	refuses(t, s, api.ErrArg, 7, one(5, elem("d"))...)
	s.Fresh()
	lay(t, s, 7, one(5, elem("d"))...)
}

func TestInstallOfNoChange(t *testing.T) {
	s := store.New()
	lay(t, s, 3)
	if e := s.Install(4, []api.Change{}); e != api.OK || s.Last() != 4 || s.Count() != 1 {
		t.Errorf("%d, Last %d, Count %d", int(e), s.Last(), s.Count())
	}
	refuses(t, s, api.ErrTime, 4)
	is(t, s, 1, root, 0, 3, 4)
}

// Whatever may be is laid as it is, on whatever node, over whatever it was.
func TestAnyRecordOnAnyNode(t *testing.T) {
	s := filled(2)
	time := uint64(0)
	for _, r := range []api.Rec{root, elem("a"), full(), gone, gone, {Kind: api.Attribute, Name: "\xff", Text: "\x00<"}, {Kind: api.PI, Parent: math.MaxInt}, {Kind: api.Elem, Kids: []int{2, 2, math.MaxInt}, Attrs: []int{2}}, {Kind: api.Comment}, gone, {Kind: api.Text}, {Kind: api.Text}} {
		for id := 1; id <= 2; id++ {
			time++
			lay(t, s, time, one(id, r)...)
			if r.Gone {
				isNot(t, s, id, time, never)
			} else {
				is(t, s, id, r, time, never)
			}
			v := s.Versions(id)
			if !sameVersion(v[len(v)-1], api.Version{Time: time, R: r}) {
				t.Errorf("%v is told as %v", r, v[len(v)-1])
			}
		}
	}
}

// P9.3

func TestAt(t *testing.T) {
	s := filled(2)
	lay(t, s, 5, one(2, elem("a"))...)
	lay(t, s, 7, one(2, gone)...)
	lay(t, s, 8, one(1, elem("r"))...)
	lay(t, s, 10, one(2, elem("b"))...)
	lay(t, s, 11, one(2, elem("c"))...)
	isNot(t, s, 2, 0, 1, 4, 7, 8, 9)
	is(t, s, 2, elem("a"), 5, 6)
	is(t, s, 2, elem("b"), 10)
	is(t, s, 2, elem("c"), 11, 12, 1<<32, 1<<63, never)
	for _, id := range []int{0, -1, 3, math.MinInt, math.MaxInt} {
		isNot(t, s, id, 0, 5, never)
		if v := s.Versions(id); len(v) != 0 {
			t.Errorf("Versions(%d) = %v", id, v)
		}
	}
}

func TestVersions(t *testing.T) {
	s := filled(3)
	lay(t, s, 5, one(2, full())...)
	lay(t, s, 6, one(1, elem("r"))...)
	lay(t, s, 7, one(2, gone)...)
	lay(t, s, never, one(2, elem("b", 3))...)
	for id, want := range map[int][]api.Version{1: {{R: root}, {Time: 6, R: elem("r")}}, 2: {{Time: 5, R: full()}, {Time: 7, R: gone}, {Time: never, R: elem("b", 3)}}, 3: nil} {
		if got := s.Versions(id); !slices.EqualFunc(got, want, sameVersion) {
			t.Errorf("Versions(%d) = %v, not %v", id, got, want)
		}
	}
	if s.Count() != 5 {
		t.Errorf("Count is %d", s.Count())
	}
}

func TestIdsRise(t *testing.T) {
	s := filled(1000)
	order := rand.New(rand.NewSource(9)).Perm(1000)
	met := []int{1}
	for i, k := range order {
		id := k + 1
		if id > 1 && id%7 != 0 {
			met = append(met, id)
		}
		if id%7 != 0 {
			lay(t, s, uint64(i+1), one(id, elem("a"))...)
		}
	}
	slices.Sort(met)
	if ids := s.Ids(); !slices.Equal(ids, met) {
		t.Errorf("Ids = %v", ids)
	}
	if s.Count() != len(met)+1 {
		t.Errorf("Count = %d", s.Count())
	}
}

// P9.4

func TestSweep(t *testing.T) {
	s := filled(4)
	lay(t, s, 2, api.Change{Id: 2, R: elem("a")}, api.Change{Id: 3, R: elem("x")})
	lay(t, s, 4, one(2, gone)...)
	lay(t, s, 6, one(2, elem("b"))...)
	lay(t, s, 8, api.Change{Id: 2, R: elem("c")}, api.Change{Id: 1, R: elem("r")})
	lay(t, s, 9, one(3, gone)...)
	sweeps(t, s, 0, 0)
	sweeps(t, s, 2, 0)
	sweeps(t, s, 3, 0)
	is(t, s, 2, elem("a"), 2, 3)
	sweeps(t, s, 4, 2) // the element and its end
	isNot(t, s, 2, 0, 2, 3, 4, 5)
	is(t, s, 2, elem("b"), 6, 7)
	sweeps(t, s, 6, 0)
	sweeps(t, s, 7, 0)
	sweeps(t, s, 8, 2) // an element, and the root as it was at first
	isNot(t, s, 2, 6, 7)
	isNot(t, s, 1, 0, 7)
	is(t, s, 2, elem("c"), 8, never)
	is(t, s, 1, elem("r"), 8, never)
	is(t, s, 3, elem("x"), 2, 8)
	sweeps(t, s, never, 2)
	isNot(t, s, 3, 2, 8, 9)
	if !slices.Equal(s.Ids(), []int{1, 2}) || len(s.Versions(3)) != 0 || s.Last() != 9 {
		t.Errorf("Ids %v, Versions %v, Last %d", s.Ids(), s.Versions(3), s.Last())
	}
	sweeps(t, s, 0, 0)
	sweeps(t, s, never, 0)
}

// Nothing that goes is kept from coming once more, and what is swept ahead of its time is laid all the same.
func TestLaidBehindASweep(t *testing.T) {
	s := filled(2)
	lay(t, s, 5, api.Change{Id: 2, R: elem("a")}, api.Change{Id: 1, R: gone})
	lay(t, s, 7, one(2, gone)...)
	sweeps(t, s, 7, 4)
	if s.Count() != 0 || len(s.Ids()) != 0 || s.Last() != 7 {
		t.Errorf("Count %d, Ids %v, Last %d", s.Count(), s.Ids(), s.Last())
	}
	refuses(t, s, api.ErrTime, 7, one(2, elem("b"))...)
	sweeps(t, s, never, 0)
	lay(t, s, 8, api.Change{Id: 2, R: elem("b")}, api.Change{Id: 1, R: root})
	isNot(t, s, 2, 5, 7)
	is(t, s, 2, elem("b"), 8)
	is(t, s, 1, root, 8)
	if id := s.Fresh(); id != 3 {
		t.Errorf("Fresh = %d", id)
	}
	// an end that stands by itself goes, too
	lay(t, s, 9, one(3, gone)...)
	sweeps(t, s, 8, 0)
	sweeps(t, s, 9, 1)
}

func TestExample(t *testing.T) {
	s := store.New()
	if id := s.Fresh(); id != 2 {
		t.Errorf("Fresh = %d", id)
	}
	lay(t, s, 5, one(2, elem("a"))...)
	isNot(t, s, 2, 4)
	is(t, s, 2, elem("a"), 5)
	refuses(t, s, api.ErrTime, 5, one(2, elem("b"))...)
	lay(t, s, 7, one(2, gone)...)
	is(t, s, 2, elem("a"), 6)
	isNot(t, s, 2, 7)
	sweeps(t, s, 6, 0)
	sweeps(t, s, 7, 2)
	if s.Count() != 1 {
		t.Errorf("Count is %d", s.Count())
	}
}

// P9.5

func TestStoresThatNewDidNotMake(t *testing.T) {
	made := filled(2)
	lay(t, made, 5, one(2, elem("a"))...)
	before := seen(made)
	copyOfOne := *made
	for name, s := range map[string]*store.Store{"nil": nil, "zero": {}, "copy": &copyOfOne} {
		for range 2 {
			if id := s.Fresh(); id != 0 {
				t.Errorf("%s: Fresh = %d", name, id)
			}
			for _, l := range [][]api.Change{nil, one(1, root), one(0, api.Rec{})} {
				if e := s.Install(6, l); e != api.ErrNil || s.Install(0, l) != api.ErrNil {
					t.Errorf("%s: Install = %d", name, int(e))
				}
			}
			for id := range 4 {
				isNot(t, s, id, 0, 5, never)
				if v := s.Versions(id); len(v) != 0 {
					t.Errorf("%s: Versions(%d) = %v", name, id, v)
				}
			}
			if s.Last() != 0 || s.Count() != 0 || len(s.Ids()) != 0 || s.Sweep(0) != 0 || s.Sweep(never) != 0 {
				t.Errorf("%s: Last %d, Count %d, Ids %v", name, s.Last(), s.Count(), s.Ids())
			}
		}
	}
	if !reflect.DeepEqual(seen(made), before) || made.Fresh() != 3 {
		t.Error("what a copy was asked turned the store")
	}
}

func TestRight(t *testing.T) {
	right := []api.Rec{
		root, gone, full(), elem("a"), {Kind: api.Attribute}, {Kind: api.Text}, {Kind: api.Comment}, {Kind: api.PI}, {Gone: true, Kids: []int{}, Attrs: []int{}}, {Kind: api.Text, Kids: []int{1}, Attrs: []int{1}},
		{Kind: api.Root, Name: "a", Text: "b", Parent: math.MaxInt}, {Kind: api.Elem, Kids: []int{1, 1, math.MaxInt}}, {Kind: api.Elem, Attrs: []int{math.MaxInt, 1}}, {Kind: api.Elem, Name: "", Text: "\xff"},
	}
	wrong := []api.Rec{
		{}, {Kind: 7}, {Kind: -1}, {Kind: math.MaxInt}, {Kind: math.MinInt}, {Name: "a"}, {Kind: api.Root, Parent: -1}, {Kind: api.Elem, Parent: math.MinInt},
		elem("a", 0), elem("a", -1), elem("a", math.MinInt), elem("a", 0, 1), elem("a", 1, 0), elem("a", 1, -1, 2), {Kind: api.Elem, Attrs: []int{0}}, {Kind: api.Elem, Attrs: []int{1, -1}}, {Kind: api.Elem, Kids: []int{1}, Attrs: []int{2, 0}},
		{Gone: true, Kind: api.Root}, {Gone: true, Kind: -1}, {Gone: true, Name: "a"}, {Gone: true, Text: "a"}, {Gone: true, Parent: 1}, {Gone: true, Parent: -1}, {Gone: true, Kids: []int{1}}, {Gone: true, Kids: []int{0}}, {Gone: true, Attrs: []int{1}},
	}
	for _, r := range right {
		if !store.Right(r) || !mayBe(r) {
			t.Errorf("may not be: %v", r)
		}
	}
	for _, r := range wrong {
		if store.Right(r) || mayBe(r) {
			t.Errorf("may be: %v", r)
		}
	}
}

// All records of few things in each field.
func TestRightOfAllSmallRecords(t *testing.T) {
	lists := [][]int{nil, {}, {1}, {0}, {-1}, {2, 1}, {1, 0}, {0, 1}}
	for _, ended := range []bool{false, true} {
		for kind := -2; kind <= 9; kind++ {
			for parent := -2; parent <= 2; parent++ {
				for _, s := range []string{"", "a"} {
					for _, kids := range lists {
						for _, attrs := range lists {
							for _, r := range []api.Rec{{Gone: ended, Kind: kind, Parent: parent, Name: s, Kids: kids, Attrs: attrs}, {Gone: ended, Kind: kind, Parent: parent, Text: s, Kids: kids, Attrs: attrs}} {
								if got := store.Right(r); got != mayBe(r) {
									t.Errorf("Right(%v) = %v", r, got)
								}
							}
						}
					}
				}
			}
		}
	}
}

// P9.2, P9.3, P9.4, P9.6

// All rows of five of some calls.
func TestAllShortScripts(t *testing.T) {
	const times = 12
	// each call takes the pair, and the time that is next
	calls := []func(p pair, now uint64){
		func(p pair, now uint64) { p.install(t, now, one(2, elem("a"))...) },
		func(p pair, now uint64) { p.install(t, now, one(2, gone)...) },
		func(p pair, now uint64) {
			p.install(t, now+1, api.Change{Id: 3, R: elem("b")}, api.Change{Id: 1, R: root})
		},
		func(p pair, now uint64) { p.install(t, now, one(1, gone)...) },
		func(p pair, now uint64) { p.install(t, now-1, one(2, elem("c"))...) },
		func(p pair, now uint64) { p.fresh(t) },
		func(p pair, now uint64) { p.sweep(t, now-1, times) },
		func(p pair, now uint64) { p.sweep(t, now/2, times) },
		func(p pair, now uint64) { p.sweep(t, never, times) },
	}
	rows := 1
	for range 5 {
		rows *= len(calls)
	}
	for row := range rows {
		p := newPair()
		p.fresh(t)
		n := row
		for range 5 {
			calls[n%len(calls)](p, p.s.Last()+1)
			n /= len(calls)
		}
		p.agree(t, times)
		if t.Failed() {
			t.Fatalf("row %d", row)
		}
	}
}

// wild makes a record by chance, one that may not be now and then.
func wild(r *rand.Rand) api.Rec {
	list := func() []int {
		l := make([]int, r.Intn(4), 8)
		for i := range l {
			l[i] = 1 + r.Intn(9)
		}
		if r.Intn(40) == 0 {
			l = append(l, -r.Intn(2))
		}
		return l
	}
	switch r.Intn(40) {
	case 0:
		return api.Rec{Gone: true, Kids: list()}
	case 1:
		return api.Rec{Kind: r.Intn(9) - 1, Parent: r.Intn(4) - 1}
	case 2, 3, 4, 5, 6, 7, 8, 9, 10, 11, 12:
		return gone
	}
	words := []string{"", "a", "b", "<", "\xff"}
	return api.Rec{Kind: 1 + r.Intn(6), Name: words[r.Intn(5)], Text: words[r.Intn(5)], Parent: r.Intn(9), Kids: list(), Attrs: list()}
}

func TestScriptsByChance(t *testing.T) {
	r := rand.New(rand.NewSource(90))
	taken, refused := 0, 0
	for range 400 {
		p := newPair()
		for range 40 {
			switch r.Intn(8) {
			case 0:
				p.fresh(t)
			case 1:
				p.sweep(t, uint64(r.Intn(int(p.m.last)+3)), p.m.last+3)
			default:
				var l []api.Change
				for range r.Intn(4) {
					l = append(l, api.Change{Id: r.Intn(p.m.given+6)/2 + r.Intn(2), R: wild(r)})
				}
				was := p.m.last
				p.install(t, p.m.last+uint64(r.Intn(4)), l...)
				if p.m.last == was {
					refused++
				} else {
					taken++
				}
			}
			p.agree(t, p.m.last+3)
			if t.Failed() {
				return
			}
		}
	}
	if taken < 1000 || refused < 1000 {
		t.Errorf("%d taken, %d refused: too seldom to tell", taken, refused)
	}
}

// R1, R3, R4

func TestNothingIsTurnedOrKept(t *testing.T) {
	s := filled(3)
	kids, attrs := append(make([]int, 0, 8), 2, 3), append(make([]int, 0, 8), 3, 2)
	r := api.Rec{Kind: api.Elem, Kids: kids, Attrs: attrs}
	// two records of one change share their lists
	l := append(make([]api.Change, 0, 8), api.Change{Id: 2, R: r}, api.Change{Id: 3, R: r})
	spare, rest, beside := slices.Clone(kids[:8]), slices.Clone(attrs[:8]), slices.Clone(l[:8])
	lay(t, s, 5, l...)
	refuses(t, s, api.ErrArg, 6, append(l, l[0])...)
	lay(t, s, 6, l...)
	clear(l[2:3]) // what append above has laid
	if !reflect.DeepEqual(kids[:8], spare) || !reflect.DeepEqual(attrs[:8], rest) || !reflect.DeepEqual(l[:8], beside) {
		t.Error("a list that was handed in was changed")
	}
	want := api.Rec{Kind: api.Elem, Kids: []int{2, 3}, Attrs: []int{3, 2}}
	kids[0], attrs[1] = 9, -1
	l[0].R = gone
	for id := 2; id <= 3; id++ {
		is(t, s, id, want, 5, 6)
	}
}

func TestAnswersShareNothing(t *testing.T) {
	s := filled(2)
	lay(t, s, 5, one(2, full())...)
	lay(t, s, 6, one(2, full())...)
	wipe := func(l []int) { clear(l[:cap(l)]) }
	at, _ := s.At(2, 5)
	versions, ids := s.Versions(2), s.Ids()
	wipe(at.Kids)
	if !slices.Equal(at.Attrs, full().Attrs) {
		t.Errorf("two lists of an answer share memory: %v", at)
	}
	wipe(at.Attrs)
	wipe(versions[0].R.Kids)
	if !slices.Equal(versions[0].R.Attrs, full().Attrs) || !alike(versions[1].R, full()) {
		t.Errorf("two lists of an answer share memory: %v", versions)
	}
	wipe(versions[1].R.Attrs)
	clear(versions[:cap(versions)])
	wipe(ids)
	is(t, s, 2, full(), 5, 6, never)
	if v := s.Versions(2); len(v) != 2 || !alike(v[0].R, full()) || !alike(v[1].R, full()) || !slices.Equal(s.Ids(), []int{1, 2}) {
		t.Errorf("an answer hangs on another one: %v, %v", v, s.Ids())
	}
}

func TestStoresHaveNothingInCommon(t *testing.T) {
	a, b := store.New(), store.New()
	a.Fresh()
	lay(t, a, 5, api.Change{Id: 2, R: elem("a")}, api.Change{Id: 1, R: gone})
	a.Sweep(9)
	is(t, b, 1, root, 0, never)
	if b.Fresh() != 2 || b.Last() != 0 || b.Count() != 1 {
		t.Errorf("Last %d, Count %d", b.Last(), b.Count())
	}
	isNot(t, b, 2, never)
	is(t, store.New(), 1, root, 0)
}

// As many as a run has room for: what each call costs does not grow with all that was laid ahead of it.
func TestManyVersionsAndNodes(t *testing.T) {
	const many = 1 << 17
	s := filled(many)
	for time := uint64(1); time <= many; time++ {
		lay(t, s, time, one(2, elem("a", int(time)))...)
	}
	for time := uint64(1); time <= many; time++ {
		if r, there := s.At(2, time); !there || r.Kids[0] != int(time) {
			t.Fatalf("At(2, %d) = %v, %v", time, r, there)
		}
	}
	sweeps(t, s, many/2, many/2-1)
	isNot(t, s, 2, many/2-1)
	is(t, s, 2, elem("a", many/2), many/2)
	var all []api.Change
	for id := many; id > 0; id-- {
		all = append(all, api.Change{Id: id, R: gone})
	}
	lay(t, s, many+1, all...)
	if ids := s.Ids(); len(ids) != many || !slices.IsSorted(ids) {
		t.Errorf("%d Ids", len(ids))
	}
	sweeps(t, s, many+1, many+1+many/2+1)
	if len(s.Ids()) != 0 {
		t.Errorf("%d Ids", len(s.Ids()))
	}
}
