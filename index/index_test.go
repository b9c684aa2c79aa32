package index_test

import (
	"fmt"
	"maps"
	"math"
	"math/rand"
	"reflect"
	"regexp"
	"slices"
	"strings"
	"testing"

	"backhaul/api"
	"backhaul/index"
)

const (
	mostId    = 999999
	mostPairs = 2000
)

// That these compile shows that the signatures are those of the chapter.
var (
	_ = struct {
		Keys []string
		Ids  [][]int
	}(index.Index{})

	_ func(index.Index) api.Errno                                = index.Check
	_ func(index.Index, string) []int                            = index.Of
	_ func(index.Index, string, ...int) (index.Index, api.Errno) = index.Add
	_ func(index.Index, string, int) (index.Index, api.Errno)    = index.Drop
	_ func(index.Index) int                                      = index.Count
	_ func(index.Index, int) []string                            = index.Under
)

// serials are serials, in the order of strings.
var serials = []string{
	"0", "0-0", "00", "1", "9", "A", "A-1", "A-B", "A-B-C", "A0", "A1", "AA", "AAAAAAAAAAAAAAAA", "AB-12", "B", "B-1", "M", "Z", "Z-9", "ZZZZZZZZZZZZZZZZ",
}

// others are texts that are no serials.
var others = []string{
	"", "a", "b", "z", "aB", "Ab-12", "-", "--", "-A", "A-", "A--1", "-A-", "A B", " A", "A ", "A\n", "\nA", "A\x00", "\x00", "*", "A*", "A_B", "A/B", "A.B", ":", "@", "[", "`", "{",
	"Ä", "É", "ß", "Α", "Ａ", "٣", "²", "\xff", "A\xc3", "\xf0\x90", strings.Repeat("A", 17), strings.Repeat("0", 17), strings.Repeat("A-", 8) + "A", strings.Repeat("Z", 1000),
}

// outside are numbers that are no ids.
var outside = []int{math.MinInt, math.MinInt + 1, math.MinInt32, -mostId - 1, -mostId, -1, 0, mostId + 1, mostId + 2, math.MaxInt32, 1 << 32, 1<<32 + 5, math.MaxInt - 1, math.MaxInt}

// pair is a serial and an id under which it occurs.
type pair struct {
	s  string
	id int
}

// form is that of a serial that has no more than 16 runes.
var form = regexp.MustCompile("^([A-Z0-9]+-)*[A-Z0-9]+$")

func isSerial(s string) bool { return form.MatchString(s) && len([]rune(s)) <= 16 }

func isId(id int) bool { return 0 < id && id < 1000000 }

// written returns the index whose pairs are those of a set.
func written(set map[pair]bool) index.Index {
	under := map[string][]int{}
	for p := range set {
		under[p.s] = append(under[p.s], p.id)
	}
	var x index.Index
	for _, s := range slices.Sorted(maps.Keys(under)) {
		slices.Sort(under[s])
		x.Keys, x.Ids = append(x.Keys, s), append(x.Ids, under[s])
	}
	return x
}

// read is the definition of a valid index: it is the one that is written of its pairs, each of which can be one. It returns the pairs, and what Check returns.
func read(x index.Index) (map[pair]bool, api.Errno) {
	set := map[pair]bool{}
	if len(x.Keys) != len(x.Ids) {
		return nil, api.ErrStore
	}
	for i, s := range x.Keys {
		for _, id := range x.Ids[i] {
			set[pair{s, id}] = true
		}
	}
	for p := range set {
		if !isSerial(p.s) || !isId(p.id) {
			return nil, api.ErrStore
		}
	}
	if len(set) > mostPairs || !same(x, written(set)) {
		return nil, api.ErrStore
	}
	return set, api.OK
}

// same reports whether two indexes have the same keys with the same ids; a list of none can be nil or empty.
func same(x, y index.Index) bool {
	return slices.Equal(x.Keys, y.Keys) && slices.EqualFunc(x.Ids, y.Ids, slices.Equal[[]int])
}

func copied(x index.Index) index.Index {
	y := index.Index{Keys: slices.Clone(x.Keys), Ids: slices.Clone(x.Ids)}
	for i, ids := range y.Ids {
		y.Ids[i] = slices.Clone(ids)
	}
	return y
}

// idsOf is the definition of Of.
func idsOf(set map[pair]bool, s string) []int {
	var ids []int
	for p := range set {
		if p.s == s {
			ids = append(ids, p.id)
		}
	}
	slices.Sort(ids)
	return ids
}

// serialsOf is the definition of Under.
func serialsOf(set map[pair]bool, id int) []string {
	var l []string
	for p := range set {
		if p.id == id {
			l = append(l, p.s)
		}
	}
	slices.Sort(l)
	return l
}

// added is the definition of Add: the pairs are added one by one.
func added(x index.Index, s string, ids ...int) (index.Index, api.Errno) {
	set, e := read(x)
	if e != api.OK {
		return index.Index{}, e
	}
	if !isSerial(s) {
		return index.Index{}, api.ErrSerial
	}
	for _, id := range ids {
		if !isId(id) {
			return index.Index{}, api.ErrId
		}
		if set[pair{s, id}] {
			return index.Index{}, api.ErrDup
		}
		if len(set) == mostPairs {
			return index.Index{}, api.ErrLimit
		}
		set[pair{s, id}] = true
	}
	return written(set), api.OK
}

// dropped is the definition of Drop.
func dropped(x index.Index, s string, id int) (index.Index, api.Errno) {
	set, e := read(x)
	if e != api.OK {
		return index.Index{}, e
	}
	if !set[pair{s, id}] {
		return index.Index{}, api.ErrId
	}
	delete(set, pair{s, id})
	return written(set), api.OK
}

// show returns what a message tells of an index or a list, which may be long.
func show(x any) string {
	s := fmt.Sprintf("%#v", x)
	s = strings.ReplaceAll(s, "index.Index", "")
	if len(s) > 400 {
		s = fmt.Sprintf("%s .. %s (%d bytes)", s[:200], s[len(s)-200:], len(s))
	}
	return s
}

// compare compares Check and Count, Of of some serials, and Under of some ids, with their definitions.
func compare(t *testing.T, x index.Index, soughtSerials []string, soughtIds []int) {
	t.Helper()
	before := copied(x)
	set, want := read(before)
	if e := index.Check(x); e != want {
		t.Errorf("Check(%s) = %d, want %d", show(x), int(e), int(want))
	}
	if n := index.Count(x); n != len(set) {
		t.Errorf("Count(%s) = %d, want %d", show(x), n, len(set))
	}
	for _, s := range soughtSerials {
		if got, want := index.Of(x, s), idsOf(set, s); !slices.Equal(got, want) {
			t.Errorf("Of(%s, %q) = %s, want %s", show(x), s, show(got), show(want))
		}
	}
	for _, id := range soughtIds {
		if got, want := index.Under(x, id), serialsOf(set, id); !slices.Equal(got, want) {
			t.Errorf("Under(%s, %d) = %s, want %s", show(x), id, show(got), show(want))
		}
	}
	if !same(x, before) {
		t.Fatalf("%s has been changed into %s", show(before), show(x))
	}
}

// compareAll compares Check, Count, Of and Under with their definitions, of all that is in an index, of what is close to it, and of much else.
func compareAll(t *testing.T, x index.Index) {
	t.Helper()
	soughtSerials, soughtIds := slices.Concat(serials, others), append([]int{1, 2, 3, mostId - 1, mostId}, outside...)
	for _, s := range x.Keys {
		soughtSerials = append(soughtSerials, s, strings.ToLower(s), s+"0", s+"-", "-"+s, s+"\x00", s[:len(s)/2])
	}
	for _, ids := range x.Ids {
		for _, id := range ids {
			soughtIds = append(soughtIds, id, id-1, id+1, -id)
		}
	}
	slices.Sort(soughtSerials)
	slices.Sort(soughtIds)
	compare(t, x, slices.Compact(soughtSerials), slices.Compact(soughtIds))
}

// compareAdd compares Add with its definition, and returns the index.
func compareAdd(t *testing.T, x index.Index, s string, ids ...int) index.Index {
	t.Helper()
	before, idsBefore := copied(x), slices.Clone(ids)
	want, code := added(before, s, idsBefore...)
	got, e := index.Add(x, s, ids...)
	if !same(got, want) || e != code {
		t.Fatalf("Add(%s, %q, %s) = %s, %d, want %s, %d", show(x), s, show(ids), show(got), int(e), show(want), int(code))
	}
	if !same(x, before) || !slices.Equal(ids, idsBefore) {
		t.Fatalf("Add has changed %s, %s into %s, %s", show(before), show(idsBefore), show(x), show(ids))
	}
	return got
}

// compareDrop compares Drop with its definition, and returns the index.
func compareDrop(t *testing.T, x index.Index, s string, id int) index.Index {
	t.Helper()
	before := copied(x)
	want, code := dropped(before, s, id)
	got, e := index.Drop(x, s, id)
	if !same(got, want) || e != code {
		t.Fatalf("Drop(%s, %q, %d) = %s, %d, want %s, %d", show(x), s, id, show(got), int(e), show(want), int(code))
	}
	if !same(x, before) {
		t.Fatalf("Drop has changed %s into %s", show(before), show(x))
	}
	return got
}

// made returns the index of some keys, separated by spaces, and their ids.
func made(keys string, ids ...[]int) index.Index {
	return index.Index{Keys: strings.Fields(keys), Ids: ids}
}

// key returns the serial with a number; greater numbers have greater serials.
func key(n int) string { return fmt.Sprintf("K-%06d", n) }

// numbered returns the ids from a number on.
func numbered(from, n int) []int {
	ids := make([]int, n)
	for i := range ids {
		ids[i] = from + i
	}
	return ids
}

// wide returns an index of some keys, each with as many ids as are given for it.
func wide(counts ...int) index.Index {
	var x index.Index
	for i, n := range counts {
		x.Keys, x.Ids = append(x.Keys, key(10*i+10)), append(x.Ids, numbered(10*i+10, n))
	}
	return x
}

// full returns indexes that have n pairs, 1999 or more: under one key, under some, under many, with one key less than pairs, and with a key for each.
func full(n int) []index.Index {
	return []index.Index{
		wide(n),
		wide(1, n-1),
		wide(n-1, 1),
		wide(n/2, n-n/2),
		wide(append(slices.Repeat([]int{100}, 19), n-1900)...),
		wide(append([]int{n - 1990}, slices.Repeat([]int{10}, 199)...)...),
		wide(append(slices.Repeat([]int{1}, 1998), n-1998)...),
		wide(append([]int{2}, slices.Repeat([]int{1}, n-2)...)...),
		wide(slices.Repeat([]int{1}, n)...),
	}
}

// valid are valid indexes: with one key and with many, with one id and with many.
var valid = []index.Index{
	{},
	made("A", []int{1}),
	made("A", []int{mostId}),
	made("B", []int{1, 3}),
	made("M", []int{2, 5, 9, 10, 11, 500, mostId}),
	made("A B", []int{1}, []int{1}),
	made("A B", []int{2, 4}, []int{1, 2, 3, mostId}),
	made("0 A-B Z", []int{7}, []int{mostId - 1, mostId}, []int{1, 2}),
	made("A A-1 A0 AA AB-12 ZZZZZZZZZZZZZZZZ", []int{1, 2}, []int{2, 3}, []int{1, 3}, []int{1, 2, 3}, []int{5}, []int{1, 5, mostId}),
}

func TestIndexIsATypeOfItsOwn(t *testing.T) {
	if name := reflect.TypeFor[index.Index]().Name(); name != "Index" {
		t.Errorf("the type is %q", name)
	}
}

// The definitions agree with the words where they are plain.
func TestTheDefinitions(t *testing.T) {
	for _, s := range serials {
		if !isSerial(s) {
			t.Errorf("%q is a serial", s)
		}
	}
	for _, s := range others {
		if isSerial(s) {
			t.Errorf("%q is no serial", s)
		}
	}
	if !slices.IsSorted(serials) || len(slices.Compact(slices.Clone(serials))) != len(serials) {
		t.Error("the serials are not sorted")
	}
	for _, x := range valid {
		if set, e := read(x); e != api.OK || !same(written(set), x) {
			t.Errorf("%s is valid", show(x))
		}
	}
}

// The examples.

func TestTheExampleOfAdd(t *testing.T) {
	x, e := index.Add(index.Index{}, "B", 3, 1)
	if e != api.OK {
		t.Fatal(int(e))
	}
	if got := index.Of(x, "B"); !slices.Equal(got, []int{1, 3}) {
		t.Errorf("after Add of B with 3 and 1 to an empty index, Of returns %v", got)
	}
}

func TestTheExampleOfTheChapter(t *testing.T) {
	x, e := index.Add(index.Index{}, "A", 3, 1)
	if e != api.OK {
		t.Fatal(int(e))
	}
	if got := index.Of(x, "A"); !slices.Equal(got, []int{1, 3}) {
		t.Errorf("after Add of A under 3 and 1, Of returns %v", got)
	}
}

// P14.1: Check, of indexes that are valid.

func TestTheEmptyIndex(t *testing.T) {
	for _, x := range []index.Index{{}, {Keys: []string{}}, {Ids: [][]int{}}, {Keys: []string{}, Ids: [][]int{}}, {Keys: make([]string, 0, 5), Ids: make([][]int, 0, 5)}} {
		if e := index.Check(x); e != api.OK {
			t.Errorf("the empty index gives %d", int(e))
		}
		compareAll(t, x)
	}
}

func TestIndexesThatAreValid(t *testing.T) {
	for _, x := range valid {
		if e := index.Check(x); e != api.OK {
			t.Errorf("%s gives %d", show(x), int(e))
		}
		compareAll(t, x)
	}
	all := index.Index{Keys: serials}
	for i := range serials {
		all.Ids = append(all.Ids, numbered(i+1, i+1))
		compareAll(t, index.Index{Keys: []string{serials[i]}, Ids: [][]int{{i + 1}}})
	}
	compareAll(t, all)
	if e := index.Check(all); e != api.OK {
		t.Errorf("all serials give %d", int(e))
	}
}

func TestEachSingleIdAndText(t *testing.T) {
	for _, id := range append([]int{1, 2, 7, 1000, mostId - 1, mostId}, outside...) {
		want := api.ErrStore
		if 1 <= id && id <= 999999 {
			want = api.OK
		}
		if e := index.Check(made("A", []int{id})); e != want {
			t.Errorf("the id %d gives %d, want %d", id, int(e), int(want))
		}
	}
	for _, s := range serials {
		if e := index.Check(index.Index{Keys: []string{s}, Ids: [][]int{{1}}}); e != api.OK {
			t.Errorf("the serial %q gives %d", s, int(e))
		}
	}
	for _, s := range others {
		if e := index.Check(index.Index{Keys: []string{s}, Ids: [][]int{{1}}}); e != api.ErrStore {
			t.Errorf("the text %q gives %d", s, int(e))
		}
	}
}

func TestTheMostPairs(t *testing.T) {
	for _, n := range []int{1999, 2000} {
		for i, x := range full(n) {
			if e, count := index.Check(x), index.Count(x); e != api.OK || count != n {
				t.Errorf("%d: %d pairs give %d, and are %d", i, n, int(e), count)
			}
			last := len(x.Keys) - 1
			compare(t, x, []string{x.Keys[0], x.Keys[last/2], x.Keys[last], "A"}, []int{1, 10, 11, 1000, 10*last + 10, mostId})
		}
	}
	for _, n := range []int{2001, 2002, 3000, 4001} {
		for i, x := range full(n) {
			if e, count := index.Check(x), index.Count(x); e != api.ErrStore || count != 0 {
				t.Errorf("%d: %d pairs give %d, and are %d", i, n, int(e), count)
			}
			compare(t, x, []string{x.Keys[0], x.Keys[len(x.Keys)-1], "A"}, []int{1, 10, 11, mostId})
		}
	}
	if e := index.Check(wide(slices.Repeat([]int{2000}, 2000)...)); e != api.ErrStore {
		t.Errorf("4000000 pairs give %d", int(e))
	}
	if e := index.Check(index.Index{Keys: []string{"A"}, Ids: [][]int{numbered(1, mostId)}}); e != api.ErrStore {
		t.Errorf("all ids give %d", int(e))
	}
}

// Each of 2000 keys and of 2000 ids is found.
func TestEachPairOfAFullIndex(t *testing.T) {
	deep, broad := wide(2000), wide(slices.Repeat([]int{1}, 2000)...)
	if got := index.Of(deep, key(10)); !slices.Equal(got, numbered(10, 2000)) {
		t.Errorf("Of returns %s", show(got))
	}
	for i := 0; i < 2000; i += 37 {
		if got := index.Under(deep, 10+i); !slices.Equal(got, []string{key(10)}) {
			t.Errorf("Under of %d returns %s", 10+i, show(got))
		}
		if got := index.Of(broad, key(10*i+10)); !slices.Equal(got, []int{10*i + 10}) {
			t.Errorf("Of of key %d returns %s", i, show(got))
		}
	}
	for i := range broad.Ids {
		broad.Ids[i] = []int{7}
	}
	if got := index.Under(broad, 7); !slices.Equal(got, broad.Keys) {
		t.Errorf("Under returns %s", show(got))
	}
}

// P14.1: Check, of indexes that are not valid.

// fault makes a valid index one that is not, at a place of its keys.
type fault struct {
	name string
	make func(x *index.Index, at int)
}

func keyFaults() []fault {
	all := []fault{
		{"a key that repeats the one before it", func(x *index.Index, at int) { x.Keys[at] = x.Keys[max(0, at-1)] }},
		{"a key that repeats the first one", func(x *index.Index, at int) { x.Keys[at] = x.Keys[0] }},
		{"a key that repeats the last one", func(x *index.Index, at int) { x.Keys[at] = x.Keys[len(x.Keys)-1] }},
		{"a key less than all", func(x *index.Index, at int) { x.Keys[at] = "0" }},
		{"a key greater than all", func(x *index.Index, at int) { x.Keys[at] = "ZZ" }},
		{"two keys exchanged", func(x *index.Index, at int) {
			x.Keys[at], x.Keys[len(x.Keys)-1-at] = x.Keys[len(x.Keys)-1-at], x.Keys[at]
		}},
		{"all keys the other way round", func(x *index.Index, at int) { slices.Reverse(x.Keys) }},
	}
	for _, s := range others {
		all = append(all, fault{fmt.Sprintf("the text %.20q", s), func(x *index.Index, at int) { x.Keys[at] = s }})
	}
	return all
}

func lengthFaults() []fault {
	return []fault{
		{"one key less", func(x *index.Index, at int) { x.Keys = slices.Delete(x.Keys, at, at+1) }},
		{"no key", func(x *index.Index, at int) { x.Keys = nil }},
		{"no key, but a list", func(x *index.Index, at int) { x.Keys = []string{} }},
		{"one key more", func(x *index.Index, at int) { x.Keys = append(x.Keys, "ZZZ") }},
		{"many keys more", func(x *index.Index, at int) {
			for i := range 500 {
				x.Keys = append(x.Keys, fmt.Sprintf("ZZZ-%04d", i))
			}
		}},
		{"one list less", func(x *index.Index, at int) { x.Ids = slices.Delete(x.Ids, at, at+1) }},
		{"no lists", func(x *index.Index, at int) { x.Ids = nil }},
		{"no lists, but a list of them", func(x *index.Index, at int) { x.Ids = [][]int{} }},
		{"one list more", func(x *index.Index, at int) { x.Ids = append(x.Ids, []int{1}) }},
		{"one list of none more", func(x *index.Index, at int) { x.Ids = append(x.Ids, nil) }},
		{"many lists more", func(x *index.Index, at int) { x.Ids = append(x.Ids, slices.Repeat([][]int{{1}}, 500)...) }},
		{"many lists of none more", func(x *index.Index, at int) { x.Ids = append(x.Ids, make([][]int, 5000)...) }},
	}
}

func idFaults() []fault {
	all := []fault{
		{"a nil list", func(x *index.Index, at int) { x.Ids[at] = nil }},
		{"an empty list", func(x *index.Index, at int) { x.Ids[at] = []int{} }},
		{"an empty list with room", func(x *index.Index, at int) { x.Ids[at] = x.Ids[at][:0] }},
		{"an id twice", func(x *index.Index, at int) { x.Ids[at] = []int{5, 5} }},
		{"the last id twice", func(x *index.Index, at int) { x.Ids[at] = append(x.Ids[at], x.Ids[at][len(x.Ids[at])-1]) }},
		{"the first id twice", func(x *index.Index, at int) { x.Ids[at] = append(x.Ids[at][:1:1], x.Ids[at]...) }},
		{"ids that fall", func(x *index.Index, at int) { x.Ids[at] = []int{6, 5} }},
		{"ids that rise and fall", func(x *index.Index, at int) { x.Ids[at] = []int{5, 9, 8} }},
		{"an id behind the greatest one", func(x *index.Index, at int) { x.Ids[at] = []int{mostId, 1} }},
		{"too many ids", func(x *index.Index, at int) { x.Ids[at] = numbered(1, 2001) }},
	}
	for _, id := range outside {
		name := fmt.Sprintf("the id %d", id)
		all = append(all,
			fault{name + " alone", func(x *index.Index, at int) { x.Ids[at] = []int{id} }},
			fault{name + " in front", func(x *index.Index, at int) { x.Ids[at] = append([]int{id}, x.Ids[at]...) }},
			fault{name + " at the end", func(x *index.Index, at int) { x.Ids[at] = append(x.Ids[at], id) }},
			fault{name + " between", func(x *index.Index, at int) { x.Ids[at] = []int{1, id, mostId} }})
	}
	return all
}

// faulty are valid indexes of which faults make others; each fault has an effect at each of their places but the first one, some also there.
var faulty = []index.Index{
	made("A B", []int{1}, []int{1}),
	made("A-1 B C-3", []int{1, 2}, []int{3, mostId - 1}, []int{1, 2, 3}),
	made("A0 AB-12 M M-1 M0", []int{4}, []int{5, 6, 7, 8}, []int{9}, []int{1, 2}, []int{mostId - 1}),
}

// rejected asserts that an index is not valid, and what all calls return of it.
func rejected(t *testing.T, x index.Index, name string) {
	t.Helper()
	before := copied(x)
	if e := index.Check(x); e != api.ErrStore {
		t.Fatalf("%s: Check(%s) = %d", name, show(x), int(e))
	}
	if n := index.Count(x); n != 0 {
		t.Errorf("%s: Count(%s) = %d", name, show(x), n)
	}
	for _, s := range append([]string{"A", "", "a"}, x.Keys[:min(len(x.Keys), 9)]...) {
		if ids := index.Of(x, s); len(ids) != 0 {
			t.Errorf("%s: Of(%s, %q) = %s", name, show(x), s, show(ids))
		}
		for _, ids := range [][]int{nil, {1}, {0}, {7, 7}, {5, -1}} {
			if y, e := index.Add(x, s, ids...); e != api.ErrStore || !same(y, index.Index{}) {
				t.Errorf("%s: Add(%s, %q, %v) = %s, %d", name, show(x), s, ids, show(y), int(e))
			}
		}
		for _, id := range []int{1, 5, 9, 0, mostId, math.MinInt} {
			if y, e := index.Drop(x, s, id); e != api.ErrStore || !same(y, index.Index{}) {
				t.Errorf("%s: Drop(%s, %q, %d) = %s, %d", name, show(x), s, id, show(y), int(e))
			}
		}
	}
	for _, id := range append([]int{1, 2, 5, mostId}, outside...) {
		if l := index.Under(x, id); len(l) != 0 {
			t.Errorf("%s: Under(%s, %d) = %s", name, show(x), id, show(l))
		}
	}
	if !same(x, before) {
		t.Fatalf("%s: %s has been changed into %s", name, show(before), show(x))
	}
}

func TestEachFaultAlone(t *testing.T) {
	found := map[string]int{}
	for _, base := range faulty {
		for at := range base.Keys {
			for _, f := range slices.Concat(keyFaults(), lengthFaults(), idFaults()) {
				x := copied(base)
				f.make(&x, at)
				if _, e := read(x); e == api.OK {
					compareAll(t, x)
					continue
				}
				found[f.name]++
				rejected(t, x, f.name)
			}
		}
	}
	for _, f := range slices.Concat(keyFaults(), lengthFaults(), idFaults()) {
		if found[f.name] < 3 {
			t.Errorf("%s is a fault only %d times", f.name, found[f.name])
		}
	}
}

// A list that is faulty is found at the key where it stands, whatever is at the others.
func TestAFaultyListAtEachPlaceOfMany(t *testing.T) {
	for _, f := range []fault{
		{"a nil list", func(x *index.Index, at int) { x.Ids[at] = nil }},
		{"an id twice", func(x *index.Index, at int) { x.Ids[at] = []int{5, 5} }},
		{"ids that fall", func(x *index.Index, at int) { x.Ids[at] = []int{6, 5} }},
		{"the id 0", func(x *index.Index, at int) { x.Ids[at] = []int{0} }},
		{"the id MaxId+1", func(x *index.Index, at int) { x.Ids[at] = []int{1, mostId + 1} }},
		{"a text", func(x *index.Index, at int) { x.Keys[at] += "-" }},
	} {
		for at := range 60 {
			x := wide(slices.Repeat([]int{3}, 60)...)
			f.make(&x, at)
			if e := index.Check(x); e != api.ErrStore {
				t.Errorf("%s at %d gives %d", f.name, at, int(e))
			}
		}
	}
}

func TestTwoFaultsAtEachTwoPlaces(t *testing.T) {
	all := slices.Concat(keyFaults(), lengthFaults(), idFaults())
	base := faulty[1]
	for i, one := range all {
		for j, two := range all {
			x := copied(base)
			one.make(&x, i%3)
			// The first fault may have left too little for the second one.
			if at := (i + j) % 3; at < len(x.Keys) && at < len(x.Ids) && len(x.Ids[at]) > 0 {
				two.make(&x, at)
			}
			compare(t, x, []string{"A-1", "B", "C-3", "ZZZ", ""}, []int{1, 3, 5, mostId, 0})
			if _, e := read(x); e != api.OK && j%7 == 0 {
				rejected(t, x, one.name+" and "+two.name)
			}
		}
	}
}

// lists calls f with each list of up to n of some elements.
func lists[T any](n int, elements []T, f func(l []T)) {
	f(nil)
	if n == 0 {
		return
	}
	for _, x := range elements {
		lists(n-1, elements, func(l []T) { f(append([]T{x}, l...)) })
	}
}

func TestEachSmallIndex(t *testing.T) {
	var idLists [][]int
	lists(2, []int{0, 1, 2, mostId, mostId + 1}, func(ids []int) { idLists = append(idLists, ids) })
	count := 0
	lists(2, []string{"A", "B", "a", ""}, func(keys []string) {
		lists(2, idLists, func(ids [][]int) {
			x := index.Index{Keys: keys, Ids: ids}
			compare(t, x, []string{"A", "B", "a", ""}, []int{0, 1, 2, mostId, mostId + 1})
			if _, e := read(x); e == api.OK {
				count++
			}
		})
	})
	if count != 1+2*6+36 {
		t.Errorf("%d of the small indexes are valid", count)
	}
}

// P14.1: Of, Count and Under.

func TestOfAndUnder(t *testing.T) {
	x := made("A A-1 B", []int{1, 3}, []int{3}, []int{2, 3, mostId})
	if n := index.Count(x); n != 6 {
		t.Errorf("there are %d pairs", n)
	}
	for _, c := range []struct {
		s    string
		want []int
	}{
		{"A", []int{1, 3}}, {"A-1", []int{3}}, {"B", []int{2, 3, mostId}},
		{"0", nil}, {"A0", nil}, {"C", nil}, {"AB", nil}, {"ZZZZZZZZZZZZZZZZ", nil},
		{"", nil}, {"a", nil}, {"b", nil}, {"A-", nil}, {"-", nil}, {"A A-1", nil}, {strings.Repeat("A", 17), nil}, {"\xff", nil},
	} {
		if got := index.Of(x, c.s); !slices.Equal(got, c.want) {
			t.Errorf("Of of %q returns %v, want %v", c.s, got, c.want)
		}
	}
	for _, c := range []struct {
		id   int
		want []string
	}{
		{1, []string{"A"}}, {2, []string{"B"}}, {3, []string{"A", "A-1", "B"}}, {mostId, []string{"B"}},
		{4, nil}, {mostId - 1, nil}, {0, nil}, {-1, nil}, {-3, nil}, {mostId + 1, nil}, {math.MinInt, nil}, {math.MaxInt, nil}, {1<<32 + 3, nil},
	} {
		if got := index.Under(x, c.id); !slices.Equal(got, c.want) {
			t.Errorf("Under of %d returns %q, want %q", c.id, got, c.want)
		}
	}
}

// P14.2: Add.

func TestAdd(t *testing.T) {
	ab := made("A B", []int{2, 4}, []int{3})
	for _, c := range []struct {
		x    index.Index
		s    string
		ids  []int
		want index.Index
		e    api.Errno
	}{
		// To the empty index.
		{index.Index{}, "B", []int{3, 1}, made("B", []int{1, 3}), api.OK},
		{index.Index{}, "B", []int{1}, made("B", []int{1}), api.OK},
		{index.Index{}, "B", []int{mostId}, made("B", []int{mostId}), api.OK},
		{index.Index{}, "B", []int{mostId, 5, 1, 4}, made("B", []int{1, 4, 5, mostId}), api.OK},
		{index.Index{}, "ZZZZZZZZZZZZZZZZ", []int{1, 2}, made("ZZZZZZZZZZZZZZZZ", []int{1, 2}), api.OK},
		{index.Index{Keys: []string{}, Ids: [][]int{}}, "B", []int{3, 1}, made("B", []int{1, 3}), api.OK},
		// No ids.
		{index.Index{}, "B", nil, index.Index{}, api.OK},
		{index.Index{}, "B", []int{}, index.Index{}, api.OK},
		{ab, "A", nil, ab, api.OK},
		{ab, "B", []int{}, ab, api.OK},
		{ab, "C", nil, ab, api.OK},
		{ab, "0", nil, ab, api.OK},
		// To a key that is there.
		{ab, "A", []int{1}, made("A B", []int{1, 2, 4}, []int{3}), api.OK},
		{ab, "A", []int{3}, made("A B", []int{2, 3, 4}, []int{3}), api.OK},
		{ab, "A", []int{5}, made("A B", []int{2, 4, 5}, []int{3}), api.OK},
		{ab, "B", []int{mostId}, made("A B", []int{2, 4}, []int{3, mostId}), api.OK},
		{ab, "B", []int{2, 4}, made("A B", []int{2, 4}, []int{2, 3, 4}), api.OK},
		{ab, "A", []int{9, 1, 3, 8}, made("A B", []int{1, 2, 3, 4, 8, 9}, []int{3}), api.OK},
		// To one that is not: before, between and behind the others.
		{ab, "0", []int{3, 2}, made("0 A B", []int{2, 3}, []int{2, 4}, []int{3}), api.OK},
		{ab, "A-1", []int{3, 2}, made("A A-1 B", []int{2, 4}, []int{2, 3}, []int{3}), api.OK},
		{ab, "AA", []int{7}, made("A AA B", []int{2, 4}, []int{7}, []int{3}), api.OK},
		{ab, "C", []int{3, 2}, made("A B C", []int{2, 4}, []int{3}, []int{2, 3}), api.OK},
		{ab, "B0", []int{1}, made("A B B0", []int{2, 4}, []int{3}, []int{1}), api.OK},
		// Errors.
		{ab, "a", []int{1}, index.Index{}, api.ErrSerial},
		{ab, "", []int{1}, index.Index{}, api.ErrSerial},
		{ab, "", nil, index.Index{}, api.ErrSerial},
		{ab, "A--1", []int{0}, index.Index{}, api.ErrSerial},
		{ab, "A-", []int{2, 2}, index.Index{}, api.ErrSerial},
		{ab, "A", []int{0}, index.Index{}, api.ErrId},
		{ab, "A", []int{-1}, index.Index{}, api.ErrId},
		{ab, "A", []int{mostId + 1}, index.Index{}, api.ErrId},
		{ab, "C", []int{math.MaxInt}, index.Index{}, api.ErrId},
		{ab, "C", []int{1, math.MinInt}, index.Index{}, api.ErrId},
		{ab, "A", []int{2}, index.Index{}, api.ErrDup},
		{ab, "A", []int{4}, index.Index{}, api.ErrDup},
		{ab, "A", []int{1, 4}, index.Index{}, api.ErrDup},
		{ab, "A", []int{3, 1, 3}, index.Index{}, api.ErrDup},
		{ab, "C", []int{7, 7}, index.Index{}, api.ErrDup},
		{ab, "A", []int{3, 2, 0}, index.Index{}, api.ErrDup},
		{ab, "A", []int{3, 0, 2}, index.Index{}, api.ErrId},
		{ab, "A", []int{3, 3, 0}, index.Index{}, api.ErrDup},
		{ab, "A", []int{0, 3, 3}, index.Index{}, api.ErrId},
		{ab, "A", []int{0, 0}, index.Index{}, api.ErrId},
	} {
		got, e := index.Add(c.x, c.s, c.ids...)
		if !same(got, c.want) || e != c.e {
			t.Errorf("Add(%s, %q, %v) = %s, %d, want %s, %d", show(c.x), c.s, c.ids, show(got), int(e), show(c.want), int(c.e))
		}
	}
}

func TestAddToEachIndex(t *testing.T) {
	for _, x := range valid {
		for _, s := range slices.Concat(serials, others) {
			for _, ids := range [][]int{nil, {1}, {2}, {mostId}, {3, 1}, {1, 2, 3}, {9, 8, 7, 6}, {5, 5}, {4, 0}, {0, 4}, {mostId, mostId + 1}, {2, 2, 0}, {mostId - 1, 12, 1000, 11}} {
				y := compareAdd(t, x, s, ids...)
				compare(t, y, []string{s, "A", "M"}, append(ids, 1, 2))
			}
		}
	}
}

// permutations calls f with each order of some ids.
func permutations(ids []int, f func(ids []int)) {
	if len(ids) == 0 {
		f(nil)
		return
	}
	for i, id := range ids {
		permutations(slices.Delete(slices.Clone(ids), i, i+1), func(rest []int) { f(append([]int{id}, rest...)) })
	}
}

func TestIdsInEachOrder(t *testing.T) {
	for _, x := range []index.Index{{}, made("B", []int{20}), made("A B C", []int{1}, []int{15, 45}, []int{10})} {
		for _, s := range []string{"0", "A", "A0", "B", "B0", "C", "D"} {
			permutations([]int{2, 10, 30, 50, mostId}, func(ids []int) {
				if s == "C" {
					ids = slices.DeleteFunc(ids, func(id int) bool { return id == 10 })
				}
				if y := compareAdd(t, x, s, ids...); len(y.Keys) == 0 {
					t.Errorf("Add(%s, %q, %v) returns nothing", show(x), s, ids)
				}
			})
		}
	}
}

func TestEachSmallAdd(t *testing.T) {
	for _, x := range []index.Index{{}, made("A", []int{2}), made("A B", []int{1, 3}, []int{2}), made("A--B", []int{1})} {
		for _, s := range []string{"A", "A0", "B", "a"} {
			lists(4, []int{0, 1, 2, 3, mostId + 1}, func(ids []int) { compareAdd(t, x, s, ids...) })
		}
	}
}

// P14.2: which error of Add counts.

func TestAnIndexCountsBeforeATextAndIds(t *testing.T) {
	bad := made("A", []int{1, 1})
	for _, s := range []string{"A", "B", "", "a", "-"} {
		for _, ids := range [][]int{nil, {1}, {0}, {2}, {7, 7}} {
			if x, e := index.Add(bad, s, ids...); e != api.ErrStore || !same(x, index.Index{}) {
				t.Errorf("Add of %q, %v gives %s, %d", s, ids, show(x), int(e))
			}
		}
	}
	for _, x := range full(2001) {
		for _, s := range []string{x.Keys[0], "A", "a"} {
			if y, e := index.Add(x, s, 1, 0); e != api.ErrStore || !same(y, index.Index{}) {
				t.Errorf("Add of %q gives %s, %d", s, show(y), int(e))
			}
		}
	}
}

func TestATextCountsBeforeIds(t *testing.T) {
	for _, x := range append(full(2000), made("A", []int{1})) {
		for _, s := range others {
			for _, ids := range [][]int{nil, {1}, {0}, {2}, {7, 7}, {mostId + 1, 5}} {
				if y, e := index.Add(x, s, ids...); e != api.ErrSerial || !same(y, index.Index{}) {
					t.Fatalf("Add of %q, %v gives %s, %d", s, ids, show(y), int(e))
				}
			}
		}
	}
}

func TestAWrongIdAtEachPlace(t *testing.T) {
	x := made("A B C", []int{50}, []int{55, 75}, []int{mostId})
	good := []int{30, 90, 10, 70, 20, 60}
	for at := range good {
		for _, id := range outside {
			ids := slices.Clone(good)
			ids[at] = id
			for _, s := range []string{"A", "B", "B0"} {
				if y, e := index.Add(x, s, ids...); e != api.ErrId || !same(y, index.Index{}) {
					t.Errorf("Add of %q, %v gives %s, %d", s, ids, show(y), int(e))
				}
			}
		}
		for _, c := range []pair{{"A", 50}, {"B", 55}, {"B", 75}, {"C", mostId}} {
			ids := slices.Clone(good)
			ids[at] = c.id
			if y, e := index.Add(x, c.s, ids...); e != api.ErrDup || !same(y, index.Index{}) {
				t.Errorf("Add of %q, %v gives %s, %d", c.s, ids, show(y), int(e))
			}
			if _, e := index.Add(x, "A-1", ids...); e != api.OK {
				t.Errorf("Add of A-1, %v gives %d", ids, int(e))
			}
		}
		for other := range at {
			ids := slices.Clone(good)
			ids[at] = ids[other]
			for _, s := range []string{"A", "B", "B0"} {
				if y, e := index.Add(x, s, ids...); e != api.ErrDup || !same(y, index.Index{}) {
					t.Errorf("Add of %q, %v gives %s, %d", s, ids, show(y), int(e))
				}
			}
		}
	}
}

func TestTwoWrongIdsAtEachTwoPlaces(t *testing.T) {
	x := made("A B", []int{50, 80}, []int{55})
	wrong := append([]int{50, 80, 30, 10}, outside...)
	for i := range 5 {
		for j := range 5 {
			for _, one := range wrong {
				for _, two := range wrong {
					ids := []int{30, 90, 10, 70, 20}
					ids[i], ids[j] = one, two
					compareAdd(t, x, "A", ids...)
					compareAdd(t, x, "C", ids...)
				}
			}
		}
	}
}

// P14.2: the most pairs.

func TestAddUpToTheMostPairs(t *testing.T) {
	for i, x := range full(1999) {
		for _, s := range []string{"A", x.Keys[0], x.Keys[0] + "-0", x.Keys[len(x.Keys)-1], "ZZ"} {
			for _, ids := range [][]int{nil, {5}, {mostId}, {5, 6}, {6, 5, 4}, {5, 5}, {5, 0}, {0, 5}, {5, 10}, {5, 6, 0}, {5, 6, 5}, {10}, {10, 5, 6}} {
				y := compareAdd(t, x, s, ids...)
				if n := index.Count(y); len(ids) == 1 && ids[0] != 10 && n != 2000 {
					t.Errorf("%d: there are %d pairs", i, n)
				}
			}
		}
	}
}

func TestAddToTheMostPairs(t *testing.T) {
	for i, x := range full(2000) {
		first, last := x.Keys[0], x.Keys[len(x.Keys)-1]
		for _, c := range []struct {
			s   string
			ids []int
			e   api.Errno
		}{
			{first, nil, api.OK}, {"A", nil, api.OK}, {"ZZ", nil, api.OK},
			{first, []int{5}, api.ErrLimit}, {last, []int{5}, api.ErrLimit}, {"A", []int{5}, api.ErrLimit}, {"ZZ", []int{mostId}, api.ErrLimit},
			{first, []int{0}, api.ErrId}, {"A", []int{mostId + 1}, api.ErrId}, {"ZZ", []int{-1}, api.ErrId}, {last, []int{math.MaxInt}, api.ErrId},
			{first, []int{10}, api.ErrDup}, {last, []int{10 * len(x.Keys)}, api.ErrDup},
			{first, []int{5, 0}, api.ErrLimit}, {first, []int{5, 5}, api.ErrLimit}, {first, []int{5, 10}, api.ErrLimit},
			{first, []int{0, 5}, api.ErrId}, {first, []int{10, 5}, api.ErrDup}, {first, []int{10, 0}, api.ErrDup},
			{"a", []int{5}, api.ErrSerial}, {"", nil, api.ErrSerial},
		} {
			y, e := index.Add(x, c.s, c.ids...)
			if e != c.e || e != api.OK && !same(y, index.Index{}) || e == api.OK && !same(y, x) {
				t.Errorf("%d: Add of %q, %v gives %s, %d, want %d", i, c.s, c.ids, show(y), int(e), int(c.e))
			}
			compareAdd(t, x, c.s, c.ids...)
		}
	}
}

func TestManyIdsAtOnce(t *testing.T) {
	r := rand.New(rand.NewSource(1402))
	for _, n := range []int{1, 100, 1999, 2000} {
		for _, ids := range [][]int{numbered(1, n), numbered(mostId-n+1, n), r.Perm(n), r.Perm(mostId)[:n]} {
			for i, id := range ids {
				ids[i] = max(1, id)
				if id == 0 {
					ids[i] = mostId
				}
			}
			if x := compareAdd(t, index.Index{}, "A", ids...); index.Count(x) != n {
				t.Errorf("of %d ids there are %d pairs", n, index.Count(x))
			}
			one := made("B", []int{1})
			x, e := index.Add(one, "A", ids...)
			if n < 2000 && (e != api.OK || index.Count(x) != n+1) || n == 2000 && (e != api.ErrLimit || !same(x, index.Index{})) {
				t.Errorf("of %d ids, Add gives %d, and %d pairs", n, int(e), index.Count(x))
			}
		}
	}
	for _, c := range []struct {
		last []int
		e    api.Errno
	}{
		{[]int{2001}, api.ErrLimit}, {[]int{2000}, api.ErrDup}, {[]int{1}, api.ErrDup}, {[]int{0}, api.ErrId}, {[]int{mostId + 1}, api.ErrId},
		{[]int{2001, 0}, api.ErrLimit}, {[]int{1, 2001}, api.ErrDup}, {[]int{0, 2001}, api.ErrId}, {numbered(2001, 100000), api.ErrLimit},
	} {
		if x, e := index.Add(index.Index{}, "A", append(numbered(1, 2000), c.last...)...); e != c.e || !same(x, index.Index{}) {
			t.Errorf("of %s behind 2000 ids, Add gives %s, %d, want %d", show(c.last), show(x), int(e), int(c.e))
		}
	}
}

// P14.3: Drop.

func TestDrop(t *testing.T) {
	abc := made("A B C", []int{2, 4, 6}, []int{3}, []int{1, mostId})
	for _, c := range []struct {
		x    index.Index
		s    string
		id   int
		want index.Index
		e    api.Errno
	}{
		{abc, "A", 2, made("A B C", []int{4, 6}, []int{3}, []int{1, mostId}), api.OK},
		{abc, "A", 4, made("A B C", []int{2, 6}, []int{3}, []int{1, mostId}), api.OK},
		{abc, "A", 6, made("A B C", []int{2, 4}, []int{3}, []int{1, mostId}), api.OK},
		{abc, "B", 3, made("A C", []int{2, 4, 6}, []int{1, mostId}), api.OK},
		{abc, "C", 1, made("A B C", []int{2, 4, 6}, []int{3}, []int{mostId}), api.OK},
		{abc, "C", mostId, made("A B C", []int{2, 4, 6}, []int{3}, []int{1}), api.OK},
		{made("A B", []int{1}, []int{1, 2}), "A", 1, made("B", []int{1, 2}), api.OK},
		{made("A B", []int{1, 2}, []int{1}), "B", 1, made("A", []int{1, 2}), api.OK},
		{made("A", []int{1}), "A", 1, index.Index{}, api.OK},
		{made("A", []int{mostId}), "A", mostId, index.Index{}, api.OK},
		// Errors.
		{index.Index{}, "A", 1, index.Index{}, api.ErrId},
		{index.Index{}, "", 0, index.Index{}, api.ErrId},
		{abc, "A", 1, index.Index{}, api.ErrId},
		{abc, "A", 3, index.Index{}, api.ErrId},
		{abc, "A", 5, index.Index{}, api.ErrId},
		{abc, "A", 7, index.Index{}, api.ErrId},
		{abc, "A", 0, index.Index{}, api.ErrId},
		{abc, "A", -2, index.Index{}, api.ErrId},
		{abc, "A", mostId + 1, index.Index{}, api.ErrId},
		{abc, "A", math.MinInt, index.Index{}, api.ErrId},
		{abc, "A", math.MaxInt, index.Index{}, api.ErrId},
		{abc, "A", 1<<32 + 2, index.Index{}, api.ErrId},
		{abc, "0", 2, index.Index{}, api.ErrId},
		{abc, "A-1", 2, index.Index{}, api.ErrId},
		{abc, "D", 1, index.Index{}, api.ErrId},
		{abc, "a", 2, index.Index{}, api.ErrId},
		{abc, "", 2, index.Index{}, api.ErrId},
		{abc, "A-", 2, index.Index{}, api.ErrId},
		{abc, "-", 0, index.Index{}, api.ErrId},
		{made("A B", []int{1}, []int{0}), "A", 1, index.Index{}, api.ErrStore},
		{made("A B", []int{1}, []int{0}), "A", 2, index.Index{}, api.ErrStore},
		{made("A B", []int{1}), "A", 1, index.Index{}, api.ErrStore},
		{made("B A", []int{1}, []int{1}), "A", 1, index.Index{}, api.ErrStore},
		{made("a", []int{1}), "a", 1, index.Index{}, api.ErrStore},
		{made("a", []int{1}), "", 0, index.Index{}, api.ErrStore},
	} {
		got, e := index.Drop(c.x, c.s, c.id)
		if !same(got, c.want) || e != c.e {
			t.Errorf("Drop(%s, %q, %d) = %s, %d, want %s, %d", show(c.x), c.s, c.id, show(got), int(e), show(c.want), int(c.e))
		}
	}
}

func TestDropOfEachIndex(t *testing.T) {
	for _, x := range valid {
		sought := append([]int{1, 2, 3, 5, mostId - 1, mostId}, outside...)
		for _, s := range slices.Concat(serials, others) {
			for _, id := range append(sought, index.Of(x, s)...) {
				compareDrop(t, x, s, id)
			}
		}
	}
}

// Each pair is dropped, and then each of those that are left, down to the last one of all.
func TestEachPairInEachOrder(t *testing.T) {
	var all func(x index.Index)
	all = func(x index.Index) {
		for i, s := range x.Keys {
			for _, id := range x.Ids[i] {
				all(compareDrop(t, x, s, id))
			}
		}
	}
	for _, x := range []index.Index{
		made("A", []int{1}),
		made("A", []int{1, 2, 3, 5, mostId}),
		made("A B", []int{1, 2}, []int{2}),
		made("A B C", []int{1, 2}, []int{mostId}, []int{2, 7}),
		made("A A-1 A0 AA B", []int{1}, []int{2}, []int{1}, []int{3}, []int{mostId}),
	} {
		all(x)
	}
}

func TestDropOfTheMostPairs(t *testing.T) {
	for i, x := range full(2000) {
		last := len(x.Keys) - 1
		for _, at := range []int{0, last / 2, last} {
			ids := x.Ids[at]
			for _, id := range []int{ids[0], ids[len(ids)/2], ids[len(ids)-1], ids[0] - 1, ids[len(ids)-1] + 1, 0} {
				if y := compareDrop(t, x, x.Keys[at], id); len(y.Keys) > 0 && index.Count(y) != 1999 {
					t.Errorf("%d: there are %d pairs", i, index.Count(y))
				}
			}
		}
	}
	for i, x := range full(2001) {
		if y, e := index.Drop(x, x.Keys[0], 10); e != api.ErrStore || !same(y, index.Index{}) {
			t.Errorf("%d: Drop of one of 2001 pairs gives %s, %d", i, show(y), int(e))
		}
	}
}

// P14.1 to P14.3: what is newly allocated.

// roomy returns a list in memory that has others ahead of it and behind it, and all of that memory.
func roomy[T any](l []T, room int, other T) (list, memory []T) {
	memory = slices.Concat([]T{other, other}, l, slices.Repeat([]T{other}, room))
	return memory[2 : 2+len(l)], memory
}

// given is an index, and the ids that are added to it, as arguments that have room behind their lengths; and the memory of all of them.
type given struct {
	x       index.Index
	ids     []int
	keys    []string
	lists   [][]int
	numbers [][]int
}

func give(x index.Index, room int, ids []int) given {
	var g given
	var memory []int
	inner := make([][]int, len(x.Ids))
	for i, l := range x.Ids {
		inner[i], memory = roomy(l, room, 77)
		g.numbers = append(g.numbers, memory)
	}
	other, memory := roomy([]int{5, 6}, room, 77)
	g.numbers = append(g.numbers, memory)
	g.ids, memory = roomy(ids, room, 77)
	g.numbers = append(g.numbers, memory)
	g.x.Keys, g.keys = roomy(x.Keys, room, "ROOM")
	g.x.Ids, g.lists = roomy(inner, room, other)
	return g
}

// contents returns a copy of all memory of the arguments.
func (g given) contents() given {
	return given{keys: slices.Clone(g.keys), lists: copied(index.Index{Ids: g.lists}).Ids, numbers: copied(index.Index{Ids: g.numbers}).Ids}
}

func (g given) holds(want given) bool {
	return slices.Equal(g.keys, want.keys) && slices.EqualFunc(g.lists, want.lists, slices.Equal[[]int]) && slices.EqualFunc(g.numbers, want.numbers, slices.Equal[[]int])
}

// overwriteList writes a mark to each element of a list, to the memory behind its length, and appends marks to it.
func overwriteList[T any](l []T, mark T) {
	l = l[:cap(l)]
	for i := range l {
		l[i] = mark
	}
	for n := range len(l) + 1 {
		_ = append(l[:n], mark, mark)
	}
}

func overwrite(x index.Index) {
	for _, ids := range x.Ids {
		overwriteList(ids, -5)
	}
	overwriteList(x.Ids, []int{-6})
	overwriteList(x.Keys, "written")
}

// result is what one call returned, as an index: ids as a list of its Ids, serials as its Keys; and what it is to be.
type result struct {
	name      string
	got, want index.Index
}

// results calls all functions that return lists, with serials and ids that are there and with others.
func (g given) results(t *testing.T) []result {
	t.Helper()
	var all []result
	keep := func(name string, x index.Index) {
		all = append(all, result{name, x, copied(x)})
	}
	some := append([]string{"0", "A-X", "ZZZ"}, g.x.Keys...)
	for _, s := range some {
		keep("Of", index.Index{Ids: [][]int{index.Of(g.x, s)}})
		for _, ids := range [][]int{nil, g.ids[:0], g.ids[:1], g.ids} {
			x, e := index.Add(g.x, s, ids...)
			if e != api.OK {
				t.Fatalf("Add(%s, %q, %v) gives %d", show(g.x), s, ids, int(e))
			}
			keep("Add", x)
		}
		for _, id := range index.Of(g.x, s) {
			keep("Under", index.Index{Keys: index.Under(g.x, id)})
			x, e := index.Drop(g.x, s, id)
			if e != api.OK {
				t.Fatalf("Drop(%s, %q, %d) gives %d", show(g.x), s, id, int(e))
			}
			keep("Drop", x)
		}
	}
	return all
}

// apart asserts that results share memory neither with the arguments nor with each other.
func apart(t *testing.T, g given) {
	t.Helper()
	before := g.contents()
	all := append(g.results(t), g.results(t)...)
	if !g.holds(before) {
		t.Fatalf("%s has been changed", show(g.x))
	}
	for i, r := range all {
		overwrite(r.got)
		if !g.holds(before) {
			t.Fatalf("what is written to the result of %s changes its arguments %s", r.name, show(g.x))
		}
		for _, other := range all[i+1:] {
			if !same(other.got, other.want) {
				t.Fatalf("what is written to the result of %s changes that of %s: %s", r.name, other.name, show(other.got))
			}
		}
	}
	again := g.results(t)
	overwriteList(g.keys, "written")
	for _, l := range g.numbers {
		overwriteList(l, -7)
	}
	overwriteList(g.lists, []int{-8})
	for _, r := range again {
		if !same(r.got, r.want) {
			t.Fatalf("what is written to the arguments of %s changes its result %s", r.name, show(r.got))
		}
	}
}

// lying are the indexes whose memory is looked at; none of them has the ids that are added.
var lying = append([]index.Index{made("A B", []int{1}, numbered(101, 40)), wide(slices.Repeat([]int{1}, 12)...)}, valid...)

func TestResultsHaveMemoryOfTheirOwn(t *testing.T) {
	for _, x := range lying {
		for _, room := range []int{0, 1, 2, 9} {
			for _, ids := range [][]int{{12}, {12, 13, 14}, {800, 12, 700, 70000}} {
				apart(t, give(x, room, ids))
			}
		}
	}
}

// inside reports whether a list lies in the memory of another one, also if it has no elements.
func inside[T any](one, other []T) bool {
	size := reflect.TypeFor[T]().Size()
	from, to := reflect.ValueOf(one).Pointer(), reflect.ValueOf(one).Pointer()+max(1, uintptr(cap(one)))*size
	memory := reflect.ValueOf(other).Pointer()
	return cap(other) > 0 && from < memory+uintptr(cap(other))*size && memory < to
}

// insideAny reports whether a list of one index lies in the memory of a list of another one.
func insideAny(one, other index.Index) bool {
	for _, a := range one.Ids {
		for _, b := range other.Ids {
			if inside(a, b) {
				return true
			}
		}
	}
	return inside(one.Keys, other.Keys) || inside(one.Ids, other.Ids)
}

func TestNoListLiesInAnother(t *testing.T) {
	for _, x := range lying {
		g := give(x, 3, []int{12, 13, 700})
		whole := index.Index{Keys: g.keys, Ids: append(slices.Clone(g.lists), g.numbers...)}
		all := g.results(t)
		for i, r := range all {
			if insideAny(r.got, whole) || inside(r.got.Ids, g.lists) || insideAny(r.got, x) {
				t.Fatalf("the result %s of %s lies in its arguments", show(r.got), r.name)
			}
			for j, one := range r.got.Ids {
				for _, two := range r.got.Ids[:j] {
					if inside(one, two) {
						t.Fatalf("two lists of the result %s of %s share memory", show(r.got), r.name)
					}
				}
			}
			for _, other := range all[:i] {
				if insideAny(r.got, other.got) {
					t.Fatalf("the result %s of %s lies in that of %s", show(r.got), r.name, other.name)
				}
			}
		}
	}
	empty := index.Index{Keys: make([]string, 0, 5), Ids: make([][]int, 0, 5)}
	for _, ids := range [][]int{nil, {1}} {
		if x, _ := index.Add(empty, "A", ids...); insideAny(x, empty) {
			t.Errorf("the result of Add of %v lies in the empty index", ids)
		}
	}
}

// Lists that share memory in the argument do not in a result.
func TestListsOfAnArgumentThatAreOne(t *testing.T) {
	one := []int{1, 2, 3, 4}
	x := made("A B C D", one, one, one[:2], one[2:])
	for _, f := range []func() (index.Index, api.Errno){
		func() (index.Index, api.Errno) { return index.Add(x, "A") },
		func() (index.Index, api.Errno) { return index.Add(x, "E") },
		func() (index.Index, api.Errno) { return index.Add(x, "A", one[3]+1) },
		func() (index.Index, api.Errno) { return index.Add(x, "E", one...) },
		func() (index.Index, api.Errno) { return index.Add(x, "C", one[2:]...) },
		func() (index.Index, api.Errno) { return index.Drop(x, "B", 2) },
		func() (index.Index, api.Errno) { return index.Drop(x, "D", 3) },
	} {
		y, e := f()
		want := copied(y)
		if e != api.OK {
			t.Fatal(int(e))
		}
		for i, ids := range y.Ids {
			overwriteList(ids, -5)
			want.Ids[i] = slices.Repeat([]int{-5}, len(ids))
			if !same(y, want) {
				t.Fatalf("what is written to list %d changes another one: %s, want %s", i, show(y), show(want))
			}
		}
		if !slices.Equal(one, []int{1, 2, 3, 4}) {
			t.Fatalf("the argument is %v", one)
		}
	}
}

// Step by step: what is appended to a result, and given to a call again, is not lost to a later call.
func TestResultsAreArgumentsAgain(t *testing.T) {
	one, _ := index.Add(index.Index{}, "B", 3)
	two, _ := index.Add(one, "B", 4)
	three, _ := index.Add(one, "B", 5)
	four, _ := index.Add(two, "C", 1)
	five, _ := index.Add(two, "A", 2)
	six, _ := index.Drop(four, "B", 3)
	seven, _ := index.Drop(four, "C", 1)
	none, _ := index.Drop(one, "B", 3)
	eight, _ := index.Add(none, "Z", 9)
	for i, c := range []struct{ got, want index.Index }{
		{one, made("B", []int{3})}, {two, made("B", []int{3, 4})}, {three, made("B", []int{3, 5})},
		{four, made("B C", []int{3, 4}, []int{1})}, {five, made("A B", []int{2}, []int{3, 4})},
		{six, made("B C", []int{4}, []int{1})}, {seven, two}, {none, index.Index{}}, {eight, made("Z", []int{9})},
	} {
		if !same(c.got, c.want) {
			t.Errorf("%d: %s, want %s", i, show(c.got), show(c.want))
		}
	}
}

// P14.4 and P14.5: over drawn indexes.

// drawnSerial returns a serial: one of few, or one of many.
func drawnSerial(r *rand.Rand) string {
	if r.Intn(2) == 0 {
		return serials[r.Intn(len(serials))]
	}
	const runes = "019ABMZ-"
	b := make([]byte, 1+r.Intn(16))
	for i := range b {
		n := len(runes)
		if i == 0 || i == len(b)-1 || b[i-1] == '-' {
			n--
		}
		b[i] = runes[r.Intn(n)]
	}
	return string(b)
}

// drawnId returns an id: one of few, one close to the greatest one, or any.
func drawnId(r *rand.Rand) int {
	switch r.Intn(3) {
	case 0:
		return mostId - r.Intn(20)
	case 1:
		return 1 + r.Intn(mostId)
	}
	return 1 + r.Intn(20)
}

// drawnSet returns up to n pairs of some serials.
func drawnSet(r *rand.Rand, n int) map[pair]bool {
	some := make([]string, 1+r.Intn(max(1, n)))
	for i := range some {
		some[i] = drawnSerial(r)
	}
	set := map[pair]bool{}
	for range n {
		set[pair{some[r.Intn(len(some))], drawnId(r)}] = true
	}
	return set
}

// shuffled returns the pairs of a set in a drawn order.
func shuffled(r *rand.Rand, set map[pair]bool) []pair {
	all := slices.SortedFunc(maps.Keys(set), func(a, b pair) int {
		if a.s != b.s {
			return strings.Compare(a.s, b.s)
		}
		return a.id - b.id
	})
	r.Shuffle(len(all), func(i, j int) { all[i], all[j] = all[j], all[i] })
	return all
}

// turns asserts that Drop reverses Add of a pair that is not there, and Add reverses Drop of one that is.
func turns(t *testing.T, x index.Index, p pair) {
	t.Helper()
	there := slices.Contains(index.Of(x, p.s), p.id)
	add := func(x index.Index) (index.Index, api.Errno) { return index.Add(x, p.s, p.id) }
	drop := func(x index.Index) (index.Index, api.Errno) { return index.Drop(x, p.s, p.id) }
	forth, back, change := add, drop, 1
	if there {
		forth, back, change = drop, add, -1
	}
	y, e := forth(x)
	if e != api.OK || index.Count(y) != index.Count(x)+change || slices.Contains(index.Of(y, p.s), p.id) == there {
		t.Fatalf("of %s and %v, there is %s, %d", show(x), p, show(y), int(e))
	}
	if z, e := back(y); e != api.OK || !same(z, x) {
		t.Fatalf("of %s and %v, there is %s, %d, want %s", show(y), p, show(z), int(e), show(x))
	}
	if _, e := back(x); e == api.OK {
		t.Errorf("of %s, %v is changed twice", show(x), p)
	}
}

func TestDropReversesAdd(t *testing.T) {
	for _, x := range valid {
		for _, s := range serials {
			for _, id := range []int{1, 2, 3, 4, 5, 6, 9, 12, 500, mostId - 2, mostId - 1, mostId} {
				turns(t, x, pair{s, id})
			}
		}
	}
	r := rand.New(rand.NewSource(14041))
	for range 300 {
		set := drawnSet(r, r.Intn(60))
		x := written(set)
		for _, p := range shuffled(r, set)[:min(len(set), 8)] {
			turns(t, x, p)
			turns(t, x, pair{p.s, drawnId(r)})
			turns(t, x, pair{drawnSerial(r), p.id})
		}
		turns(t, x, pair{drawnSerial(r), drawnId(r)})
	}
	for _, x := range full(1999) {
		turns(t, x, pair{"A", 1})
		turns(t, x, pair{x.Keys[0], 5})
		turns(t, x, pair{x.Keys[0], 10})
	}
}

// Drop reverses Add of many ids, in any order.
func TestDropReversesAddOfManyIds(t *testing.T) {
	r := rand.New(rand.NewSource(14042))
	for range 200 {
		x, s := written(drawnSet(r, r.Intn(40))), drawnSerial(r)
		fresh := map[int]bool{}
		for range r.Intn(20) {
			fresh[drawnId(r)] = true
		}
		for _, id := range index.Of(x, s) {
			delete(fresh, id)
		}
		ids := slices.Sorted(maps.Keys(fresh))
		r.Shuffle(len(ids), func(i, j int) { ids[i], ids[j] = ids[j], ids[i] })
		y := compareAdd(t, x, s, ids...)
		r.Shuffle(len(ids), func(i, j int) { ids[i], ids[j] = ids[j], ids[i] })
		for _, id := range ids {
			y = compareDrop(t, y, s, id)
		}
		if !same(x, y) {
			t.Fatalf("%s, want %s", show(y), show(x))
		}
	}
}

// addAll adds pairs in their order, now one by one, now some of the same serial at once.
func addAll(t *testing.T, r *rand.Rand, all []pair) index.Index {
	t.Helper()
	var x index.Index
	var e api.Errno
	for len(all) > 0 {
		s, ids := all[0].s, []int{all[0].id}
		all = all[1:]
		if r.Intn(2) == 0 {
			rest := make([]pair, 0, len(all))
			for _, p := range all {
				if p.s == s && r.Intn(3) > 0 {
					ids = append(ids, p.id)
				} else {
					rest = append(rest, p)
				}
			}
			all = rest
		}
		if x, e = index.Add(x, s, ids...); e != api.OK {
			t.Fatalf("Add of %q, %v gives %d", s, ids, int(e))
		}
	}
	return x
}

func TestTheOrderOfPairsHasNoEffect(t *testing.T) {
	r := rand.New(rand.NewSource(14043))
	for range 200 {
		set := drawnSet(r, r.Intn(80))
		want := written(set)
		for range 4 {
			if x := addAll(t, r, shuffled(r, set)); !same(x, want) {
				t.Fatalf("%s, want %s", show(x), show(want))
			}
		}
		x := want
		for _, p := range shuffled(r, set) {
			delete(set, p)
			x, _ = index.Drop(x, p.s, p.id)
			if want := written(set); !same(x, want) {
				t.Fatalf("%s, want %s", show(x), show(want))
			}
		}
	}
}

func TestManyPairsInAnyOrder(t *testing.T) {
	r := rand.New(rand.NewSource(14044))
	set := drawnSet(r, 1500)
	for len(set) < mostPairs {
		set[pair{drawnSerial(r), drawnId(r)}] = true
	}
	x := addAll(t, r, shuffled(r, set))
	if want := written(set); !same(x, want) {
		t.Fatalf("%s, want %s", show(x), show(want))
	}
	if _, e := index.Add(x, "NEW", 1); e != api.ErrLimit || index.Count(x) != 2000 {
		t.Errorf("behind 2000 pairs, Add gives %d", int(e))
	}
}

// P14.5: whole.

// whole asserts that Of and Under return the same pairs: those of the index.
func whole(t *testing.T, x index.Index) {
	t.Helper()
	of, under := map[pair]bool{}, map[pair]bool{}
	ids := map[int]bool{}
	for _, s := range x.Keys {
		for _, id := range index.Of(x, s) {
			of[pair{s, id}], ids[id] = true, true
		}
	}
	for id := range ids {
		l := index.Under(x, id)
		if !slices.IsSorted(l) || len(slices.Compact(slices.Clone(l))) != len(l) {
			t.Errorf("Under of %d returns %q", id, l)
		}
		for _, s := range l {
			under[pair{s, id}] = true
		}
	}
	if !maps.Equal(of, under) || index.Count(x) != len(of) || !same(written(under), x) {
		t.Fatalf("of %s, Of returns %s, Under %s", show(x), show(written(of)), show(written(under)))
	}
}

func TestOfAndUnderReturnTheSamePairs(t *testing.T) {
	for _, x := range valid {
		whole(t, x)
	}
	r := rand.New(rand.NewSource(1405))
	for range 300 {
		x := written(drawnSet(r, r.Intn(50)))
		whole(t, x)
		compareAll(t, x)
	}
	whole(t, written(drawnSet(r, 1000)))
	whole(t, wide(2000))
}

// P14.1 to P14.5: many calls after each other have the results that the definitions have.
func TestDrawnCalls(t *testing.T) {
	r := rand.New(rand.NewSource(14))
	for range 150 {
		var x index.Index
		some := []string{drawnSerial(r), drawnSerial(r), drawnSerial(r), serials[r.Intn(len(serials))], others[r.Intn(len(others))]}
		for range 60 {
			s, id := some[r.Intn(len(some))], drawnId(r)
			old, kept := x, copied(x)
			var y index.Index
			switch r.Intn(4) {
			case 0:
				if ids := index.Of(x, s); len(ids) > 0 && r.Intn(4) > 0 {
					id = ids[r.Intn(len(ids))]
				}
				y = compareDrop(t, x, s, id)
			case 1:
				y = compareAdd(t, x, s, id, drawnId(r), drawnId(r))
			case 2:
				y = compareAdd(t, x, s, id, outside[r.Intn(len(outside))])
			default:
				y = compareAdd(t, x, s, id)
			}
			// What is refused, or would leave nothing, leaves the index as it was.
			if len(y.Keys) > 0 {
				x = y
			}
			compare(t, x, some, []int{id, 1, 5, mostId})
			if !same(old, kept) {
				t.Fatalf("%s has been changed into %s", show(kept), show(old))
			}
		}
		whole(t, x)
	}
}
