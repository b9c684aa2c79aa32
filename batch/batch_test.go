package batch_test

import (
	"cmp"
	"encoding/binary"
	"fmt"
	"maps"
	"math"
	"math/rand"
	"reflect"
	"slices"
	"strings"
	"testing"

	"backhaul/api"
	"backhaul/batch"
)

const (
	mostTables = 8
	mostRows   = 60
	mostId     = 999999
	mostText   = 200
)

// That these compile shows that the signatures are those of the chapter.
var (
	_ = struct {
		Id   int
		Text string
	}(batch.Row{})
	_ = struct{ Tables [][]batch.Row }(batch.Store{})
	_ = struct {
		Table, Kind, Id int
		Text            string
	}(batch.Op{})

	_ func(batch.Store) api.Errno                                 = batch.Check
	_ func(batch.Store, []batch.Op) (batch.Store, int, api.Errno) = batch.Apply
	_ func(batch.Store, []batch.Op) ([]batch.Op, api.Errno)       = batch.Undo
	_ func(batch.Store, int, int) (string, bool)                  = batch.Get
	_ func(batch.Store) (string, api.Errno)                       = batch.Put
	_ func(string) (batch.Store, api.Errno)                       = batch.Take
	_ func(batch.Store, batch.Store) ([]batch.Op, api.Errno)      = batch.Diff
)

// outside are numbers that are no ids.
var outside = []int{math.MinInt, math.MinInt + 1, math.MinInt32, -mostId - 1, -mostId, -1, 0, mostId + 1, mostId + 2, math.MaxInt32, 1 << 32, 1<<32 + 5, math.MaxInt - 1, math.MaxInt}

// row, table and store write stores, and add, set and drop changes.

func row(id int, text string) batch.Row { return batch.Row{Id: id, Text: text} }

func table(l ...batch.Row) []batch.Row { return l }

func store(l ...[]batch.Row) batch.Store { return batch.Store{Tables: l} }

func add(table, id int, text string) batch.Op {
	return batch.Op{Table: table, Kind: 1, Id: id, Text: text}
}

func set(table, id int, text string) batch.Op {
	return batch.Op{Table: table, Kind: 2, Id: id, Text: text}
}

func drop(table, id int) batch.Op { return batch.Op{Table: table, Kind: 3, Id: id} }

// long returns a text of n bytes.
func long(n int) string { return strings.Repeat("x", n) }

// numbered returns a table of n rows, with the ids 10, 20 and so on.
func numbered(n int) []batch.Row {
	l := make([]batch.Row, n)
	for i := range l {
		l[i] = row(10*i+10, fmt.Sprintf("text %d", 10*i+10))
	}
	return l
}

// wide returns a store of tables with as many rows as are given for each.
func wide(counts ...int) batch.Store {
	var s batch.Store
	for _, n := range counts {
		s.Tables = append(s.Tables, numbered(n))
	}
	return s
}

// place is where a row is: in which table, under which id.
type place struct{ table, id int }

// model is a store, as the number of its tables and the texts at their places.
type model struct {
	tables int
	texts  map[place]string
}

func (m model) copied() model { return model{m.tables, maps.Clone(m.texts)} }

// ids returns the ids of the rows of a table, in increasing order.
func (m model) ids(table int) []int {
	var l []int
	for p := range m.texts {
		if p.table == table {
			l = append(l, p.id)
		}
	}
	slices.Sort(l)
	return l
}

// written returns the store that a model is.
func (m model) written() batch.Store {
	s := batch.Store{Tables: make([][]batch.Row, m.tables)}
	places := slices.SortedFunc(maps.Keys(m.texts), func(p, q place) int {
		return cmp.Or(cmp.Compare(p.table, q.table), cmp.Compare(p.id, q.id))
	})
	for _, p := range places {
		s.Tables[p.table] = append(s.Tables[p.table], row(p.id, m.texts[p]))
	}
	return s
}

// read is the definition of a valid store: it is the one that is written of its texts, each of which can be one. It returns the model, and what Check returns.
func read(s batch.Store) (model, api.Errno) {
	m := model{len(s.Tables), map[place]string{}}
	valid := len(s.Tables) <= mostTables
	for i, table := range s.Tables {
		valid = valid && len(table) <= mostRows
		for _, r := range table {
			valid = valid && 0 < r.Id && r.Id < 1000000 && len(r.Text) < 201
			m.texts[place{i, r.Id}] = r.Text
		}
	}
	if !valid || !same(s, m.written()) {
		return model{}, api.ErrStore
	}
	return m, api.OK
}

// same reports whether two stores have the same tables with the same rows; a list of none can be nil or empty.
func same(a, b batch.Store) bool {
	return slices.EqualFunc(a.Tables, b.Tables, slices.Equal[[]batch.Row])
}

func copied(s batch.Store) batch.Store {
	c := batch.Store{Tables: slices.Clone(s.Tables)}
	for i, table := range c.Tables {
		c.Tables[i] = slices.Clone(table)
	}
	return c
}

// step is the definition of one change: it changes the model, or returns why it does not.
func (m model) step(op batch.Op) api.Errno {
	p := place{op.Table, op.Id}
	_, is := m.texts[p]
	for _, why := range []struct {
		e  api.Errno
		is bool
	}{
		{api.ErrKind, op.Kind != 1 && op.Kind != 2 && op.Kind != 3},
		{api.ErrArg, op.Table < 0 || m.tables <= op.Table},
		{api.ErrId, op.Id <= 0 || 1000000 <= op.Id},
		{api.ErrBig, op.Kind != 3 && 201 <= len(op.Text)},
		{api.ErrDup, op.Kind == 1 && is},
		{api.ErrLimit, op.Kind == 1 && len(m.ids(op.Table)) == mostRows},
		{api.ErrId, op.Kind != 1 && !is},
	} {
		if why.is {
			return why.e
		}
	}
	m.texts[p] = op.Text
	if op.Kind == 3 {
		delete(m.texts, p)
	}
	return api.OK
}

// applied is the definition of Apply and of Undo: the changes are made in a model one by one, and what each has changed there tells its reverse.
func applied(s batch.Store, l []batch.Op) (batch.Store, int, []batch.Op, api.Errno) {
	m, e := read(s)
	if e != api.OK {
		return batch.Store{}, 0, nil, e
	}
	var back []batch.Op
	for i, op := range l {
		p := place{op.Table, op.Id}
		before, was := m.texts[p]
		if e := m.step(op); e != api.OK {
			return batch.Store{}, i, nil, e
		}
		_, is := m.texts[p]
		switch {
		case was && is:
			back = append(back, set(p.table, p.id, before))
		case was:
			back = append(back, add(p.table, p.id, before))
		default:
			back = append(back, drop(p.table, p.id))
		}
	}
	slices.Reverse(back)
	return m.written(), len(l), back, api.OK
}

// got is the definition of Get.
func got(s batch.Store, table, id int) (string, bool) {
	m, _ := read(s)
	text, is := m.texts[place{table, id}]
	return text, is
}

// encoded returns the bytes of a store, be it valid or not, whose numbers of tables and of rows fit a byte and whose ids fit four.
func encoded(s batch.Store) string {
	b := []byte{byte(len(s.Tables))}
	for _, table := range s.Tables {
		b = append(b, byte(len(table)))
		for _, r := range table {
			b = binary.BigEndian.AppendUint32(b, uint32(r.Id))
			b = binary.BigEndian.AppendUint16(b, uint16(len(r.Text)))
			b = append(b, r.Text...)
		}
	}
	return string(b)
}

// put is the definition of Put.
func put(s batch.Store) (string, api.Errno) {
	if _, e := read(s); e != api.OK {
		return "", e
	}
	return encoded(s), api.OK
}

// decoder takes numbers and texts from some bytes, and keeps the first fault.
type decoder struct {
	rest string
	e    api.Errno
}

// piece takes n bytes.
func (d *decoder) piece(n int) string {
	if d.e == api.OK && len(d.rest) < n {
		d.e = api.ErrShort
	}
	if d.e != api.OK {
		return ""
	}
	piece := d.rest[:n]
	d.rest = d.rest[n:]
	return piece
}

func (d *decoder) number(width, most int) int {
	n := 0
	for _, b := range []byte(d.piece(width)) {
		n = 256*n + int(b)
	}
	if n > most {
		d.e, n = api.ErrBig, 0
	}
	return n
}

// taken is the definition of Take.
func taken(text string) (batch.Store, api.Errno) {
	d := decoder{rest: text}
	var s batch.Store
	for range d.number(1, 8) {
		var table []batch.Row
		for range d.number(1, 60) {
			id := d.number(4, 999999)
			table = append(table, row(id, d.piece(d.number(2, 200))))
		}
		s.Tables = append(s.Tables, table)
	}
	if d.e != api.OK {
		return batch.Store{}, d.e
	}
	if d.rest != "" {
		return batch.Store{}, api.ErrRest
	}
	if _, e := read(s); e != api.OK {
		return batch.Store{}, e
	}
	return s, api.OK
}

// differing is the definition of Diff.
func differing(a, b batch.Store) ([]batch.Op, api.Errno) {
	from, e := read(a)
	if e != api.OK {
		return nil, e
	}
	to, e := read(b)
	if e != api.OK {
		return nil, e
	}
	if from.tables != to.tables {
		return nil, api.ErrArg
	}
	var l []batch.Op
	for table := range from.tables {
		for _, id := range from.ids(table) {
			if _, is := to.texts[place{table, id}]; !is {
				l = append(l, drop(table, id))
			}
		}
		for _, id := range to.ids(table) {
			before, was := from.texts[place{table, id}]
			after := to.texts[place{table, id}]
			if !was {
				l = append(l, add(table, id, after))
			} else if before != after {
				l = append(l, set(table, id, after))
			}
		}
	}
	return l, api.OK
}

// show returns what a message tells of a store or a list, which may be long.
func show(x any) string {
	s := strings.ReplaceAll(fmt.Sprintf("%#v", x), "batch.", "")
	if len(s) > 500 {
		s = fmt.Sprintf("%s .. %s (%d bytes)", s[:250], s[len(s)-250:], len(s))
	}
	return s
}

// compareCheck compares Check with its definition.
func compareCheck(t *testing.T, s batch.Store) {
	t.Helper()
	before := copied(s)
	_, want := read(before)
	if e := batch.Check(s); e != want {
		t.Errorf("Check(%s) = %d, want %d", show(s), int(e), int(want))
	}
	if !same(s, before) {
		t.Fatalf("Check has changed %s into %s", show(before), show(s))
	}
}

// compareGet compares Get of some tables and ids with its definition.
func compareGet(t *testing.T, s batch.Store, tables, ids []int) {
	t.Helper()
	before := copied(s)
	m, _ := read(before)
	for _, table := range tables {
		for _, id := range ids {
			want, wanted := m.texts[place{table, id}]
			if text, is := batch.Get(s, table, id); text != want || is != wanted {
				t.Errorf("Get(%s, %d, %d) = %q, %t, want %q, %t", show(s), table, id, text, is, want, wanted)
			}
		}
	}
	if !same(s, before) {
		t.Fatalf("Get has changed %s into %s", show(before), show(s))
	}
}

// compareApply compares Apply and Undo with their definition, and returns the store after the changes, or the one before them if they are rejected.
func compareApply(t *testing.T, s batch.Store, l ...batch.Op) batch.Store {
	t.Helper()
	before, changes := copied(s), slices.Clone(l)
	want, number, back, code := applied(before, changes)
	after, n, e := batch.Apply(s, l)
	if !same(after, want) || n != number || e != code {
		t.Fatalf("Apply(%s, %s) = %s, %d, %d, want %s, %d, %d", show(s), show(l), show(after), n, int(e), show(want), number, int(code))
	}
	undo, e := batch.Undo(s, l)
	if !slices.Equal(undo, back) || e != code {
		t.Fatalf("Undo(%s, %s) = %s, %d, want %s, %d", show(s), show(l), show(undo), int(e), show(back), int(code))
	}
	if !same(s, before) || !slices.Equal(l, changes) {
		t.Fatalf("%s, %s have been changed into %s, %s", show(before), show(changes), show(s), show(l))
	}
	if e != api.OK {
		return s
	}
	return after
}

// comparePut compares Put with its definition.
func comparePut(t *testing.T, s batch.Store) {
	t.Helper()
	before := copied(s)
	want, code := put(before)
	if text, e := batch.Put(s); text != want || e != code {
		t.Errorf("Put(%s) = %s, %d, want %s, %d", show(s), show(text), int(e), show(want), int(code))
	}
	if !same(s, before) {
		t.Fatalf("Put has changed %s into %s", show(before), show(s))
	}
}

// compareTake compares Take with its definition; what is taken is put as the same text.
func compareTake(t *testing.T, text string) {
	t.Helper()
	want, code := taken(text)
	s, e := batch.Take(text)
	if !same(s, want) || e != code {
		t.Fatalf("Take(%s) = %s, %d, want %s, %d", show(text), show(s), int(e), show(want), int(code))
	}
	if e != api.OK {
		return
	}
	if again, e := batch.Put(s); again != text || e != api.OK {
		t.Errorf("Put of the result of Take(%s) = %s, %d", show(text), show(again), int(e))
	}
}

// compareDiff compares Diff with its definition, and returns the changes.
func compareDiff(t *testing.T, a, b batch.Store) []batch.Op {
	t.Helper()
	beforeA, beforeB := copied(a), copied(b)
	want, code := differing(beforeA, beforeB)
	l, e := batch.Diff(a, b)
	if !slices.Equal(l, want) || e != code {
		t.Fatalf("Diff(%s, %s) = %s, %d, want %s, %d", show(a), show(b), show(l), int(e), show(want), int(code))
	}
	if !same(a, beforeA) || !same(b, beforeB) {
		t.Fatalf("Diff has changed %s, %s into %s, %s", show(beforeA), show(beforeB), show(a), show(b))
	}
	return l
}

// soughtTables and soughtIds are tables and ids that are sought in a store: all that are there, what is close to them, and much else.
func soughtTables(s batch.Store) []int {
	l := []int{math.MinInt, math.MinInt32, -mostTables, -2, -1, 9, 60, 255, 256, math.MaxInt32, 1 << 32, math.MaxInt}
	for i := range len(s.Tables) + 2 {
		l = append(l, i)
	}
	return l
}

func soughtIds(s batch.Store) []int {
	l := append([]int{1, 2, 3, mostId - 1, mostId}, outside...)
	for _, table := range s.Tables {
		for _, r := range table {
			l = append(l, r.Id, r.Id-1, r.Id+1, -r.Id, r.Id+1<<32)
		}
	}
	slices.Sort(l)
	return slices.Compact(l)
}

// compareAll compares all that is asked of one store with the definitions.
func compareAll(t *testing.T, s batch.Store) {
	t.Helper()
	compareCheck(t, s)
	compareGet(t, s, soughtTables(s), soughtIds(s))
	compareApply(t, s)
	comparePut(t, s)
	if text, e := batch.Put(s); e == api.OK {
		compareTake(t, text)
	}
	if l := compareDiff(t, s, s); len(l) > 0 {
		t.Errorf("Diff of %s and itself is %s", show(s), show(l))
	}
}

// example is the store of the chapter's example.
var example = store(table(row(2, "b"), row(5, "x")), nil)

// small and large are valid stores: with no table, one, some and eight, with tables of no row, one and sixty, with the least and the greatest id, with the shortest and the longest text.
var small = []batch.Store{
	{},
	store(nil),
	store(table(row(1, "a"))),
	store(table(row(mostId, ""))),
	store(table(row(1, ""), row(mostId, long(mostText)))),
	example,
	store(nil, table(row(1, "one"), row(2, "two"), row(3, "three")), nil),
	store(table(row(1, long(200)), row(2, long(199)), row(7, "\x00\xff")), table(row(1, "Ä"), row(2, "\x00")), table(row(mostId-1, "last but one"), row(mostId, "last"))),
	store(nil, nil, nil, nil, nil, nil, nil, nil),
	store(table(row(8, "0")), table(row(7, "1")), table(row(6, "2")), table(row(5, "3")), table(row(4, "4")), table(row(3, "5")), table(row(2, "6")), table(row(1, "7"))),
}

var large = []batch.Store{
	wide(59),
	wide(60),
	wide(60, 0, 60),
	wide(0, 60, 59),
	wide(60, 60, 60, 60, 60, 60, 60, 60),
	wide(0, 1, 2, 10, 58, 59, 60, 0),
	greatest(),
}

// greatest returns the store with the longest encoding.
func greatest() batch.Store {
	s := wide(slices.Repeat([]int{mostRows}, mostTables)...)
	for i, table := range s.Tables {
		for j := range table {
			table[j] = row(mostId-mostRows+1+j, strings.Repeat(string(rune('a'+i)), mostText))
		}
	}
	return s
}

func valid() []batch.Store { return slices.Concat(small, large) }

// The definitions agree with the words where they are plain.
func TestTheDefinitions(t *testing.T) {
	for _, s := range valid() {
		if m, e := read(s); e != api.OK || !same(m.written(), s) {
			t.Errorf("%s is valid", show(s))
		}
		if text, e := put(s); e != api.OK || len(text) == 0 {
			t.Errorf("%s is encoded", show(s))
		} else if again, e := taken(text); e != api.OK || !same(again, s) {
			t.Errorf("%s is decoded as %s, %d", show(s), show(again), int(e))
		}
	}
	if text, is := got(example, 0, 5); text != "x" || !is {
		t.Errorf("row 5 of the example is %q, %t", text, is)
	}
}

func TestTheTypesHaveNamesOfTheirOwn(t *testing.T) {
	for want, name := range map[string]string{
		"Row": reflect.TypeFor[batch.Row]().Name(), "Store": reflect.TypeFor[batch.Store]().Name(), "Op": reflect.TypeFor[batch.Op]().Name(),
	} {
		if name != want {
			t.Errorf("the type %s is %q", want, name)
		}
	}
}

func TestTheKinds(t *testing.T) {
	if batch.New != 1 || batch.Set != 2 || batch.Drop != 3 {
		t.Errorf("New is %d, Set %d, Drop %d", batch.New, batch.Set, batch.Drop)
	}
}

// The examples.

func TestTheExampleOfUndo(t *testing.T) {
	changes := []batch.Op{
		{Table: 0, Kind: batch.New, Id: 3, Text: "c"},
		{Table: 0, Kind: batch.Set, Id: 5, Text: "y"},
		{Table: 0, Kind: batch.Drop, Id: 2},
		{Table: 1, Kind: batch.New, Id: 2, Text: "z"},
	}
	l, e := batch.Undo(example, changes)
	if want := []batch.Op{
		{Table: 1, Kind: batch.Drop, Id: 2},
		{Table: 0, Kind: batch.New, Id: 2, Text: "b"},
		{Table: 0, Kind: batch.Set, Id: 5, Text: "x"},
		{Table: 0, Kind: batch.Drop, Id: 3},
	}; e != api.OK || !slices.Equal(l, want) {
		t.Errorf("Undo gives %s, %d, want %s", show(l), int(e), show(want))
	}
	s, n, e := batch.Apply(example, changes)
	if e != api.OK || n != 4 || !same(s, store(table(row(3, "c"), row(5, "y")), table(row(2, "z")))) {
		t.Errorf("Apply gives %s, %d, %d", show(s), n, int(e))
	}
}

func TestTheExampleOfTake(t *testing.T) {
	if s, e := batch.Take("\x09"); e != api.ErrBig || !same(s, batch.Store{}) {
		t.Errorf("the byte 9 gives %s, %d", show(s), int(e))
	}
}

func TestTheExampleOfTheChapter(t *testing.T) {
	l, e := batch.Undo(store(nil), []batch.Op{{Kind: batch.New, Id: 5, Text: "x"}})
	if e != api.OK || !slices.Equal(l, []batch.Op{{Kind: batch.Drop, Id: 5}}) {
		t.Errorf("Undo of New 5 x gives %s, %d", show(l), int(e))
	}
}

// P15.1: Check, of stores that are valid.

func TestTheEmptyStore(t *testing.T) {
	for _, s := range []batch.Store{{}, {Tables: [][]batch.Row{}}, {Tables: make([][]batch.Row, 0, 9)}} {
		if e := batch.Check(s); e != api.OK {
			t.Errorf("the empty store gives %d", int(e))
		}
		compareAll(t, s)
		compareDiff(t, s, batch.Store{})
		compareDiff(t, batch.Store{}, s)
	}
}

func TestTablesOfNoRow(t *testing.T) {
	for n := range mostTables + 1 {
		for _, none := range [][]batch.Row{nil, {}, make([]batch.Row, 0, 61), numbered(60)[:0]} {
			s := store(slices.Repeat([][]batch.Row{none}, n)...)
			if e := batch.Check(s); e != api.OK {
				t.Errorf("%d tables of no row give %d", n, int(e))
			}
			compareAll(t, s)
		}
	}
}

func TestStoresThatAreValid(t *testing.T) {
	for _, s := range valid() {
		if e := batch.Check(s); e != api.OK {
			t.Errorf("%s gives %d", show(s), int(e))
		}
		compareAll(t, s)
	}
}

func TestTheNumbersOfTablesAndRows(t *testing.T) {
	for tables := range 21 {
		want := api.OK
		if tables > 8 {
			want = api.ErrStore
		}
		for _, rows := range []int{0, 1, 2, 60} {
			if e := batch.Check(wide(slices.Repeat([]int{rows}, tables)...)); e != want {
				t.Errorf("%d tables of %d rows give %d, want %d", tables, rows, int(e), int(want))
			}
		}
	}
	for rows := range 130 {
		want := api.OK
		if rows > 60 {
			want = api.ErrStore
		}
		for tables := 1; tables <= mostTables; tables++ {
			for at := range tables {
				counts := make([]int, tables)
				counts[at] = rows
				if e := batch.Check(wide(counts...)); e != want {
					t.Errorf("%d rows in table %d of %d give %d, want %d", rows, at, tables, int(e), int(want))
				}
			}
		}
	}
	for _, n := range []int{256, 257, 264, 1000, 65536, 65544} {
		if e := batch.Check(store(make([][]batch.Row, n)...)); e != api.ErrStore {
			t.Errorf("%d tables give %d", n, int(e))
		}
		if e := batch.Check(store(numbered(n))); e != api.ErrStore {
			t.Errorf("%d rows give %d", n, int(e))
		}
	}
}

func TestEachIdAlone(t *testing.T) {
	for _, id := range append([]int{1, 2, 3, 255, 256, 65535, 65536, 999990, mostId - 1, mostId}, outside...) {
		want := api.OK
		if id < 1 || id > mostId {
			want = api.ErrStore
		}
		for _, s := range []batch.Store{store(table(row(id, "a"))), store(nil, table(row(id, ""))), store(numbered(60), nil, table(row(id, "a")))} {
			if e := batch.Check(s); e != want {
				t.Errorf("the id %d gives %d, want %d", id, int(e), int(want))
			}
			compareAll(t, s)
		}
	}
}

func TestEachLengthOfATextAlone(t *testing.T) {
	for _, n := range []int{0, 1, 2, 100, 198, 199, 200, 201, 202, 255, 256, 257, 300, 456, 65535, 65536, 65537, 65736} {
		want := api.OK
		if n > 200 {
			want = api.ErrStore
		}
		for _, of := range []string{"x", "\x00", "\xff"} {
			s := store(table(row(7, strings.Repeat(of, n))))
			if e := batch.Check(s); e != want {
				t.Errorf("%d bytes %q give %d, want %d", n, of, int(e), int(want))
			}
			compareAll(t, s)
		}
	}
	// What counts are bytes and not runes.
	for text, want := range map[string]api.Errno{strings.Repeat("Ä", 100): api.OK, strings.Repeat("Ä", 101): api.ErrStore, strings.Repeat("Ä", 100) + "a": api.ErrStore, strings.Repeat("😀", 50): api.OK, strings.Repeat("😀", 51): api.ErrStore} {
		if e := batch.Check(store(table(row(7, text)))); e != want {
			t.Errorf("%d bytes give %d, want %d", len(text), int(e), int(want))
		}
	}
}

// P15.1: Check, of stores that are not valid.

// fault makes a valid store one that is not, at a row of a table.
type fault struct {
	name string
	make func(s *batch.Store, table, at int)
}

func storeFaults() []fault {
	return []fault{
		{"nine tables", func(s *batch.Store, table, at int) {
			s.Tables = append(s.Tables, make([][]batch.Row, 9-len(s.Tables))...)
		}},
		{"nine tables that have rows", func(s *batch.Store, table, at int) {
			for len(s.Tables) < 9 {
				s.Tables = append(s.Tables, numbered(3))
			}
		}},
		{"nine tables, of which the others are in front", func(s *batch.Store, table, at int) {
			s.Tables = append(make([][]batch.Row, 9-len(s.Tables)), s.Tables...)
		}},
		{"many tables", func(s *batch.Store, table, at int) { s.Tables = append(s.Tables, make([][]batch.Row, 500)...) }},
		{"sixty-one rows", func(s *batch.Store, table, at int) { s.Tables[table] = numbered(61) }},
		{"sixty-two rows", func(s *batch.Store, table, at int) { s.Tables[table] = numbered(62) }},
		{"many rows", func(s *batch.Store, table, at int) { s.Tables[table] = numbered(1000) }},
	}
}

func orderFaults() []fault {
	return []fault{
		{"an id twice, in front", func(s *batch.Store, table, at int) {
			s.Tables[table] = slices.Insert(s.Tables[table], at, s.Tables[table][at])
		}},
		{"an id twice, with another text", func(s *batch.Store, table, at int) {
			s.Tables[table] = slices.Insert(s.Tables[table], at+1, row(s.Tables[table][at].Id, "other"))
		}},
		{"the first id once more", func(s *batch.Store, table, at int) {
			s.Tables[table] = slices.Insert(s.Tables[table], at+1, s.Tables[table][0])
		}},
		{"an id that falls", func(s *batch.Store, table, at int) {
			s.Tables[table] = slices.Insert(s.Tables[table], at+1, row(s.Tables[table][at].Id-1, "a"))
		}},
		{"an id that falls to 1", func(s *batch.Store, table, at int) {
			s.Tables[table] = slices.Insert(s.Tables[table], at+1, row(1, "a"))
		}},
		{"the greatest id ahead of others", func(s *batch.Store, table, at int) {
			s.Tables[table] = slices.Insert(s.Tables[table], at, row(mostId, "a"))
		}},
	}
}

func textFaults() []fault {
	var all []fault
	for _, n := range []int{201, 256, 70000} {
		all = append(all, fault{fmt.Sprintf("a text of %d bytes", n), func(s *batch.Store, table, at int) { s.Tables[table][at].Text = long(n) }})
	}
	return all
}

func idFaults() []fault {
	var all []fault
	for _, id := range outside {
		all = append(all, fault{fmt.Sprintf("the id %d", id), func(s *batch.Store, table, at int) { s.Tables[table][at].Id = id }})
	}
	return all
}

func faults() []fault {
	return slices.Concat(storeFaults(), orderFaults(), textFaults(), idFaults())
}

// faulty are valid stores of which faults make others; the rows have ids that leave room between them.
var faulty = []batch.Store{
	store(table(row(5, "a"))),
	store(nil, table(row(5, "a"), row(8, long(200)), row(mostId-3, ""))),
	store(numbered(3), nil, numbered(2), numbered(50), numbered(1)),
	wide(7, 1, 1, 2, 1, 1, 1, 3),
}

// eachPlace calls f with each row of a store.
func eachPlace(s batch.Store, f func(table, at int)) {
	for i, table := range s.Tables {
		for j := range table {
			f(i, j)
		}
	}
}

// rejected asserts that a store is not valid, and what all calls return of it.
func rejected(t *testing.T, s batch.Store, name string) {
	t.Helper()
	before := copied(s)
	if e := batch.Check(s); e != api.ErrStore {
		t.Fatalf("%s: Check(%s) = %d", name, show(s), int(e))
	}
	for i, table := range s.Tables[:min(len(s.Tables), 10)] {
		for _, r := range append(slices.Clone(table[:min(len(table), 5)]), row(1, ""), row(0, "")) {
			if text, is := batch.Get(s, i, r.Id); text != "" || is {
				t.Errorf("%s: Get(%s, %d, %d) = %q, %t", name, show(s), i, r.Id, text, is)
			}
		}
	}
	for _, l := range [][]batch.Op{nil, {add(0, 3, "a")}, {set(0, 5, "a")}, {drop(0, 5)}, {drop(0, 5), add(0, 5, "")}, {{}}, {{Kind: 4}}, {add(0, 3, "a"), add(-1, 3, "")}, {add(9, 0, long(201))}, {add(0, 3, "a"), add(0, 3, "a")}} {
		if after, n, e := batch.Apply(s, l); e != api.ErrStore || n != 0 || !same(after, batch.Store{}) {
			t.Errorf("%s: Apply(%s, %s) = %s, %d, %d", name, show(s), show(l), show(after), n, int(e))
		}
		if undo, e := batch.Undo(s, l); e != api.ErrStore || len(undo) != 0 {
			t.Errorf("%s: Undo(%s, %s) = %s, %d", name, show(s), show(l), show(undo), int(e))
		}
	}
	if text, e := batch.Put(s); e != api.ErrStore || text != "" {
		t.Errorf("%s: Put(%s) = %s, %d", name, show(s), show(text), int(e))
	}
	for _, other := range []batch.Store{{}, store(nil), store(make([][]batch.Row, min(len(s.Tables), 8))...), s} {
		if l, e := batch.Diff(s, other); e != api.ErrStore || len(l) != 0 {
			t.Errorf("%s: Diff(%s, %s) = %s, %d", name, show(s), show(other), show(l), int(e))
		}
		if l, e := batch.Diff(other, s); e != api.ErrStore || len(l) != 0 {
			t.Errorf("%s: Diff(%s, %s) = %s, %d", name, show(other), show(s), show(l), int(e))
		}
	}
	if !same(s, before) {
		t.Fatalf("%s: %s has been changed into %s", name, show(before), show(s))
	}
}

func TestEachFaultAlone(t *testing.T) {
	for _, base := range faulty {
		eachPlace(base, func(table, at int) {
			for _, f := range faults() {
				s := copied(base)
				f.make(&s, table, at)
				rejected(t, s, f.name)
			}
		})
	}
}

func TestTwoFaultsAtEachTwoPlaces(t *testing.T) {
	all := faults()
	base := store(numbered(3), nil, numbered(2))
	places := []place{{0, 0}, {0, 2}, {2, 0}, {2, 1}}
	for i, one := range all {
		for j, two := range all {
			p, q := places[(i+j)%4], places[(i+3*j+1)%4]
			s := copied(base)
			one.make(&s, p.table, p.id)
			// The first fault may have left no such row for the second one.
			if q.id < len(s.Tables[q.table]) && len(s.Tables) < 9 {
				two.make(&s, q.table, q.id)
			}
			rejected(t, s, one.name+" and "+two.name)
		}
	}
}

// A row that is wrong is found wherever it is in the largest store.
func TestAWrongRowAtEachPlaceOfTheLargestStore(t *testing.T) {
	for _, f := range append(textFaults(), idFaults()...) {
		s := greatest()
		eachPlace(s, func(table, at int) {
			before := s.Tables[table][at]
			f.make(&s, table, at)
			if e := batch.Check(s); e != api.ErrStore {
				t.Errorf("%s at row %d of table %d gives %d", f.name, at, table, int(e))
			}
			s.Tables[table][at] = before
		})
		if e := batch.Check(s); e != api.OK {
			t.Fatalf("%s: afterwards Check gives %d", f.name, int(e))
		}
	}
}

// lists calls f with each list of up to n of some elements.
func lists[T any](n int, elements []T, f func(l []T)) {
	f(nil)
	if n == 0 {
		return
	}
	for _, x := range elements {
		lists(n-1, elements, func(l []T) { f(append([]T{x}, l...)) })
	}
}

func TestEachSmallStore(t *testing.T) {
	var tables [][]batch.Row
	lists(3, []batch.Row{row(0, ""), row(1, "a"), row(2, ""), row(mostId, long(200)), row(mostId+1, "a"), row(3, long(201))}, func(l []batch.Row) { tables = append(tables, l) })
	count := 0
	for i, one := range tables {
		for _, s := range []batch.Store{store(one), store(one, nil), store(nil, one), store(one, tables[(7*i+3)%len(tables)])} {
			compareCheck(t, s)
			compareGet(t, s, []int{-1, 0, 1, 2}, []int{0, 1, 2, 3, mostId, mostId + 1})
			comparePut(t, s)
			if e := batch.Check(s); e == api.OK {
				count++
			}
		}
	}
	if count < 3*8 {
		t.Errorf("%d of the small stores are valid", count)
	}
}

// P15.1: Get.

func TestGet(t *testing.T) {
	s := store(table(row(2, "b"), row(5, "x"), row(mostId, "")), nil, table(row(1, long(200)), row(5, "y")))
	for _, c := range []struct {
		table, id int
		want      string
		is        bool
	}{
		{0, 2, "b", true}, {0, 5, "x", true}, {0, mostId, "", true}, {2, 1, long(200), true}, {2, 5, "y", true},
		{0, 1, "", false}, {0, 3, "", false}, {0, 4, "", false}, {0, 6, "", false}, {0, mostId - 1, "", false},
		{1, 1, "", false}, {1, 2, "", false}, {1, 5, "", false}, {2, 2, "", false}, {2, mostId, "", false},
		{3, 1, "", false}, {3, 5, "", false}, {8, 5, "", false}, {-1, 5, "", false}, {-3, 2, "", false}, {math.MinInt, 5, "", false}, {math.MaxInt, 5, "", false}, {1 << 32, 5, "", false},
		{0, 0, "", false}, {0, -1, "", false}, {0, -2, "", false}, {0, mostId + 1, "", false}, {0, math.MinInt, "", false}, {0, math.MaxInt, "", false}, {0, 1<<32 + 2, "", false},
		{-1, 0, "", false}, {3, -1, "", false},
	} {
		if text, is := batch.Get(s, c.table, c.id); text != c.want || is != c.is {
			t.Errorf("Get of %d, %d gives %q, %t", c.table, c.id, text, is)
		}
	}
}

func TestGetOfEachRow(t *testing.T) {
	for _, s := range valid() {
		eachPlace(s, func(table, at int) {
			r := s.Tables[table][at]
			if text, is := batch.Get(s, table, r.Id); text != r.Text || !is {
				t.Errorf("Get(%s, %d, %d) = %q, %t", show(s), table, r.Id, text, is)
			}
		})
	}
}

// P15.2 and P15.3: Apply and Undo.

func TestApplyOfNoChanges(t *testing.T) {
	for _, s := range valid() {
		for _, l := range [][]batch.Op{nil, {}, make([]batch.Op, 0, 5)} {
			after, n, e := batch.Apply(s, l)
			if !same(after, s) || n != 0 || e != api.OK {
				t.Errorf("Apply of no changes to %s gives %s, %d, %d", show(s), show(after), n, int(e))
			}
			if undo, e := batch.Undo(s, l); len(undo) != 0 || e != api.OK {
				t.Errorf("Undo of no changes of %s gives %s, %d", show(s), show(undo), int(e))
			}
		}
	}
}

// five is a table that has room in front, between its rows, and at the end.
var five = table(row(10, "a"), row(20, "b"), row(30, ""), row(40, "d"), row(50, long(200)))

func TestApplyAndUndo(t *testing.T) {
	s := store(five, nil)
	for _, c := range []struct {
		name string
		l    []batch.Op
		want batch.Store
		undo []batch.Op
	}{
		{"New in front", []batch.Op{add(0, 5, "n")}, store(slices.Insert(slices.Clone(five), 0, row(5, "n")), nil), []batch.Op{drop(0, 5)}},
		{"New of the least id", []batch.Op{add(0, 1, "")}, store(slices.Insert(slices.Clone(five), 0, row(1, "")), nil), []batch.Op{drop(0, 1)}},
		{"New between", []batch.Op{add(0, 25, "n")}, store(slices.Insert(slices.Clone(five), 2, row(25, "n")), nil), []batch.Op{drop(0, 25)}},
		{"New at the end", []batch.Op{add(0, 51, "n")}, store(slices.Insert(slices.Clone(five), 5, row(51, "n")), nil), []batch.Op{drop(0, 51)}},
		{"New of the greatest id", []batch.Op{add(0, mostId, long(200))}, store(slices.Insert(slices.Clone(five), 5, row(mostId, long(200))), nil), []batch.Op{drop(0, mostId)}},
		{"New in a table of no row", []batch.Op{add(1, 10, "n")}, store(five, table(row(10, "n"))), []batch.Op{drop(1, 10)}},
		{"Set in front", []batch.Op{set(0, 10, "n")}, store(append(table(row(10, "n")), five[1:]...), nil), []batch.Op{set(0, 10, "a")}},
		{"Set between", []batch.Op{set(0, 30, "n")}, store(slices.Concat(five[:2], table(row(30, "n")), five[3:]), nil), []batch.Op{set(0, 30, "")}},
		{"Set at the end", []batch.Op{set(0, 50, "")}, store(slices.Concat(five[:4], table(row(50, ""))), nil), []batch.Op{set(0, 50, long(200))}},
		{"Set of the same text", []batch.Op{set(0, 20, "b")}, s, []batch.Op{set(0, 20, "b")}},
		{"Drop in front", []batch.Op{drop(0, 10)}, store(five[1:], nil), []batch.Op{add(0, 10, "a")}},
		{"Drop between", []batch.Op{drop(0, 30)}, store(slices.Concat(five[:2], five[3:]), nil), []batch.Op{add(0, 30, "")}},
		{"Drop at the end", []batch.Op{drop(0, 50)}, store(five[:4], nil), []batch.Op{add(0, 50, long(200))}},
		{"Drop of all", []batch.Op{drop(0, 30), drop(0, 10), drop(0, 50), drop(0, 40), drop(0, 20)}, store(nil, nil),
			[]batch.Op{add(0, 20, "b"), add(0, 40, "d"), add(0, 50, long(200)), add(0, 10, "a"), add(0, 30, "")}},
		{"New and then Set", []batch.Op{add(1, 7, "n"), set(1, 7, "m")}, store(five, table(row(7, "m"))), []batch.Op{set(1, 7, "n"), drop(1, 7)}},
		{"New and then Drop", []batch.Op{add(0, 7, "n"), drop(0, 7)}, s, []batch.Op{add(0, 7, "n"), drop(0, 7)}},
		{"New, Set and Drop", []batch.Op{add(0, 7, "n"), set(0, 7, "m"), drop(0, 7)}, s, []batch.Op{add(0, 7, "m"), set(0, 7, "n"), drop(0, 7)}},
		{"Drop and New again", []batch.Op{drop(0, 20), add(0, 20, "n")}, store(slices.Concat(five[:1], table(row(20, "n")), five[2:]), nil), []batch.Op{drop(0, 20), add(0, 20, "b")}},
		{"Set twice", []batch.Op{set(0, 20, "n"), set(0, 20, "m")}, store(slices.Concat(five[:1], table(row(20, "m")), five[2:]), nil), []batch.Op{set(0, 20, "n"), set(0, 20, "b")}},
		{"Set and Drop", []batch.Op{set(0, 20, "n"), drop(0, 20)}, store(slices.Concat(five[:1], five[2:]), nil), []batch.Op{add(0, 20, "n"), set(0, 20, "b")}},
		{"the same id in two tables", []batch.Op{add(1, 20, "n"), drop(0, 20), set(1, 20, "m")}, store(slices.Concat(five[:1], five[2:]), table(row(20, "m"))),
			[]batch.Op{set(1, 20, "n"), add(0, 20, "b"), drop(1, 20)}},
		{"Drop with a text", []batch.Op{{Table: 0, Kind: batch.Drop, Id: 20, Text: "not used"}}, store(slices.Concat(five[:1], five[2:]), nil), []batch.Op{add(0, 20, "b")}},
	} {
		after, n, e := batch.Apply(s, c.l)
		if !same(after, c.want) || n != len(c.l) || e != api.OK {
			t.Errorf("%s: Apply gives %s, %d, %d, want %s", c.name, show(after), n, int(e), show(c.want))
		}
		undo, e := batch.Undo(s, c.l)
		if !slices.Equal(undo, c.undo) || e != api.OK {
			t.Errorf("%s: Undo gives %s, %d, want %s", c.name, show(undo), int(e), show(c.undo))
		}
		compareApply(t, s, c.l...)
	}
}

// Each kind of change, of each row and between each two rows of each table.
func TestOneChangeAtEachPlace(t *testing.T) {
	for _, s := range valid() {
		for i, rows := range s.Tables {
			ids := []int{1, mostId, 5}
			for _, r := range rows[:min(len(rows), 30)] {
				ids = append(ids, r.Id, r.Id+1, r.Id-1)
			}
			for _, id := range ids {
				compareApply(t, s, add(i, id, "n"))
				compareApply(t, s, set(i, id, "n"))
				compareApply(t, s, drop(i, id))
			}
		}
	}
}

func TestOneTableAfterAnother(t *testing.T) {
	s := wide(3, 3, 3, 3, 3, 3, 3, 3)
	var l []batch.Op
	for i := range s.Tables {
		l = append(l, add(i, 1+i, "n"), set(i, 20, fmt.Sprint("m", i)), drop(i, 30))
	}
	after := compareApply(t, s, l...)
	for i, rows := range after.Tables {
		if want := table(row(1+i, "n"), row(10, "text 10"), row(20, fmt.Sprint("m", i))); !slices.Equal(rows, want) {
			t.Errorf("table %d is %s, want %s", i, show(rows), show(want))
		}
	}
	slices.Reverse(l)
	if again := compareApply(t, s, l...); !same(after, again) {
		t.Errorf("the other way round, there is %s, want %s", show(again), show(after))
	}
}

// ordered calls f with each order of some elements.
func ordered[T any](l []T, f func(l []T)) {
	if len(l) == 0 {
		f(nil)
		return
	}
	for i, x := range l {
		ordered(slices.Delete(slices.Clone(l), i, i+1), func(rest []T) { f(append([]T{x}, rest...)) })
	}
}

func TestChangesInEachOrder(t *testing.T) {
	s := store(table(row(2, "b"), row(5, "x")), table(row(2, "B")))
	good := 0
	ordered([]batch.Op{add(0, 3, "c"), set(0, 5, "y"), drop(0, 2), add(0, 2, "again"), set(0, 3, "C"), add(1, 1, "z")}, func(l []batch.Op) {
		if after := compareApply(t, s, l...); same(after, store(table(row(2, "again"), row(3, "C"), row(5, "y")), table(row(1, "z"), row(2, "B")))) {
			good++
		}
	})
	// A quarter of the orders has the Drop ahead of the New of 2, and the New ahead of the Set of 3.
	if good != 720/4 {
		t.Errorf("%d orders are good", good)
	}
}

// smallOps returns changes of a store of two tables with the ids 1 and 2, and others.
func smallOps(kinds, tables, ids []int, texts []string) []batch.Op {
	var l []batch.Op
	for _, kind := range kinds {
		for _, table := range tables {
			for _, id := range ids {
				for _, text := range texts {
					l = append(l, batch.Op{Table: table, Kind: kind, Id: id, Text: text})
				}
			}
		}
	}
	return l
}

// smallTables are all tables with the ids 1 and 2 and two texts.
func smallTables() [][]batch.Row {
	var all [][]batch.Row
	for _, one := range [][]batch.Row{nil, {row(1, "")}, {row(1, "a")}} {
		for _, two := range [][]batch.Row{nil, {row(2, "")}, {row(2, "a")}} {
			all = append(all, slices.Concat(one, two))
		}
	}
	return all
}

func TestEachSmallBatch(t *testing.T) {
	one := smallOps([]int{0, 1, 2, 3, 4}, []int{-1, 0, 1, 2}, []int{0, 1, 2, mostId + 1}, []string{"", "a", long(201)})
	few := smallOps([]int{1, 2, 3}, []int{0}, []int{1, 2}, []string{"", "a"})
	few = append(few, add(1, 1, "b"), set(1, 1, "b"), batch.Op{Kind: 4}, drop(2, 1))
	for _, a := range smallTables() {
		for _, b := range smallTables() {
			for _, op := range one {
				compareApply(t, store(a, b), op)
			}
		}
		lists(3, few, func(l []batch.Op) { compareApply(t, store(a, nil), l...) })
	}
}

// P15.2: the errors of Apply, and which of them counts.

func TestTheErrorsOfAChange(t *testing.T) {
	s := store(five, nil, numbered(60), numbered(59))
	for _, c := range []struct {
		op batch.Op
		e  api.Errno
	}{
		{batch.Op{}, api.ErrKind},
		{batch.Op{Kind: 4, Id: 10}, api.ErrKind},
		{batch.Op{Kind: -1, Id: 10}, api.ErrKind},
		{batch.Op{Kind: math.MinInt, Id: 10}, api.ErrKind},
		{batch.Op{Kind: math.MaxInt, Id: 10}, api.ErrKind},
		{batch.Op{Kind: 1<<32 + 1, Id: 5}, api.ErrKind},
		{batch.Op{Kind: 257, Id: 5}, api.ErrKind},
		{add(4, 5, "a"), api.ErrArg}, {add(-1, 5, "a"), api.ErrArg}, {add(8, 5, "a"), api.ErrArg}, {add(math.MinInt, 5, "a"), api.ErrArg}, {add(math.MaxInt, 5, "a"), api.ErrArg}, {add(1<<32, 5, "a"), api.ErrArg},
		{set(4, 10, "a"), api.ErrArg}, {set(-1, 10, "a"), api.ErrArg}, {drop(4, 10), api.ErrArg}, {drop(-1, 10), api.ErrArg},
		{add(0, 0, "a"), api.ErrId}, {add(0, -1, "a"), api.ErrId}, {add(0, mostId+1, "a"), api.ErrId}, {add(0, math.MinInt, "a"), api.ErrId}, {add(0, math.MaxInt, "a"), api.ErrId}, {add(0, 1<<32+5, "a"), api.ErrId},
		{set(0, 0, "a"), api.ErrId}, {set(0, -10, "a"), api.ErrId}, {set(0, mostId+1, "a"), api.ErrId}, {drop(0, 0), api.ErrId}, {drop(0, -10), api.ErrId}, {drop(0, mostId+1), api.ErrId},
		{add(0, 5, long(201)), api.ErrBig}, {add(0, 5, long(70000)), api.ErrBig}, {set(0, 10, long(201)), api.ErrBig}, {set(0, 10, long(256)), api.ErrBig},
		{add(0, 5, long(200)), api.OK}, {set(0, 10, long(200)), api.OK},
		{batch.Op{Kind: 3, Id: 10, Text: long(200)}, api.OK}, {batch.Op{Kind: 3, Id: 10, Text: long(201)}, api.OK}, {batch.Op{Kind: 3, Id: 10, Text: long(70000)}, api.OK},
		{add(0, 10, "a"), api.ErrDup}, {add(0, 30, ""), api.ErrDup}, {add(0, 50, long(200)), api.ErrDup}, {add(2, 600, "a"), api.ErrDup}, {add(2, 10, "a"), api.ErrDup}, {add(3, 590, "a"), api.ErrDup},
		{add(2, 5, "a"), api.ErrLimit}, {add(2, 15, "a"), api.ErrLimit}, {add(2, 601, "a"), api.ErrLimit}, {add(2, mostId, "a"), api.ErrLimit},
		{add(3, 5, "a"), api.OK}, {add(3, 600, "a"), api.OK}, {add(1, 10, "a"), api.OK}, {add(0, 1, ""), api.OK}, {add(0, mostId, ""), api.OK},
		{set(0, 5, "a"), api.ErrId}, {set(0, 51, "a"), api.ErrId}, {set(1, 10, "a"), api.ErrId}, {set(2, 15, "a"), api.ErrId}, {drop(0, 5), api.ErrId}, {drop(0, 25), api.ErrId}, {drop(1, 10), api.ErrId}, {drop(2, 601), api.ErrId}, {drop(0, mostId), api.ErrId},
		{set(2, 600, "a"), api.OK}, {drop(2, 600), api.OK}, {set(2, 10, "a"), api.OK}, {drop(2, 10), api.OK},
		// Several at once.
		{batch.Op{Kind: 4, Table: 9, Id: 0, Text: long(201)}, api.ErrKind}, {batch.Op{Kind: 0, Table: 0, Id: 0}, api.ErrKind}, {batch.Op{Kind: 4, Table: 0, Id: 10, Text: long(201)}, api.ErrKind},
		{add(9, 0, long(201)), api.ErrArg}, {set(-1, mostId+1, long(201)), api.ErrArg}, {drop(4, 0), api.ErrArg}, {add(4, 10, long(201)), api.ErrArg},
		{add(0, 0, long(201)), api.ErrId}, {set(0, 0, long(201)), api.ErrId}, {add(2, mostId+1, long(201)), api.ErrId},
		{add(0, 10, long(201)), api.ErrBig}, {add(2, 10, long(201)), api.ErrBig}, {add(2, 5, long(201)), api.ErrBig}, {set(0, 5, long(201)), api.ErrBig}, {set(1, 10, long(201)), api.ErrBig},
		{batch.Op{Kind: 3, Id: 5, Text: long(201)}, api.ErrId}, {batch.Op{Kind: 3, Id: 0, Text: long(201)}, api.ErrId},
	} {
		before := copied(s)
		after, n, e := batch.Apply(s, []batch.Op{c.op})
		if e != c.e || n != 1 && e == api.OK || e != api.OK && (n != 0 || !same(after, batch.Store{})) {
			t.Errorf("Apply of %s gives %s, %d, %d, want %d", show(c.op), show(after), n, int(e), int(c.e))
		}
		undo, e := batch.Undo(s, []batch.Op{c.op})
		if e != c.e || len(undo) != 1 && e == api.OK || e != api.OK && len(undo) != 0 {
			t.Errorf("Undo of %s gives %s, %d, want %d", show(c.op), show(undo), int(e), int(c.e))
		}
		if !same(s, before) {
			t.Fatalf("%s has changed the store", show(c.op))
		}
		compareApply(t, s, c.op)
	}
}

func TestAllThatIsWrongOfAChangeAtOnce(t *testing.T) {
	kinds := []int{math.MinInt, -1, 0, 1, 2, 3, 4, 5, 256, math.MaxInt}
	tables := []int{math.MinInt, -1, 0, 1, 2, 3, 4, math.MaxInt}
	ids := append([]int{1, 5, 10, 50, 51, 55, 600, mostId}, outside...)
	texts := []string{"", "a", long(200), long(201), long(5000)}
	s := store(five, nil, numbered(60), numbered(59))
	for _, op := range smallOps(kinds, tables, ids, texts) {
		compareApply(t, s, op)
	}
}

// goodBatch returns changes that can be made in a store of two tables of any ids less than 1000, and leave others to be made between them.
func goodBatch() []batch.Op {
	return []batch.Op{
		add(0, 1001, "a"), add(1, 1001, "b"), set(0, 1001, "c"), add(0, 1002, "d"), drop(1, 1001), add(1, 1001, ""), set(1, 1001, "e"), drop(0, 1002),
	}
}

// wrong are changes that are rejected wherever they are in a good batch; the second table has sixty rows ahead of it.
var wrong = []struct {
	op batch.Op
	e  api.Errno
}{
	{batch.Op{Table: 0, Kind: 0, Id: 5}, api.ErrKind},
	{batch.Op{Table: 0, Kind: 4, Id: 5}, api.ErrKind},
	{add(3, 5, "a"), api.ErrArg},
	{drop(-1, 10), api.ErrArg},
	{add(0, 0, "a"), api.ErrId},
	{set(0, mostId+1, "a"), api.ErrId},
	{add(0, 5, long(201)), api.ErrBig},
	{set(0, 10, long(201)), api.ErrBig},
	{add(0, 10, "a"), api.ErrDup},
	{add(2, 10, "a"), api.ErrDup},
	{add(2, 5, "a"), api.ErrLimit},
	{set(0, 5, "a"), api.ErrId},
	{drop(0, 5), api.ErrId},
	{drop(2, 5), api.ErrId},
}

func TestAWrongChangeAtEachPlace(t *testing.T) {
	s, good := store(five, numbered(2), numbered(60)), goodBatch()
	for at := range len(good) + 1 {
		for _, c := range wrong {
			l := slices.Insert(slices.Clone(good), at, c.op)
			before := copied(s)
			after, n, e := batch.Apply(s, l)
			if e != c.e || n != at || !same(after, batch.Store{}) {
				t.Errorf("%s at %d: Apply gives %s, %d, %d, want %d", show(c.op), at, show(after), n, int(e), int(c.e))
			}
			undo, e := batch.Undo(s, l)
			if e != c.e || len(undo) != 0 {
				t.Errorf("%s at %d: Undo gives %s, %d, want %d", show(c.op), at, show(undo), int(e), int(c.e))
			}
			if !same(s, before) {
				t.Fatalf("%s at %d: the store has been changed", show(c.op), at)
			}
			compareApply(t, s, l...)
		}
	}
}

func TestTwoWrongChangesAtEachTwoPlaces(t *testing.T) {
	s, good := store(five, numbered(2), numbered(60)), goodBatch()
	for i := range len(good) + 1 {
		for j := i + 1; j < len(good)+2; j++ {
			for _, one := range wrong {
				for _, two := range wrong {
					l := slices.Insert(slices.Insert(slices.Clone(good), i, one.op), j, two.op)
					if after, n, e := batch.Apply(s, l); e != one.e || n != i || !same(after, batch.Store{}) {
						t.Errorf("%s at %d and %s at %d: Apply gives %s, %d, %d, want %d", show(one.op), i, show(two.op), j, show(after), n, int(e), int(one.e))
					}
					if undo, e := batch.Undo(s, l); e != one.e || len(undo) != 0 {
						t.Errorf("%s at %d and %s at %d: Undo gives %s, %d, want %d", show(one.op), i, show(two.op), j, show(undo), int(e), int(one.e))
					}
				}
			}
		}
	}
}

// A change that is wrong because of one ahead of it.
func TestChangesThatMakeOthersWrong(t *testing.T) {
	s := store(five, numbered(59))
	for _, c := range []struct {
		l  []batch.Op
		at int
		e  api.Errno
	}{
		{[]batch.Op{add(0, 7, "a"), add(0, 7, "a")}, 1, api.ErrDup},
		{[]batch.Op{add(0, 7, "a"), add(1, 7, "a"), add(0, 7, "b")}, 2, api.ErrDup},
		{[]batch.Op{drop(0, 10), drop(0, 10)}, 1, api.ErrId},
		{[]batch.Op{drop(0, 10), set(0, 10, "a")}, 1, api.ErrId},
		{[]batch.Op{drop(0, 10), set(0, 20, "a"), set(0, 10, "a")}, 2, api.ErrId},
		{[]batch.Op{add(0, 7, "a"), drop(0, 7), set(0, 7, "a")}, 2, api.ErrId},
		{[]batch.Op{drop(0, 10), add(0, 10, "a"), add(0, 10, "a")}, 2, api.ErrDup},
		{[]batch.Op{add(1, 5, "a"), add(1, 15, "a")}, 1, api.ErrLimit},
		{[]batch.Op{add(1, 5, "a"), add(0, 15, "a"), add(1, 15, "a")}, 2, api.ErrLimit},
		{[]batch.Op{add(1, 5, "a"), drop(1, 10), add(1, 15, "a"), add(1, 25, "a")}, 3, api.ErrLimit},
		{[]batch.Op{add(1, 5, "a"), add(1, 5, "a")}, 1, api.ErrDup},
		{[]batch.Op{add(1, 5, "a"), drop(1, 5), add(1, 5, "a"), drop(1, 5), add(1, 600, "a")}, 5, api.OK},
	} {
		after, n, e := batch.Apply(s, c.l)
		if e != c.e || n != c.at || e != api.OK && !same(after, batch.Store{}) {
			t.Errorf("Apply of %s gives %s, %d, %d, want %d, %d", show(c.l), show(after), n, int(e), c.at, int(c.e))
		}
		compareApply(t, s, c.l...)
	}
}

func TestATableUpToItsLimit(t *testing.T) {
	for _, tables := range []int{1, 3, 8} {
		for at := range tables {
			var l []batch.Op
			for i := range 61 {
				l = append(l, add(at, 1000-10*i, fmt.Sprint(i)))
			}
			s := store(make([][]batch.Row, tables)...)
			for _, n := range []int{58, 59, 60} {
				if after := compareApply(t, s, l[:n]...); len(after.Tables[at]) != n {
					t.Errorf("after %d changes there are %d rows", n, len(after.Tables[at]))
				}
			}
			if after, n, e := batch.Apply(s, l); e != api.ErrLimit || n != 60 || !same(after, batch.Store{}) {
				t.Errorf("Apply of 61 rows gives %s, %d, %d", show(after), n, int(e))
			}
			full := compareApply(t, s, l[:60]...)
			for _, more := range [][]batch.Op{
				{add(at, 5, "n")}, {add(at, 1000, "n")}, {set(at, 1000, "n")}, {drop(at, 1000)}, {drop(at, 410), add(at, 5, "n")}, {drop(at, 410), add(at, 5, "n"), add(at, 6, "n")},
				{set(at, 410, "n"), add(at, 5, "n")}, {add((at+1)%tables, 5, "n")}, {drop(at, 1000), drop(at, 990), add(at, 990, "n"), add(at, 5, "n"), add(at, 7, "n")},
			} {
				compareApply(t, full, more...)
			}
		}
	}
}

func TestManyChanges(t *testing.T) {
	var l []batch.Op
	for i := range 20000 {
		id := 1 + i/3%50
		l = append(l, []batch.Op{add(0, id, fmt.Sprint(i)), set(0, id, fmt.Sprint(i)), drop(0, id)}[i%3])
	}
	for _, n := range []int{20000, 19999, 19998, 19997} {
		compareApply(t, store(nil), l[:n]...)
	}
	if s, n, e := batch.Apply(store(nil), append(l[:19998:19998], drop(0, 1))); e != api.ErrId || n != 19998 || !same(s, batch.Store{}) {
		t.Errorf("Apply gives %s, %d, %d", show(s), n, int(e))
	}
}

// P15.3 and P15.6: Undo.

// withoutTexts returns changes in which no Drop has a text.
func withoutTexts(l []batch.Op) []batch.Op {
	l = slices.Clone(l)
	for i := range l {
		if l[i].Kind == batch.Drop {
			l[i].Text = ""
		}
	}
	return l
}

// undone asserts that the changes of Undo restore a store, and that they are undone by those that they undo.
func undone(t *testing.T, s batch.Store, l []batch.Op) {
	t.Helper()
	after, n, e := batch.Apply(s, l)
	if e != api.OK || n != len(l) {
		t.Fatalf("Apply(%s, %s) = %d, %d", show(s), show(l), n, int(e))
	}
	back, e := batch.Undo(s, l)
	if e != api.OK || len(back) != len(l) {
		t.Fatalf("Undo(%s, %s) = %s, %d", show(s), show(l), show(back), int(e))
	}
	if again, n, e := batch.Apply(after, back); e != api.OK || n != len(l) || !same(again, s) {
		t.Fatalf("Apply(%s, %s) = %s, %d, %d, want %s", show(after), show(back), show(again), n, int(e), show(s))
	}
	forth, e := batch.Undo(after, back)
	if want := withoutTexts(l); e != api.OK || !slices.Equal(forth, want) {
		t.Fatalf("Undo(%s, %s) = %s, %d, want %s", show(after), show(back), show(forth), int(e), show(want))
	}
}

func TestUndoRestoresTheStore(t *testing.T) {
	for _, l := range [][]batch.Op{
		nil, {add(0, 5, "n")}, {set(0, 10, "n")}, {set(0, 10, "a")}, {drop(0, 10)}, {{Kind: 3, Id: 10, Text: long(300)}}, {drop(0, 10), add(0, 10, "a")}, {drop(0, 10), drop(0, 20), drop(0, 30), drop(0, 40), drop(0, 50)},
		{add(0, 5, ""), set(0, 5, "x"), set(0, 5, ""), drop(0, 5)}, {drop(0, 50), add(0, 50, ""), set(0, 50, "x"), drop(0, 50)}, goodBatch(),
	} {
		undone(t, store(five, numbered(2), nil), l)
		undone(t, store(five, numbered(58), numbered(60)), l)
	}
	// At the limit, the row that goes makes room for the one that comes back.
	undone(t, wide(60), []batch.Op{drop(0, 300), add(0, 301, "n"), drop(0, 10), add(0, 5, "m"), set(0, 301, "")})
	undone(t, wide(59), []batch.Op{add(0, 5, "n"), drop(0, 10), add(0, 10, "m")})
	undone(t, greatest(), []batch.Op{drop(0, mostId), drop(7, mostId), set(3, mostId-1, ""), add(0, 1, long(200)), add(7, mostId, "")})
}

// P15.4: Put.

func TestPut(t *testing.T) {
	for _, c := range []struct {
		s    batch.Store
		want string
	}{
		{batch.Store{}, "\x00"},
		{store(nil), "\x01\x00"},
		{store(nil, nil), "\x02\x00\x00"},
		{store(make([][]batch.Row, 8)...), "\x08\x00\x00\x00\x00\x00\x00\x00\x00"},
		{store(table(row(1, ""))), "\x01\x01\x00\x00\x00\x01\x00\x00"},
		{store(table(row(1, "a"))), "\x01\x01\x00\x00\x00\x01\x00\x01a"},
		{store(table(row(258, "hi"))), "\x01\x01\x00\x00\x01\x02\x00\x02hi"},
		{store(table(row(mostId, "\x00\xff"))), "\x01\x01\x00\x0f\x42\x3f\x00\x02\x00\xff"},
		{store(table(row(1, long(200)))), "\x01\x01\x00\x00\x00\x01\x00\xc8" + long(200)},
		{example, "\x02\x02\x00\x00\x00\x02\x00\x01b\x00\x00\x00\x05\x00\x01x\x00"},
		{store(nil, table(row(3, "c")), nil, table(row(4, ""), row(65536, "dd"))), "\x04\x00\x01\x00\x00\x00\x03\x00\x01c\x00\x02\x00\x00\x00\x04\x00\x00\x00\x01\x00\x00\x00\x02dd"},
	} {
		if text, e := batch.Put(c.s); text != c.want || e != api.OK {
			t.Errorf("Put(%s) = %q, %d, want %q", show(c.s), text, int(e), c.want)
		}
		if s, e := batch.Take(c.want); !same(s, c.s) || e != api.OK {
			t.Errorf("Take(%q) = %s, %d, want %s", c.want, show(s), int(e), show(c.s))
		}
	}
	if text, e := batch.Put(greatest()); e != api.OK || len(text) != 1+8*(1+60*206) {
		t.Errorf("the greatest store has %d bytes, %d", len(text), int(e))
	}
	for n := range 61 {
		if text, e := batch.Put(wide(n, 60-n)); e != api.OK || text[:2] != "\x02"+string([]byte{byte(n)}) {
			t.Errorf("of %d rows, there is %s, %d", n, show(text), int(e))
		}
	}
}

// P15.4: Take.

func TestTake(t *testing.T) {
	for _, c := range []struct {
		name, text string
		want       batch.Store
		e          api.Errno
	}{
		{"nothing", "", batch.Store{}, api.ErrShort},
		{"no tables", "\x00", batch.Store{}, api.OK},
		{"eight tables", "\x08\x00\x00\x00\x00\x00\x00\x00\x00", store(make([][]batch.Row, 8)...), api.OK},
		{"nine tables", "\x09\x00\x00\x00\x00\x00\x00\x00\x00\x00", batch.Store{}, api.ErrBig},
		{"255 tables", "\xff", batch.Store{}, api.ErrBig},
		{"one table less", "\x02\x00", batch.Store{}, api.ErrShort},
		{"one table more", "\x01\x00\x00", batch.Store{}, api.ErrRest},
		{"a byte behind no tables", "\x00\x00", batch.Store{}, api.ErrRest},
		{"sixty-one rows", "\x01\x3d", batch.Store{}, api.ErrBig},
		{"sixty rows that are not there", "\x01\x3c", batch.Store{}, api.ErrShort},
		{"255 rows", "\x01\xff", batch.Store{}, api.ErrBig},
		{"sixty-one rows in the second table", "\x02\x00\x3d", batch.Store{}, api.ErrBig},
		{"the id 0", "\x01\x01\x00\x00\x00\x00\x00\x00", batch.Store{}, api.ErrStore},
		{"the id 1", "\x01\x01\x00\x00\x00\x01\x00\x00", store(table(row(1, ""))), api.OK},
		{"the id MaxId", "\x01\x01\x00\x0f\x42\x3f\x00\x00", store(table(row(mostId, ""))), api.OK},
		{"the id MaxId+1", "\x01\x01\x00\x0f\x42\x40\x00\x00", batch.Store{}, api.ErrBig},
		{"the greatest id of four bytes", "\x01\x01\xff\xff\xff\xff\x00\x00", batch.Store{}, api.ErrBig},
		{"an id above 2^31", "\x01\x01\x80\x00\x00\x01\x00\x00", batch.Store{}, api.ErrBig},
		{"an id that is too big and ends the text", "\x01\x01\x00\x0f\x42\x40", batch.Store{}, api.ErrBig},
		{"three bytes of an id", "\x01\x01\xff\xff\xff", batch.Store{}, api.ErrShort},
		{"a text of 200 bytes", "\x01\x01\x00\x00\x00\x01\x00\xc8" + long(200), store(table(row(1, long(200)))), api.OK},
		{"a text of 201 bytes", "\x01\x01\x00\x00\x00\x01\x00\xc9" + long(201), batch.Store{}, api.ErrBig},
		{"a text of 201 bytes that are not there", "\x01\x01\x00\x00\x00\x01\x00\xc9", batch.Store{}, api.ErrBig},
		{"a text of 200 bytes of which one is not there", "\x01\x01\x00\x00\x00\x01\x00\xc8" + long(199), batch.Store{}, api.ErrShort},
		{"one byte of a length", "\x01\x01\x00\x00\x00\x01\xff", batch.Store{}, api.ErrShort},
		{"ids that repeat", "\x01\x02\x00\x00\x00\x01\x00\x00\x00\x00\x00\x01\x00\x00", batch.Store{}, api.ErrStore},
		{"ids that fall", "\x01\x02\x00\x00\x00\x02\x00\x00\x00\x00\x00\x01\x00\x00", batch.Store{}, api.ErrStore},
		{"ids that rise", "\x01\x02\x00\x00\x00\x01\x00\x00\x00\x00\x00\x02\x00\x00", store(table(row(1, ""), row(2, ""))), api.OK},
		{"ids that fall from table to table", "\x02\x01\x00\x00\x00\x02\x00\x00\x01\x00\x00\x00\x01\x00\x00", store(table(row(2, "")), table(row(1, ""))), api.OK},
		// Several at once.
		{"nine tables, and a byte behind them", "\x09" + strings.Repeat("\x00", 10), batch.Store{}, api.ErrBig},
		{"the id 0, and a byte behind it", "\x01\x01\x00\x00\x00\x00\x00\x00\x00", batch.Store{}, api.ErrRest},
		{"the id 0, and sixty-one rows", "\x02\x01\x00\x00\x00\x00\x00\x00\x3d", batch.Store{}, api.ErrBig},
		{"the id 0, and nothing behind it", "\x02\x01\x00\x00\x00\x00\x00\x00", batch.Store{}, api.ErrShort},
		{"the id 0, and a text of 201 bytes", "\x01\x01\x00\x00\x00\x00\x00\xc9" + long(201), batch.Store{}, api.ErrBig},
		{"ids that repeat, and a byte behind them", "\x01\x02\x00\x00\x00\x01\x00\x00\x00\x00\x00\x01\x00\x00\x00", batch.Store{}, api.ErrRest},
		{"ids that fall, and one that is too big", "\x01\x03\x00\x00\x00\x02\x00\x00\x00\x00\x00\x01\x00\x00\x00\xff\xff\xff\x00\x00", batch.Store{}, api.ErrBig},
		{"an id that is too big, and a text that is too short", "\x01\x01\x00\xff\xff\xff\x00\x05", batch.Store{}, api.ErrBig},
		{"a text that is too short, and one that is too long", "\x01\x02\x00\x00\x00\x01\x00\x09\x00\x00\x00\x02\x00\xc9", batch.Store{}, api.ErrShort},
	} {
		if s, e := batch.Take(c.text); e != c.e || !same(s, c.want) {
			t.Errorf("%s: Take gives %s, %d, want %s, %d", c.name, show(s), int(e), show(c.want), int(c.e))
		}
		compareTake(t, c.text)
	}
}

func TestTakeOfPrefixesAndOfBytesBehind(t *testing.T) {
	for _, s := range append(small, wide(60), wide(0, 59, 60, 1), wide(9, 9, 9, 9, 9, 9, 9, 9)) {
		text, e := batch.Put(s)
		if e != api.OK {
			t.Fatal(int(e))
		}
		for n := range len(text) {
			if s, e := batch.Take(text[:n]); e != api.ErrShort || !same(s, batch.Store{}) {
				t.Errorf("the first %d of %d bytes give %s, %d", n, len(text), show(s), int(e))
			}
		}
		for _, more := range []string{"\x00", "\x01", "\xff", "x", "\x00\x00", text, long(1000)} {
			if s, e := batch.Take(text + more); e != api.ErrRest || !same(s, batch.Store{}) {
				t.Errorf("with %s behind it, %s gives %s, %d", show(more), show(text), show(s), int(e))
			}
			compareTake(t, more+text)
		}
	}
}

func TestTakeOfChangedBytes(t *testing.T) {
	for _, s := range []batch.Store{{}, store(nil, nil), example, small[6], small[9], store(table(row(1, long(200)), row(mostId, "")), nil)} {
		text := encoded(s)
		for i := range len(text) {
			for b := range 256 {
				compareTake(t, text[:i]+string([]byte{byte(b)})+text[i+1:])
			}
			compareTake(t, text[:i]+text[i+1:])
			compareTake(t, text[:i]+"\x00"+text[i:])
			compareTake(t, text[:i]+"\x01"+text[i:])
		}
	}
}

func TestTakeOfEachSmallText(t *testing.T) {
	lists(10, []byte{0, 1, 2}, func(b []byte) { compareTake(t, string(b)) })
	lists(2, []byte{0, 1, 2, 3, 7, 8, 9, 59, 60, 61, 62, 200, 201, 255}, func(b []byte) {
		compareTake(t, string(b))
		compareTake(t, string(b)+"\x00\x00\x00\x01\x00\x00")
		compareTake(t, "\x01\x01\x00\x00\x00\x01"+string(b)+long(200))
		compareTake(t, "\x01\x01\x00\x0f"+string(b)+"\x00\x01a")
		compareTake(t, "\x02\x01\x00\x00"+string(b)+"\x00\x00\x01\x00\x00\x00\x01\x00\x00")
	})
}

// What Put would return of a store that is not valid is not taken.
func TestTakeOfStoresThatAreNotValid(t *testing.T) {
	for _, base := range faulty {
		eachPlace(base, func(table, at int) {
			for _, f := range faults() {
				s := copied(base)
				f.make(&s, table, at)
				text := encoded(s)
				compareTake(t, text)
				compareTake(t, text+"\x00")
				compareTake(t, text[:len(text)-1])
			}
		})
	}
}

// A fault of each kind at each two places: the first one that is read counts, and what is not increasing only if all else is right.
func TestTwoFaultsOfAText(t *testing.T) {
	// Of ids that do not fit four bytes, others are encoded.
	all := slices.DeleteFunc(faults(), func(f fault) bool { return strings.Contains(f.name, "many") })
	base := store(numbered(3), nil, numbered(2))
	places := []place{{0, 0}, {0, 2}, {2, 0}, {2, 1}}
	for _, one := range all {
		for _, two := range all {
			for _, p := range places {
				for _, q := range places {
					s := copied(base)
					one.make(&s, p.table, p.id)
					if q.id < len(s.Tables[q.table]) && len(s.Tables) < 9 {
						two.make(&s, q.table, q.id)
					}
					text := encoded(s)
					compareTake(t, text)
					compareTake(t, text+"\x00")
					compareTake(t, text[:len(text)-1])
				}
			}
		}
	}
}

// P15.4 and P15.7: Diff.

func TestDiff(t *testing.T) {
	for _, c := range []struct {
		name string
		a, b batch.Store
		want []batch.Op
		e    api.Errno
	}{
		{"no tables", batch.Store{}, batch.Store{}, nil, api.OK},
		{"the same", example, copied(example), nil, api.OK},
		{"New in front", store(five), store(append(table(row(5, "n")), five...)), []batch.Op{add(0, 5, "n")}, api.OK},
		{"New between", store(five), store(slices.Insert(slices.Clone(five), 2, row(25, ""))), []batch.Op{add(0, 25, "")}, api.OK},
		{"New at the end", store(five), store(slices.Insert(slices.Clone(five), 5, row(mostId, long(200)))), []batch.Op{add(0, mostId, long(200))}, api.OK},
		{"Set in front", store(five), store(append(table(row(10, "n")), five[1:]...)), []batch.Op{set(0, 10, "n")}, api.OK},
		{"Set between, to the empty text", store(five), store(slices.Concat(five[:1], table(row(20, "")), five[2:])), []batch.Op{set(0, 20, "")}, api.OK},
		{"Set at the end", store(five), store(slices.Concat(five[:4], table(row(50, long(199))))), []batch.Op{set(0, 50, long(199))}, api.OK},
		{"Drop in front", store(five), store(five[1:]), []batch.Op{drop(0, 10)}, api.OK},
		{"Drop between", store(five), store(slices.Concat(five[:2], five[3:])), []batch.Op{drop(0, 30)}, api.OK},
		{"Drop at the end", store(five), store(five[:4]), []batch.Op{drop(0, 50)}, api.OK},
		{"Drop of all", store(five), store(nil), []batch.Op{drop(0, 10), drop(0, 20), drop(0, 30), drop(0, 40), drop(0, 50)}, api.OK},
		{"New of all", store(nil), store(five), []batch.Op{add(0, 10, "a"), add(0, 20, "b"), add(0, 30, ""), add(0, 40, "d"), add(0, 50, long(200))}, api.OK},
		{"a row with another id", store(table(row(2, "b"))), store(table(row(3, "b"))), []batch.Op{drop(0, 2), add(0, 3, "b")}, api.OK},
		{"each kind", store(table(row(2, "b"), row(5, "x"), row(9, "z"))), store(table(row(1, "n"), row(5, "y"), row(7, "m"), row(9, "z"))),
			[]batch.Op{drop(0, 2), add(0, 1, "n"), set(0, 5, "y"), add(0, 7, "m")}, api.OK},
		{"Drops ahead of the others", store(table(row(4, "a"), row(5, "b"), row(6, "c"))), store(table(row(1, "n"), row(5, "B"))),
			[]batch.Op{drop(0, 4), drop(0, 6), add(0, 1, "n"), set(0, 5, "B")}, api.OK},
		{"table by table", store(table(row(1, "a"), row(2, "b")), nil, table(row(1, "a"))), store(table(row(2, "B"), row(3, "c")), table(row(1, "")), nil),
			[]batch.Op{drop(0, 1), set(0, 2, "B"), add(0, 3, "c"), add(1, 1, ""), drop(2, 1)}, api.OK},
		{"the same rows in other tables", store(table(row(1, "a")), nil), store(nil, table(row(1, "a"))), []batch.Op{drop(0, 1), add(1, 1, "a")}, api.OK},
		{"a full table with one other row", wide(60), store(append(table(row(5, "n")), numbered(60)[1:]...)), []batch.Op{drop(0, 10), add(0, 5, "n")}, api.OK},
		{"one table and none", store(nil), batch.Store{}, nil, api.ErrArg},
		{"none and one table", batch.Store{}, store(nil), nil, api.ErrArg},
		{"two tables and three", store(five, nil), store(five, nil, nil), nil, api.ErrArg},
		{"eight tables and seven", wide(1, 2, 3, 4, 5, 6, 7, 8), wide(1, 2, 3, 4, 5, 6, 7), nil, api.ErrArg},
		{"nine tables and eight", store(make([][]batch.Row, 9)...), store(make([][]batch.Row, 8)...), nil, api.ErrStore},
		{"eight tables and nine", store(make([][]batch.Row, 8)...), store(make([][]batch.Row, 9)...), nil, api.ErrStore},
		{"nine tables and nine", store(make([][]batch.Row, 9)...), store(make([][]batch.Row, 9)...), nil, api.ErrStore},
		{"a wrong id in a", store(table(row(0, "a"))), store(five), nil, api.ErrStore},
		{"a wrong id in b", store(five), store(table(row(0, "a"))), nil, api.ErrStore},
		{"a wrong id in a, and other tables", store(table(row(0, "a"))), store(five, nil), nil, api.ErrStore},
		{"a wrong id in b, and other tables", store(five), store(nil, table(row(0, "a"))), nil, api.ErrStore},
	} {
		l, e := batch.Diff(c.a, c.b)
		if e != c.e || !slices.Equal(l, c.want) {
			t.Errorf("%s: Diff gives %s, %d, want %s, %d", c.name, show(l), int(e), show(c.want), int(c.e))
		}
		compareDiff(t, c.a, c.b)
	}
}

// turned asserts that the changes of Diff turn one store into the other one, and back.
func turned(t *testing.T, a, b batch.Store) {
	t.Helper()
	for range 2 {
		l := compareDiff(t, a, b)
		if after, n, e := batch.Apply(a, l); e != api.OK || n != len(l) || !same(after, b) {
			t.Fatalf("Apply(%s, %s) = %s, %d, %d, want %s", show(a), show(l), show(after), n, int(e), show(b))
		}
		undone(t, a, l)
		a, b = b, a
	}
}

func TestDiffOfEachTwoStores(t *testing.T) {
	for _, a := range valid() {
		for _, b := range valid() {
			compareDiff(t, a, b)
			if len(a.Tables) == len(b.Tables) {
				turned(t, a, b)
			}
		}
	}
	for _, a := range smallTables() {
		for _, b := range smallTables() {
			turned(t, store(a), store(b))
			for _, c := range smallTables() {
				turned(t, store(a, b), store(c, a))
			}
		}
	}
}

func TestDiffOfStoresThatAreNotValid(t *testing.T) {
	for _, base := range faulty {
		eachPlace(base, func(table, at int) {
			for _, f := range faults() {
				s := copied(base)
				f.make(&s, table, at)
				compareDiff(t, s, base)
				compareDiff(t, base, s)
				compareDiff(t, s, store())
				compareDiff(t, store(), s)
			}
		})
	}
}

// P15.2 to P15.4: what is newly allocated.

// roomy returns a list in memory that has others ahead of it and behind it, and all of that memory.
func roomy[T any](l []T, room int, other T) (list, memory []T) {
	memory = slices.Concat([]T{other, other}, l, slices.Repeat([]T{other}, room))
	return memory[2 : 2+len(l)], memory
}

// given is two stores and changes, as arguments that have room behind their lengths; and the memory of all of them.
type given struct {
	a, b    batch.Store
	l       []batch.Op
	tables  [][][]batch.Row
	rows    [][]batch.Row
	changes []batch.Op
}

// keep returns a store that has room, and notes its memory.
func (g *given) keep(s batch.Store, room int) batch.Store {
	inner := make([][]batch.Row, len(s.Tables))
	var memory []batch.Row
	for i, table := range s.Tables {
		inner[i], memory = roomy(table, room, row(77, "room"))
		g.rows = append(g.rows, memory)
	}
	other, memory := roomy(table(row(3, "other")), room, row(77, "room"))
	g.rows = append(g.rows, memory)
	tables, outer := roomy(inner, room, other)
	g.tables = append(g.tables, outer)
	return batch.Store{Tables: tables}
}

func give(a, b batch.Store, l []batch.Op, room int) *given {
	g := &given{}
	g.a, g.b = g.keep(a, room), g.keep(b, room)
	g.l, g.changes = roomy(l, room, add(7, 77, "room"))
	return g
}

// contents returns a copy of all memory of the arguments.
func (g *given) contents() given {
	c := given{changes: slices.Clone(g.changes), rows: copied(batch.Store{Tables: g.rows}).Tables}
	for _, tables := range g.tables {
		c.tables = append(c.tables, copied(batch.Store{Tables: tables}).Tables)
	}
	return c
}

func (g *given) holds(want given) bool {
	for i, tables := range g.tables {
		if !same(batch.Store{Tables: tables}, batch.Store{Tables: want.tables[i]}) {
			return false
		}
	}
	return slices.Equal(g.changes, want.changes) && slices.EqualFunc(g.rows, want.rows, slices.Equal[[]batch.Row])
}

// overwriteList writes a mark to each element of a list, to the memory behind its length, and appends marks to it.
func overwriteList[T any](l []T, mark T) {
	l = l[:cap(l)]
	for i := range l {
		l[i] = mark
	}
	for n := range len(l) + 1 {
		_ = append(l[:n], mark, mark)
	}
}

func overwriteStore(s batch.Store) {
	for _, table := range s.Tables {
		overwriteList(table, row(-5, "written"))
	}
	overwriteList(s.Tables, []batch.Row{row(-6, "written")})
}

// result is what one call returned, a store or changes, and a copy of it.
type result struct {
	name      string
	s, wanted batch.Store
	l, want   []batch.Op
}

func (r result) holds() bool { return same(r.s, r.wanted) && slices.Equal(r.l, r.want) }

// results calls all functions that return lists.
func (g *given) results(t *testing.T) []result {
	t.Helper()
	var all []result
	keepStore := func(name string, s batch.Store) {
		all = append(all, result{name: name, s: s, wanted: copied(s)})
	}
	keepOps := func(name string, l []batch.Op) {
		all = append(all, result{name: name, l: l, want: slices.Clone(l)})
	}
	for n := range len(g.l) + 1 {
		s, count, e := batch.Apply(g.a, g.l[:n])
		if e != api.OK || count != n {
			t.Fatalf("Apply(%s, %s) gives %d", show(g.a), show(g.l[:n]), int(e))
		}
		keepStore("Apply", s)
		l, _ := batch.Undo(g.a, g.l[:n])
		keepOps("Undo", l)
	}
	for _, one := range []batch.Store{g.a, g.b} {
		text, _ := batch.Put(one)
		s, e := batch.Take(text)
		if e != api.OK {
			t.Fatalf("Take(%s) gives %d", show(text), int(e))
		}
		keepStore("Take", s)
		s, _, _ = batch.Apply(one, nil)
		keepStore("Apply of no changes", s)
		for _, two := range []batch.Store{g.a, g.b} {
			l, e := batch.Diff(one, two)
			if e != api.OK {
				t.Fatalf("Diff(%s, %s) gives %d", show(one), show(two), int(e))
			}
			keepOps("Diff", l)
		}
	}
	return all
}

// apart asserts that results share memory neither with the arguments nor with each other.
func apart(t *testing.T, g *given) {
	t.Helper()
	before := g.contents()
	all := append(g.results(t), g.results(t)...)
	if !g.holds(before) {
		t.Fatalf("%s, %s, %s has been changed", show(g.a), show(g.b), show(g.l))
	}
	for i, r := range all {
		overwriteStore(r.s)
		overwriteList(r.l, add(-5, -5, "written"))
		if !g.holds(before) {
			t.Fatalf("what is written to the result of %s changes its arguments %s", r.name, show(g.a))
		}
		for _, other := range all[i+1:] {
			if !other.holds() {
				t.Fatalf("what is written to the result of %s changes that of %s", r.name, other.name)
			}
		}
	}
	again := g.results(t)
	for _, rows := range g.rows {
		overwriteList(rows, row(-7, "written"))
	}
	for _, tables := range g.tables {
		overwriteList(tables, []batch.Row{row(-8, "written")})
	}
	overwriteList(g.changes, add(-9, -9, "written"))
	for _, r := range again {
		if !r.holds() {
			t.Fatalf("what is written to the arguments of %s changes its result", r.name)
		}
	}
}

// lying are stores and changes of them whose memory is looked at.
var lying = []struct {
	a, b batch.Store
	l    []batch.Op
}{
	{store(), store(), nil},
	{store(nil), store(nil), []batch.Op{add(0, 1, "a"), add(0, 3, "b"), set(0, 1, ""), add(0, 2, "c"), drop(0, 3), drop(0, 1), drop(0, 2)}},
	{store(nil, nil), store(five, nil), []batch.Op{add(1, 1, "a")}},
	{store(five, nil), store(nil, five), []batch.Op{add(0, 25, "a"), set(0, 25, "b"), drop(0, 10), drop(0, 50), add(1, 4, ""), set(0, 20, "c")}},
	{store(five, numbered(2), numbered(9)), store(numbered(3), nil, five), goodBatch()},
	{wide(59, 60), wide(60, 59), []batch.Op{add(0, 1000, "a"), drop(1, 600), add(1, 5, "b"), set(1, 10, "c"), drop(0, 10)}},
	{wide(0, 1, 2, 3, 4, 5, 6, 7), wide(7, 6, 5, 4, 3, 2, 1, 0), []batch.Op{drop(1, 10), add(0, 10, "a"), set(7, 70, "")}},
}

func TestResultsHaveMemoryOfTheirOwn(t *testing.T) {
	for _, c := range lying {
		for _, room := range []int{0, 1, 2, 9, 70} {
			apart(t, give(c.a, c.b, c.l, room))
			apart(t, give(c.a, c.a, c.l, room))
		}
	}
}

// inside reports whether a list lies in the memory of another one, also if it has no elements.
func inside[T any](one, other []T) bool {
	size := reflect.TypeFor[T]().Size()
	from, to := reflect.ValueOf(one).Pointer(), reflect.ValueOf(one).Pointer()+max(1, uintptr(cap(one)))*size
	memory := reflect.ValueOf(other).Pointer()
	return cap(other) > 0 && from < memory+uintptr(cap(other))*size && memory < to
}

func anyInside[T any](one, other [][]T) bool {
	return slices.ContainsFunc(one, func(a []T) bool {
		return slices.ContainsFunc(other, func(b []T) bool { return inside(a, b) })
	})
}

func TestNoListLiesInAnother(t *testing.T) {
	for _, c := range lying {
		g := give(c.a, c.b, c.l, 3)
		all := g.results(t)
		for i, r := range all {
			if anyInside(r.s.Tables, g.rows) || anyInside([][][]batch.Row{r.s.Tables}, g.tables) || inside(r.l, g.changes) {
				t.Fatalf("a result of %s lies in its arguments", r.name)
			}
			for j, one := range r.s.Tables {
				if anyInside([][]batch.Row{one}, r.s.Tables[:j]) {
					t.Fatalf("two tables of a result of %s share memory", r.name)
				}
			}
			for _, other := range all[:i] {
				if anyInside(r.s.Tables, other.s.Tables) || inside(r.s.Tables, other.s.Tables) || inside(r.l, other.l) {
					t.Fatalf("a result of %s lies in that of %s", r.name, other.name)
				}
			}
		}
	}
	empty := batch.Store{Tables: make([][]batch.Row, 0, 5)}
	if s, _, _ := batch.Apply(empty, nil); inside(s.Tables, empty.Tables) {
		t.Error("a result of Apply lies in the empty store")
	}
	if l, _ := batch.Undo(empty, make([]batch.Op, 0, 5)); cap(l) > 0 {
		t.Error("of no changes, Undo returns a list with room")
	}
}

// Tables that share memory in the argument do not in a result.
func TestTablesOfAnArgumentThatAreOne(t *testing.T) {
	one := numbered(6)
	s := store(one, one, one[:3], one[3:])
	for _, l := range [][]batch.Op{nil, {add(0, 5, "n")}, {set(1, 10, "n")}, {drop(2, 30)}, {add(3, 700, "n"), set(3, 40, "m"), drop(0, 60), drop(1, 10)}} {
		before := copied(s)
		after := compareApply(t, s, l...)
		want := copied(after)
		if e := batch.Check(after); e != api.OK {
			t.Fatal(int(e))
		}
		for i, rows := range after.Tables {
			overwriteList(rows, row(-5, "written"))
			want.Tables[i] = slices.Repeat([]batch.Row{row(-5, "written")}, len(rows))
			if !same(after, want) {
				t.Fatalf("what is written to table %d changes another one: %s, want %s", i, show(after), show(want))
			}
		}
		if !same(s, before) {
			t.Fatalf("the argument is %s", show(s))
		}
	}
}

// Step by step: what is changed in a result, and given to a call again, is not lost to a later call.
func TestResultsAreArgumentsAgain(t *testing.T) {
	apply := func(s batch.Store, l ...batch.Op) batch.Store {
		t.Helper()
		after, n, e := batch.Apply(s, l)
		if e != api.OK || n != len(l) {
			t.Fatalf("Apply(%s, %s) = %d, %d", show(s), show(l), n, int(e))
		}
		return after
	}
	none := store(nil, nil)
	one := apply(none, add(0, 3, "c"))
	two := apply(one, add(0, 4, "d"))
	three := apply(one, add(0, 5, "e"))
	four := apply(two, set(0, 3, "C"), add(1, 3, "cc"))
	five := apply(two, drop(0, 3))
	six := apply(two, set(0, 4, "D"))
	seven := apply(one, drop(0, 3))
	eight := apply(seven, add(0, 9, "i"))
	for i, c := range []struct{ got, want batch.Store }{
		{none, store(nil, nil)},
		{one, store(table(row(3, "c")), nil)},
		{two, store(table(row(3, "c"), row(4, "d")), nil)},
		{three, store(table(row(3, "c"), row(5, "e")), nil)},
		{four, store(table(row(3, "C"), row(4, "d")), table(row(3, "cc")))},
		{five, store(table(row(4, "d")), nil)},
		{six, store(table(row(3, "c"), row(4, "D")), nil)},
		{seven, store(nil, nil)},
		{eight, store(table(row(9, "i")), nil)},
	} {
		if !same(c.got, c.want) {
			t.Errorf("%d: %s, want %s", i, show(c.got), show(c.want))
		}
	}
}

// P15.5 to P15.7: over drawn stores and batches.

// drawnId returns an id: one of few, one close to the greatest one, or any.
func drawnId(r *rand.Rand) int {
	switch r.Intn(4) {
	case 0:
		return mostId - r.Intn(30)
	case 1:
		return 1 + r.Intn(mostId)
	}
	return 1 + r.Intn(90)
}

// drawnText returns a text: a short one, one of any length, or a longest one.
func drawnText(r *rand.Rand) string {
	n := r.Intn(4)
	switch r.Intn(6) {
	case 0:
		n = r.Intn(mostText + 1)
	case 1:
		n = mostText
	}
	b := make([]byte, n)
	for i := range b {
		b[i] = byte(r.Intn(256))
	}
	return string(b)
}

// drawnStore returns a store with some tables, of which some are full.
func drawnStore(r *rand.Rand, tables int) batch.Store {
	m := model{tables, map[place]string{}}
	for table := range tables {
		n := r.Intn(mostRows + 1)
		switch r.Intn(4) {
		case 0:
			n = mostRows - r.Intn(2)
		case 1:
			n = r.Intn(4)
		}
		for range n {
			id := drawnId(r)
			for m.texts[place{table, id}] != "" {
				id = drawnId(r)
			}
			m.texts[place{table, id}] = "drawn"
		}
	}
	s := m.written()
	eachPlace(s, func(table, at int) { s.Tables[table][at].Text = drawnText(r) })
	return s
}

// drawnOp returns a change that is made in a store, or one that is close to it and may be rejected.
func drawnOp(r *rand.Rand, m model, mistakes int) batch.Op {
	op := batch.Op{Table: r.Intn(max(1, m.tables)), Kind: 1 + r.Intn(3), Id: drawnId(r), Text: drawnText(r)}
	there := m.ids(op.Table)
	switch {
	case op.Kind == batch.New && len(there) < mostRows:
		for slices.Contains(there, op.Id) {
			op.Id = drawnId(r)
		}
	case len(there) > 0:
		op.Kind = 2 + r.Intn(2)
		op.Id = there[r.Intn(len(there))]
	default:
		op.Kind = batch.New
	}
	if r.Intn(1000) >= mistakes {
		return op
	}
	switch r.Intn(6) {
	case 0:
		op.Kind = []int{0, 4, -1, 3, 2, 1}[r.Intn(6)]
	case 1:
		op.Table = []int{-1, m.tables, 8, 0, 7}[r.Intn(5)]
	case 2:
		op.Id = outside[r.Intn(len(outside))]
	case 3:
		op.Text = long(201 + r.Intn(2)*1000)
	case 4:
		op.Kind = 1 + r.Intn(3)
	default:
		op.Id = drawnId(r)
	}
	return op
}

// drawnBatch returns up to n changes, made one after the other in a store; of a thousand, some are changed by mistake.
func drawnBatch(r *rand.Rand, s batch.Store, n, mistakes int) []batch.Op {
	m, _ := read(s)
	var l []batch.Op
	for range r.Intn(n + 1) {
		op := drawnOp(r, m, mistakes)
		m.step(op)
		l = append(l, op)
	}
	return l
}

// P15.5: a batch that is rejected changes nothing; one that is applied has the effect of its changes, one after the other.
func whole(t *testing.T, s batch.Store, l []batch.Op) {
	t.Helper()
	before := copied(s)
	after, n, e := batch.Apply(s, l)
	if !same(s, before) {
		t.Fatalf("Apply has changed %s", show(s))
	}
	step := s
	for i, op := range l {
		next, count, one := batch.Apply(step, []batch.Op{op})
		if one != api.OK {
			if e != one || n != i || !same(after, batch.Store{}) || count != 0 {
				t.Fatalf("change %d of %s gives %d, all of them %d, %d", i, show(l), int(one), n, int(e))
			}
			return
		}
		if count != 1 {
			t.Fatalf("one change is %d", count)
		}
		step = next
	}
	if e != api.OK || n != len(l) || !same(after, step) {
		t.Fatalf("Apply(%s, %s) = %s, %d, %d, want %s", show(s), show(l), show(after), n, int(e), show(step))
	}
}

func TestDrawnBatches(t *testing.T) {
	r := rand.New(rand.NewSource(1505))
	made, refused := 0, 0
	for range 1500 {
		s := drawnStore(r, r.Intn(mostTables+1))
		l := drawnBatch(r, s, 25, 40)
		whole(t, s, l)
		compareApply(t, s, l...)
		if _, _, e := batch.Apply(s, l); e == api.OK {
			made++
			undone(t, s, l)
		} else {
			refused++
		}
	}
	if made < 300 || refused < 300 {
		t.Errorf("%d batches are made, and %d refused", made, refused)
	}
}

func TestDrawnBatchesWithoutMistakes(t *testing.T) {
	r := rand.New(rand.NewSource(1506))
	for range 300 {
		s := drawnStore(r, 1+r.Intn(mostTables))
		l := drawnBatch(r, s, 80, 0)
		after := compareApply(t, s, l...)
		undone(t, s, l)
		turned(t, s, after)
	}
}

func TestDrawnStoresAreTurnedAndTaken(t *testing.T) {
	r := rand.New(rand.NewSource(1507))
	for range 300 {
		n := r.Intn(mostTables + 1)
		a, b := drawnStore(r, n), drawnStore(r, n)
		turned(t, a, b)
		compareDiff(t, a, drawnStore(r, r.Intn(mostTables+1)))
		compareCheck(t, a)
		comparePut(t, a)
		compareGet(t, a, []int{-1, 0, r.Intn(mostTables), n - 1, n}, []int{0, 1, drawnId(r), drawnId(r), drawnId(r), mostId, mostId + 1})
		text, e := batch.Put(a)
		if e != api.OK {
			t.Fatal(int(e))
		}
		if s, e := batch.Take(text); e != api.OK || !same(s, a) {
			t.Fatalf("Take(%s) = %s, %d, want %s", show(text), show(s), int(e), show(a))
		}
		for range 20 {
			cut := r.Intn(len(text))
			compareTake(t, text[:cut])
			compareTake(t, text[:cut]+string([]byte{byte(r.Intn(256))})+text[cut+1:])
			compareTake(t, text[:cut]+string([]byte{byte(r.Intn(3))})+text[cut:])
			compareTake(t, text[cut:])
		}
	}
}

// Many calls after each other have the results that the definitions have.
func TestDrawnCalls(t *testing.T) {
	r := rand.New(rand.NewSource(15))
	for range 60 {
		s := drawnStore(r, 1+r.Intn(3))
		first, kept := s, copied(s)
		var backs [][]batch.Op
		for range 30 {
			l := drawnBatch(r, s, 6, 60)
			before := s
			s = compareApply(t, s, l...)
			if back, e := batch.Undo(before, l); e == api.OK {
				backs = append(backs, back)
			}
			compareGet(t, s, []int{0, 1, 2}, []int{1, drawnId(r), drawnId(r), mostId})
			comparePut(t, s)
		}
		turned(t, first, s)
		for _, back := range slices.Backward(backs) {
			s = compareApply(t, s, back...)
		}
		if !same(s, kept) || !same(first, kept) {
			t.Fatalf("undone, %s is %s", show(kept), show(s))
		}
	}
}
