package roll_test

import (
	"bytes"
	"math"
	"slices"
	"sync"
	"testing"

	"purlin/api"
	"purlin/roll"
)

// mark stands in spare room, and is written over what was answered.
const mark = 0xEE

// handed is all that calls are handed: the bytes, the lists, and spare room behind each.
type handed struct {
	a, b []byte
	os   []api.Object
	is   []int
}

// room is how much of it is spare behind each list.
const room = 7

// roomy tells b with spare room behind it.
func roomy(b []byte) []byte {
	r := bytes.Repeat([]byte{mark}, len(b)+room)
	copy(r, b)
	return r[:len(b)]
}

// some makes it: objects that may be, some of which lie over one another, and such that may not.
func some() handed {
	h := handed{a: roomy(row(128, 1)), b: roomy(row(128, 1))}
	for _, at := range []int{0, 1, 5, 60, 61, 62, 127} {
		h.b[at] = 0
	}
	os := []api.Object{long(3, 0, 128), object(3, 9, 1, 2, 3), object(3, 11, 7, 7), object(2, 11, 7, 7), object(-1, 5, 6), {Sector: 3}, object(3, 127, 1, 2), object(3, math.MaxInt, 1), object(0, 127, 9), object(3, 127, 9)}
	h.os = make([]api.Object, 0, len(os)+room)
	for _, o := range os {
		o.Bytes = roomy(o.Bytes)
		h.os = append(h.os, o)
	}
	for i := range room {
		h.os[:cap(h.os)][len(os)+i] = api.Object{Sector: mark, At: mark, Bytes: roomy([]byte{mark, 1})}
	}
	h.is = append(make([]int, 0, 16), 8, 1, -1, 1, 99, 3, 5, 0)
	for i := range h.is[len(h.is):cap(h.is)] {
		h.is[:cap(h.is)][len(h.is)+i] = mark
	}
	return h
}

// all tells whole lists, with what stands in their spare room.
func (h handed) all() handed {
	w := handed{a: h.a[:cap(h.a)], b: h.b[:cap(h.b)], is: h.is[:cap(h.is)]}
	for _, o := range h.os[:cap(h.os)] {
		o.Bytes = o.Bytes[:cap(o.Bytes)]
		w.os = append(w.os, o)
	}
	return w
}

// as asks that all is as it is in another one, the spare room too.
func (h handed) as(t *testing.T, other handed) {
	t.Helper()
	x, y := h.all(), other.all()
	if !bytes.Equal(x.a, y.a) || !bytes.Equal(x.b, y.b) || !slices.Equal(x.is, y.is) || !same(x.os, y.os) {
		t.Fatalf("what is handed in is changed: %v, not %v", x, y)
	}
	for i := range h.os {
		if len(h.os[i].Bytes) != len(other.os[i].Bytes) || (h.os[i].Bytes == nil) != (other.os[i].Bytes == nil) {
			t.Fatalf("object %d is changed: %v, not %v", i, h.os[i], other.os[i])
		}
	}
}

// spoil writes all over it, over the spare room too.
func (h handed) spoil() {
	w := h.all()
	scribble(w.a)
	scribble(w.b)
	for _, o := range w.os {
		scribble(o.Bytes)
	}
	for i := range h.os[:cap(h.os)] {
		h.os[:cap(h.os)][i] = api.Object{Sector: mark, At: mark}
	}
	for i := range w.is {
		w.is[i] = mark
	}
}

// scribble writes all over bytes, over their spare room too.
func scribble(b []byte) {
	b = b[:cap(b)]
	for i := range b {
		b[i] = mark
	}
}

// told is all that the calls answer of what they are handed.
type told struct {
	overs                [][]byte
	sectors              []int
	diff, undo           []api.Object
	picked, others, none []api.Object
	flags                []bool
}

// tell asks all calls.
func tell(h handed) told {
	var x told
	x.overs = [][]byte{
		roll.Over(h.a, 3, h.os...), roll.Over(h.a[:5], 2, h.os...), roll.Over(h.a[:0], 0, h.os...), roll.Over(h.a, -1, h.os...),
		roll.Over(h.a, 3), roll.Over(h.a[:100], 3), roll.Over(h.a[:cap(h.a)], 3), roll.Over(nil, 3), roll.Over(nil, 3, h.os[:1]...),
	}
	x.sectors = roll.Sectors(h.os...)
	x.diff = roll.Diff(3, h.a, h.b)
	x.undo = roll.Diff(4, h.b[:100], h.a)
	x.picked, x.others = roll.Split(h.os, h.is...)
	_, x.none = roll.Split(h.os)
	for _, a := range h.os {
		x.flags = append(x.flags, roll.May(a))
		for _, b := range h.os {
			x.flags = append(x.flags, roll.Touch(a, b))
		}
	}
	return x
}

// lists tells those lists of objects that were answered.
func (x told) lists() [][]api.Object {
	return [][]api.Object{x.diff, x.undo, x.picked, x.others, x.none}
}

// alike tells whether all is the same.
func (x told) alike(y told) bool {
	return slices.EqualFunc(x.overs, y.overs, bytes.Equal) && slices.Equal(x.sectors, y.sectors) && slices.Equal(x.flags, y.flags) &&
		slices.EqualFunc(x.lists(), y.lists(), same)
}

// bytesOf tells all bytes that were answered.
func (x told) bytesOf() [][]byte {
	all := slices.Clone(x.overs)
	for _, l := range x.lists() {
		for _, o := range l {
			all = append(all, o.Bytes)
		}
	}
	return all
}

// R4: what is handed in is as it was behind each call, the room behind a slice's length among it.
func TestHandedInStays(t *testing.T) {
	calls := map[string]func(h handed){
		"May":  func(h handed) { roll.May(h.os[0]); roll.May(h.os[4]) },
		"Over": func(h handed) { roll.Over(h.a, 3, h.os...) },
		"Over 2": func(h handed) {
			roll.Over(h.a[:5], 3, h.os...)
			roll.Over(nil, 2, h.os...)
			roll.Over(h.a[:5], 3, h.os[1:2]...)
		},
		"Sectors": func(h handed) { roll.Sectors(h.os...); roll.Sectors(h.os[1:3]...) },
		"Diff":    func(h handed) { roll.Diff(3, h.a, h.b); roll.Diff(3, h.a[:5], h.b[:9]); roll.Diff(-1, h.a, h.b) },
		"Touch":   func(h handed) { roll.Touch(h.os[1], h.os[2]); roll.Touch(h.os[0], h.os[5]) },
		"Split":   func(h handed) { roll.Split(h.os, h.is...); roll.Split(h.os[:3], h.is[1:2]...) },
		"all":     func(h handed) { tell(h) },
	}
	for name, call := range calls {
		t.Run(name, func(t *testing.T) {
			h := some()
			h.as(t, some())
			for range 2 {
				call(h)
				h.as(t, some())
			}
		})
	}
}

// R4: nothing of what is handed in is in an answer: what is written over it does not reach there.
func TestAnswersShareNothingHandedIn(t *testing.T) {
	want := tell(some())
	h := some()
	got := tell(h)
	h.spoil()
	if !got.alike(want) {
		t.Errorf("what is written over what was handed in reaches an answer: %v, not %v", got, want)
	}
}

// R4: what is written over an answer, and behind it, reaches nothing that was handed in.
func TestHandedInSharesNothingAnswered(t *testing.T) {
	n := len(tell(some()).bytesOf())
	for i := range n {
		h := some()
		b := tell(h).bytesOf()[i]
		_ = append(b, mark, mark, mark)
		scribble(b)
		h.as(t, some())
	}
	h := some()
	x := tell(h)
	for _, l := range x.lists() {
		l = l[:cap(l)]
		for i := range l {
			l[i] = api.Object{Sector: -mark, At: -mark, Bytes: []byte{mark}}
		}
	}
	for i := range x.sectors[:cap(x.sectors)] {
		x.sectors[:cap(x.sectors)][i] = -mark
	}
	h.as(t, some())
}

// R4: what is written over one of the answers, and behind it, reaches no other one, neither of that call nor of others.
func TestAnswersShareNothing(t *testing.T) {
	h := some()
	want := tell(h)
	copies := func() [][]byte {
		var c [][]byte
		for _, b := range want.bytesOf() {
			c = append(c, slices.Clone(b))
		}
		return c
	}()
	for i := range copies {
		one, two := tell(h), tell(h)
		all := one.bytesOf()
		_ = append(all[i], mark, mark, mark)
		scribble(all[i])
		for k := range all {
			if k != i && !bytes.Equal(all[k], copies[k]) {
				t.Fatalf("bytes %d reach bytes %d: %v, not %v", i, k, all[k], copies[k])
			}
		}
		if !two.alike(want) || !tell(h).alike(want) {
			t.Fatalf("bytes %d reach another answer", i)
		}
	}
	// The lists of the objects.
	for i := range want.lists() {
		one, two := tell(h), tell(h)
		l := one.lists()[i]
		_ = append(l, api.Object{Sector: mark})
		l = l[:cap(l)]
		for k := range l {
			l[k] = api.Object{Sector: mark, At: mark}
		}
		for k, other := range one.lists() {
			if k != i && !same(other, want.lists()[k]) {
				t.Fatalf("list %d reaches list %d: %v", i, k, other)
			}
		}
		if !two.alike(want) {
			t.Fatalf("list %d reaches another answer", i)
		}
	}
	one, two := roll.Sectors(h.os...), roll.Sectors(h.os...)
	_ = append(one, mark)
	clear(one[:cap(one)])
	if !slices.Equal(two, want.sectors) {
		t.Errorf("Sectors' answer reaches another: %v", two)
	}
}

// R4: objects that have one memory with each other when they are handed in have none when they are answered.
func TestSplitPartsMemory(t *testing.T) {
	b := []byte{1, 2, 3, 4}
	os := []api.Object{object(1, 0, b...), {Sector: 2, Bytes: b}, {Sector: 3, Bytes: b[:2]}, {Sector: 4, Bytes: b[1:]}}
	os[0].Bytes = b
	want := [][]byte{{1, 2, 3, 4}, {1, 2, 3, 4}, {1, 2}, {2, 3, 4}}
	for _, is := range [][]int{nil, {0, 1, 2, 3}, {0, 2}, {3, 1}} {
		x, y := roll.Split(os, is...)
		all := append(slices.Clone(x), y...)
		for i, o := range all {
			_ = append(o.Bytes, mark)
			scribble(o.Bytes)
			for _, other := range all[i+1:] {
				if !bytes.Equal(other.Bytes, want[other.Sector-1]) {
					t.Fatalf("Split(.., %v): object %d reaches that of %d: %v", is, i, other.Sector, other.Bytes)
				}
			}
		}
		if !bytes.Equal(b, []byte{1, 2, 3, 4}) {
			t.Fatalf("Split(.., %v) reaches what was handed in: %v", is, b)
		}
	}
}

// R4: bytes that are handed in twice, as old, as now, and as an object's: they stay, and what is told is told as of others.
func TestOneMemoryHandedInTwice(t *testing.T) {
	b := row(128, 1)
	want := overByHand(row(128, 1), 3, []api.Object{object(3, 100, row(28, 1)...), object(3, 0, row(20, 1)[10:]...)})
	os := []api.Object{{Sector: 3, At: 100, Bytes: b[:28]}, {Sector: 3, Bytes: b[10:20]}}
	if got := roll.Over(b, 3, os...); !bytes.Equal(got, want) {
		t.Errorf("Over: %v, not %v", got, want)
	}
	if got := roll.Diff(3, b, b); len(got) != 0 {
		t.Errorf("Diff: %v", got)
	}
	got := roll.Diff(3, b[:64], b[32:96])
	if want := diffByHand(3, row(128, 1)[:64], row(128, 1)[32:96]); !same(got, want) {
		t.Errorf("Diff: %v, not %v", got, want)
	}
	if !bytes.Equal(b, row(128, 1)) {
		t.Errorf("then %v", b)
	}
}

// R4, R5: nothing is kept: of the same the same is told again, whatever was asked between.
func TestAgain(t *testing.T) {
	want := tell(some())
	for range 3 {
		h := some()
		tell(h)
		h.spoil()
		tell(h)
		tell(handed{a: row(150, 9), b: row(100, 9), is: []int{0}, os: []api.Object{{}, object(3, 0, mark)}})
		if got := tell(some()); !got.alike(want) {
			t.Fatalf("%v, not %v", got, want)
		}
	}
}

// R5: what is told hangs on the bytes, not on the room behind them, nor on whether a list is nil or empty.
func TestRoomDoesNotMatter(t *testing.T) {
	h, c := some(), some()
	c.a, c.b, c.is = slices.Clip(slices.Clone(c.a)), slices.Clip(slices.Clone(c.b)), slices.Clip(slices.Clone(c.is))
	c.os = slices.Clip(slices.Clone(c.os))
	for i := range c.os {
		c.os[i].Bytes = append([]byte(nil), c.os[i].Bytes...)
	}
	if got, want := tell(c), tell(h); !got.alike(want) {
		t.Errorf("%v, not %v", got, want)
	}
}

// R5: the calls may be made from several goroutines at one time, of the same lists too.
func TestSideBySide(t *testing.T) {
	h := some()
	want := tell(some())
	var all sync.WaitGroup
	for range 8 {
		all.Go(func() {
			for range 100 {
				if got := tell(h); !got.alike(want) {
					t.Errorf("%v, not %v", got, want)
					return
				}
			}
		})
	}
	all.Wait()
	h.as(t, some())
}
