package table_test

import (
	"slices"
	"sync"
	"testing"

	"purlin/api"
	"purlin/table"
)

// R3: every method of a nil table tells ErrNil, ahead of all else, or zero values.
func TestNil(t *testing.T) {
	var tab *table.Table
	for range 2 {
		for _, node := range edges {
			if fd, code := tab.Open(node, node); fd != 0 || code != api.ErrNil {
				t.Errorf("Open: %d, %d", fd, code)
			}
			holds(t, tab, node, false)
		}
		for fd := range most {
			isBad(t, tab, fd, api.ErrNil)
		}
		for _, fd := range strangers {
			isBad(t, tab, fd, api.ErrNil)
		}
		lists(t, tab)
	}
}

// R1: a table that no call made does not panic either.
func TestZero(t *testing.T) {
	var tab table.Table
	tab.Close(0)
	tab.Get(0)
	tab.Move(0, 1)
	tab.Holds(0)
	tab.List()
	for range most + 1 {
		tab.Open(1, 1)
	}
	tab.Close(3)
	tab.List()
}

// R5: tables hang on their own calls alone.
func TestApart(t *testing.T) {
	a, b, c := table.New(), table.New(), full(t)
	if a == b {
		t.Fatal("New told one table twice")
	}
	opens(t, a, 1, 2, 0)
	opens(t, b, 3, 4, 0)
	opens(t, b, 5, 6, 1)
	moves(t, a, 0, 70)
	moves(t, b, 0, 80)
	holds(t, a, 3, false)
	holds(t, b, 1, false)
	lists(t, a, 0)
	isBad(t, a, 1, api.ErrBad)
	closes(t, b, 0, 3)
	has(t, a, 0, table.File{Node: 1, Off: 70, Flags: 2})
	lists(t, b, 1)
	isFull(t, c)
	opens(t, a, 7, 8, 1)
	for fd := range most {
		closes(t, c, fd, file(fd).Node)
	}
	lists(t, c)
	lists(t, a, 0, 1)
	lists(t, b, 1)
	lists(t, table.New())
}

// R4: a list that was told shares no memory with another one, nor with what the table holds, its spare room neither.
func TestListsShareNothing(t *testing.T) {
	tab := full(t)
	for left := most; left >= 0; left-- {
		one, two := tab.List(), tab.List()
		before := slices.Clone(two)
		for _, list := range [][]int{one, tab.List()} {
			list = list[:cap(list)]
			for i := range list {
				list[i] = -5
			}
		}
		_ = append(tab.List(), 99)
		if !slices.Equal(two, before) {
			t.Fatalf("a list is changed by another one: %v, not %v", two, before)
		}
		lists(t, tab, before...)
		for _, fd := range before {
			has(t, tab, fd, file(fd))
		}
		if left == 0 {
			break
		}
		// What the table does behind it does not reach a list either.
		closes(t, tab, left-1, file(left-1).Node)
		if !slices.Equal(two, before) {
			t.Fatalf("a list is changed by a Close: %v, not %v", two, before)
		}
	}
	opens(t, tab, 1, 1, 0)
}

// R4: a File that was told is not changed by what is done behind it, nor the table by what becomes of the File.
func TestFilesShareNothing(t *testing.T) {
	tab := table.New()
	opens(t, tab, 4, 5, 0)
	moves(t, tab, 0, 6)
	told, _ := tab.Get(0)
	want := told
	moves(t, tab, 0, 7)
	if told != want {
		t.Fatalf("a File is changed by a Move: %v", told)
	}
	closes(t, tab, 0, 4)
	opens(t, tab, 8, 9, 0)
	if told != want {
		t.Fatalf("a File is changed by an Open: %v", told)
	}
	told.Node, told.Off, told.Flags = 10, 11, 12
	has(t, tab, 0, table.File{Node: 8, Flags: 9})
	holds(t, tab, 10, false)
}

// A table is copied as a value: what befalls one then does not reach the other.
func TestCopy(t *testing.T) {
	tab := full(t)
	other := *tab
	for fd := range most {
		closes(t, &other, fd, file(fd).Node)
	}
	isWhole(t, tab)
	opens(t, &other, 1, 2, 0)
	moves(t, tab, 0, 3)
	has(t, &other, 0, table.File{Node: 1, Flags: 2})
}

// R5: tables of their own may be made and used in several goroutines at one time.
func TestAtOneTime(t *testing.T) {
	var all sync.WaitGroup
	for range 8 {
		all.Go(func() {
			for range 50 {
				tab := table.New()
				for fd := range most {
					tab.Open(file(fd).Node, file(fd).Flags)
					tab.Move(fd, file(fd).Off)
				}
				for fd := range most {
					if got, code := tab.Get(fd); got != file(fd) || code != api.OK {
						t.Errorf("Get(%d): %v, %d", fd, got, code)
					}
				}
			}
		})
	}
	all.Wait()
}

// model is a table by the words of the chapter: the files of those descriptors that are open.
type model map[int]table.File

func (m model) open(node, flags int) (int, api.Errno) {
	if len(m) == most {
		return 0, api.ErrFiles
	}
	fd := 0
	for {
		if _, open := m[fd]; !open {
			m[fd] = table.File{Node: node, Flags: flags}
			return fd, api.OK
		}
		fd++
	}
}

func (m model) close(fd int) (int, api.Errno) {
	f, open := m[fd]
	if !open {
		return 0, api.ErrBad
	}
	delete(m, fd)
	return f.Node, api.OK
}

func (m model) move(fd, off int) api.Errno {
	f, open := m[fd]
	switch {
	case !open:
		return api.ErrBad
	case off < 0:
		return api.ErrArg
	}
	f.Off = off
	m[fd] = f
	return api.OK
}

// same asks that the table is as the model is, nodes from -3 to 8 being asked for.
func (m model) same(t *testing.T, tab *table.Table) {
	t.Helper()
	var fds []int
	for fd := -3; fd < most+3; fd++ {
		f, open := m[fd]
		if !open {
			if got, code := tab.Get(fd); got != (table.File{}) || code != api.ErrBad {
				t.Fatalf("Get(%d): %v, %d", fd, got, code)
			}
			continue
		}
		fds = append(fds, fd)
		has(t, tab, fd, f)
	}
	lists(t, tab, fds...)
	for node := -3; node <= 8; node++ {
		held := false
		for _, f := range m {
			held = held || f.Node == node
		}
		holds(t, tab, node, held)
	}
}

// P13.1: long runs of calls of all kinds tell what the words of the chapter do.
func TestLongRuns(t *testing.T) {
	for seed := range uint32(60) {
		tab, m := table.New(), model{}
		state := seed*2654435761 + 12345
		draw := func(n int) int {
			state = state*1664525 + 1013904223
			return int(state>>16) % n
		}
		for range 400 {
			// Of the seeds some open more than they close, so that both few and all are open again and again.
			switch kind := draw(20 + int(seed%4)*6); {
			case kind < 7:
				fd := draw(most+4) - 2
				got, code := tab.Close(fd)
				if want, wanted := m.close(fd); got != want || code != wanted {
					t.Fatalf("Close(%d): %d, %d, not %d, %d", fd, got, code, want, wanted)
				}
			case kind < 13:
				fd, off := draw(most+4)-2, draw(50)-5
				got := tab.Move(fd, off)
				if want := m.move(fd, off); got != want {
					t.Fatalf("Move(%d, %d): %d, not %d", fd, off, got, want)
				}
			default:
				node, flags := draw(12)-3, draw(70)-3
				got, code := tab.Open(node, flags)
				if want, wanted := m.open(node, flags); got != want || code != wanted {
					t.Fatalf("Open(%d, %d): %d, %d, not %d, %d", node, flags, got, code, want, wanted)
				}
			}
			m.same(t, tab)
		}
	}
}
