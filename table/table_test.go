package table_test

import (
	"math"
	"slices"
	"testing"

	"purlin/api"
	"purlin/table"
)

// most is how many descriptors may be open.
const most = 16

// edges are numbers that a node, flags, or a place in a file may be told as, the least and the greatest ones among them.
var edges = []int{0, 1, 2, 15, 16, 17, 32, 63, 64, 1000, 1 << 31, 1 << 40, math.MaxInt - 1, math.MaxInt, -1, -2, -16, -17, -1 << 31, math.MinInt + 1, math.MinInt}

// strangers are descriptors that no table ever has.
var strangers = []int{-1, -2, -15, -16, -17, -256, -1 << 32, math.MinInt, math.MinInt + 1, 16, 17, 31, 32, 256, 1 << 31, 1 << 32, 1<<32 + 1, math.MaxInt - 1, math.MaxInt}

// opens asks that Open tells this descriptor, and that it begins at 0 with its node and flags.
func opens(t *testing.T, tab *table.Table, node, flags, want int) {
	t.Helper()
	if fd, code := tab.Open(node, flags); fd != want || code != api.OK {
		t.Fatalf("Open(%d, %d): %d, %d, not %d", node, flags, fd, code, want)
	}
	has(t, tab, want, table.File{Node: node, Flags: flags})
}

// isFull asks that Open tells just ErrFiles.
func isFull(t *testing.T, tab *table.Table) {
	t.Helper()
	for _, node := range edges {
		if fd, code := tab.Open(node, node); fd != 0 || code != api.ErrFiles {
			t.Fatalf("Open(%d, %d) of a full one: %d, %d", node, node, fd, code)
		}
	}
}

// closes asks that Close tells this node, and that the descriptor is none behind it.
func closes(t *testing.T, tab *table.Table, fd, want int) {
	t.Helper()
	if node, code := tab.Close(fd); node != want || code != api.OK {
		t.Fatalf("Close(%d): %d, %d, not %d", fd, node, code, want)
	}
	isBad(t, tab, fd, api.ErrBad)
}

// has asks that Get tells just this of fd.
func has(t *testing.T, tab *table.Table, fd int, want table.File) {
	t.Helper()
	if got, code := tab.Get(fd); got != want || code != api.OK {
		t.Fatalf("Get(%d): %v, %d, not %v", fd, got, code, want)
	}
}

// moves asks that Move goes well, and that fd stands there, its node and flags as they were.
func moves(t *testing.T, tab *table.Table, fd, off int) {
	t.Helper()
	want, _ := tab.Get(fd)
	if code := tab.Move(fd, off); code != api.OK {
		t.Fatalf("Move(%d, %d): %d", fd, off, code)
	}
	want.Off = off
	has(t, tab, fd, want)
}

// isBad asks that Close, Get and Move tell just this code of fd, Move also if off may not be.
func isBad(t *testing.T, tab *table.Table, fd int, want api.Errno) {
	t.Helper()
	if node, code := tab.Close(fd); node != 0 || code != want {
		t.Fatalf("Close(%d): %d, %d, not %d", fd, node, code, want)
	}
	if file, code := tab.Get(fd); file != (table.File{}) || code != want {
		t.Fatalf("Get(%d): %v, %d, not %d", fd, file, code, want)
	}
	for _, off := range edges {
		if code := tab.Move(fd, off); code != want {
			t.Fatalf("Move(%d, %d): %d, not %d", fd, off, code, want)
		}
	}
}

// lists asks that List tells just these descriptors.
func lists(t *testing.T, tab *table.Table, want ...int) {
	t.Helper()
	if got := tab.List(); !slices.Equal(got, want) {
		t.Fatalf("List: %v, not %v", got, want)
	}
}

// holds asks what Holds tells of a node.
func holds(t *testing.T, tab *table.Table, node int, want bool) {
	t.Helper()
	if got := tab.Holds(node); got != want {
		t.Fatalf("Holds(%d): %v, not %v", node, got, want)
	}
}

// file is what the fd-th descriptor of a full table has.
func file(fd int) table.File {
	return table.File{Node: 100 + fd, Off: 1000 * (fd + 1), Flags: 32 + fd}
}

// full makes a table of which all are open, each as file tells.
func full(t *testing.T) *table.Table {
	t.Helper()
	tab := table.New()
	for fd := range most {
		f := file(fd)
		opens(t, tab, f.Node, f.Flags, fd)
		moves(t, tab, fd, f.Off)
	}
	return tab
}

// isWhole asks that a table is as full made it.
func isWhole(t *testing.T, tab *table.Table) {
	t.Helper()
	lists(t, tab, 0, 1, 2, 3, 4, 5, 6, 7, 8, 9, 10, 11, 12, 13, 14, 15)
	for fd := range most {
		has(t, tab, fd, file(fd))
		holds(t, tab, file(fd).Node, true)
	}
}

// P13.1: New: no descriptor is open, and no node is held, 0 neither.
func TestNew(t *testing.T) {
	tab := table.New()
	if tab == nil {
		t.Fatal("New told nil")
	}
	lists(t, tab)
	for fd := range most {
		isBad(t, tab, fd, api.ErrBad)
	}
	for _, fd := range strangers {
		isBad(t, tab, fd, api.ErrBad)
	}
	for _, node := range edges {
		holds(t, tab, node, false)
	}
	opens(t, tab, 7, 0, 0)
}

// P13.1: the example of the chapter.
func TestExample(t *testing.T) {
	tab := table.New()
	opens(t, tab, 5, 0, 0)
	opens(t, tab, 6, 0, 1)
	closes(t, tab, 0, 5)
	opens(t, tab, 7, 0, 0)
	lists(t, tab, 0, 1)
}

// P13.1: Open: nodes and flags of any number, each beside each.
func TestOpenOfAnyNumbers(t *testing.T) {
	for _, node := range edges {
		for _, flags := range edges {
			tab := table.New()
			opens(t, tab, node, flags, 0)
			opens(t, tab, flags, node, 1)
			has(t, tab, 0, table.File{Node: node, Flags: flags})
			holds(t, tab, node, true)
			holds(t, tab, flags, true)
			moves(t, tab, 0, math.MaxInt)
			has(t, tab, 1, table.File{Node: flags, Flags: node})
			closes(t, tab, 0, node)
			holds(t, tab, node, node == flags)
			closes(t, tab, 1, flags)
			holds(t, tab, flags, false)
		}
	}
}

// P13.1: Open: MaxOpen of them, rising from 0; of one more ErrFiles, and nothing is changed.
func TestOpenOfAll(t *testing.T) {
	if api.MaxOpen != most {
		t.Fatalf("MaxOpen is %d", api.MaxOpen)
	}
	tab := full(t)
	for range 3 {
		isFull(t, tab)
		isWhole(t, tab)
		holds(t, tab, 0, false)
		holds(t, tab, math.MaxInt, false)
	}
	for fd := range most {
		closes(t, tab, fd, file(fd).Node)
		opens(t, tab, file(fd).Node, file(fd).Flags, fd)
		moves(t, tab, fd, file(fd).Off)
		isFull(t, tab)
		isWhole(t, tab)
	}
}

// P13.1: Open: the least one that is free, whichever were closed, in any order; it begins at 0.
func TestOpenTellsTheLeast(t *testing.T) {
	for _, order := range [][]int{
		{0}, {15}, {7}, {0, 15}, {15, 0}, {3, 4, 5}, {5, 4, 3}, {12, 2, 9, 0, 15, 7}, {1, 3, 5, 7, 9, 11, 13, 15}, {14, 0, 12, 2, 10, 4, 8, 6},
		{0, 1, 2, 3, 4, 5, 6, 7, 8, 9, 10, 11, 12, 13, 14, 15}, {15, 14, 13, 12, 11, 10, 9, 8, 7, 6, 5, 4, 3, 2, 1, 0}, {8, 3, 15, 0, 11, 6, 1, 13, 9, 4, 14, 2, 10, 7, 12, 5},
	} {
		tab := full(t)
		for _, fd := range order {
			closes(t, tab, fd, file(fd).Node)
		}
		rising := slices.Sorted(slices.Values(order))
		for i, fd := range rising {
			opens(t, tab, -i, -2*i, fd)
		}
		isFull(t, tab)
		for fd := range most {
			if i, again := slices.BinarySearch(rising, fd); again {
				has(t, tab, fd, table.File{Node: -i, Flags: -2 * i})
			} else {
				has(t, tab, fd, file(fd))
			}
		}
	}
}

// P13.1: Open, List: of every set of descriptors that are closed.
func TestEachSetOfClosedOnes(t *testing.T) {
	for set := range 1 << most {
		tab := table.New()
		for fd := range most {
			tab.Open(fd, 0)
		}
		var left []int
		free := most
		for fd := most - 1; fd >= 0; fd-- {
			if set>>fd&1 == 1 {
				tab.Close(fd)
				free = fd
			} else {
				left = append([]int{fd}, left...)
			}
		}
		lists(t, tab, left...)
		if free == most {
			isFull(t, tab)
			continue
		}
		opens(t, tab, 99, 1, free)
	}
}

// P13.1: a descriptor that is opened anew begins at 0, wherever it stood, with its own node and flags.
func TestOpenAnew(t *testing.T) {
	tab := table.New()
	opens(t, tab, 1, 1, 0)
	opens(t, tab, 2, 2, 1)
	for i, off := range []int{1, 0, 127, 128, 20736, 1 << 40, math.MaxInt} {
		moves(t, tab, 0, off)
		moves(t, tab, 1, off)
		closes(t, tab, 0, i+1)
		opens(t, tab, i+2, 50-i, 0)
		has(t, tab, 1, table.File{Node: 2, Off: off, Flags: 2})
	}
}

// P13.1: Close: its node, whatever it is; a second time ErrBad; the others stay.
func TestClose(t *testing.T) {
	for gone := range most {
		tab := full(t)
		closes(t, tab, gone, file(gone).Node)
		isBad(t, tab, gone, api.ErrBad)
		for fd := range most {
			if fd != gone {
				has(t, tab, fd, file(fd))
			}
			holds(t, tab, file(fd).Node, fd != gone)
		}
		if got := tab.List(); slices.Contains(got, gone) || len(got) != most-1 {
			t.Fatalf("List without %d: %v", gone, got)
		}
	}
	tab := table.New()
	for _, node := range edges {
		opens(t, tab, node, 3, 0)
		moves(t, tab, 0, 77)
		closes(t, tab, 0, node)
	}
	lists(t, tab)
}

// P13.1: Close, Get, Move: ErrBad of descriptors that are none, were never open, or were closed; nothing is changed.
func TestNoDescriptor(t *testing.T) {
	tab := full(t)
	for _, fd := range strangers {
		isBad(t, tab, fd, api.ErrBad)
	}
	isWhole(t, tab)

	tab = table.New()
	opens(t, tab, 8, 9, 0)
	opens(t, tab, 10, 11, 1)
	opens(t, tab, 12, 13, 2)
	closes(t, tab, 1, 10)
	for range 3 {
		for fd := 1; fd < most; fd++ {
			if fd != 2 {
				isBad(t, tab, fd, api.ErrBad)
			}
		}
		for _, fd := range strangers {
			isBad(t, tab, fd, api.ErrBad)
		}
		lists(t, tab, 0, 2)
		has(t, tab, 0, table.File{Node: 8, Flags: 9})
		has(t, tab, 2, table.File{Node: 12, Flags: 13})
	}
	// Nothing that was asked of a descriptor that is none reaches the one that is opened in its place.
	opens(t, tab, 14, 15, 1)
	opens(t, tab, 16, 17, 3)
}

// P13.1: Move: to any place from 0 on, forth and back; the others stay where they are.
func TestMove(t *testing.T) {
	for mover := range most {
		tab := full(t)
		for _, off := range []int{0, 1, 0, 5, 4, 127, 128, 20736, 20737, 1 << 31, 1 << 40, 1<<40 + 1, math.MaxInt - 1, math.MaxInt, math.MaxInt, 0, 3} {
			moves(t, tab, mover, off)
			for fd := range most {
				if fd != mover {
					has(t, tab, fd, file(fd))
				}
			}
		}
		moves(t, tab, mover, file(mover).Off)
		isWhole(t, tab)
	}
}

// P13.1: Move: ErrArg below 0, if it is open; it stands where it stood.
func TestMoveBelow(t *testing.T) {
	tab := full(t)
	for fd := range most {
		for _, off := range []int{-1, -2, -128, -1 << 31, -1 << 40, math.MinInt + 1, math.MinInt} {
			if code := tab.Move(fd, off); code != api.ErrArg {
				t.Fatalf("Move(%d, %d): %d", fd, off, code)
			}
		}
	}
	isWhole(t, tab)
	moves(t, tab, 4, 0)
	if code := tab.Move(4, -1); code != api.ErrArg {
		t.Fatalf("Move below 0 from 0: %d", code)
	}
	has(t, tab, 4, table.File{Node: file(4).Node, Flags: file(4).Flags})
}

// P13.1: Holds: as long as one of the descriptors that have the node is open, whichever that is.
func TestHolds(t *testing.T) {
	for _, node := range edges {
		for last := range 4 {
			tab := table.New()
			for fd, n := range []int{node, node ^ 1, node, node, node ^ 2, node} {
				opens(t, tab, n, 0, fd)
			}
			order := slices.Delete([]int{0, 2, 3, 5}, last, last+1)
			for _, fd := range order {
				closes(t, tab, fd, node)
				holds(t, tab, node, true)
			}
			closes(t, tab, []int{0, 2, 3, 5}[last], node)
			holds(t, tab, node, false)
			holds(t, tab, node^1, true)
			holds(t, tab, node^2, true)
			holds(t, tab, node^3, false)
			opens(t, tab, node, 0, 0)
			holds(t, tab, node, true)
		}
	}
}

// P13.1: Holds asks for the node, not for the descriptor, where it stands, or its flags.
func TestHoldsTheNodeAlone(t *testing.T) {
	tab := table.New()
	opens(t, tab, 20, 30, 0)
	opens(t, tab, 21, 31, 1)
	moves(t, tab, 0, 40)
	for _, node := range []int{0, 1, 2, 30, 31, 40, 19, 22, -20} {
		holds(t, tab, node, false)
	}
	holds(t, tab, 20, true)
	holds(t, tab, 21, true)
}

// P13.1: List: of none, of some, of all, rising, whatever the order in which they were opened and closed.
func TestList(t *testing.T) {
	tab := table.New()
	var all []int
	for fd := range most {
		lists(t, tab, all...)
		opens(t, tab, most-fd, 0, fd)
		all = append(all, fd)
	}
	lists(t, tab, all...)
	for _, fd := range []int{9, 0, 15, 4, 8, 1} {
		closes(t, tab, fd, most-fd)
	}
	lists(t, tab, 2, 3, 5, 6, 7, 10, 11, 12, 13, 14)
	opens(t, tab, 1, 0, 0)
	opens(t, tab, 1, 0, 1)
	opens(t, tab, 1, 0, 4)
	lists(t, tab, 0, 1, 2, 3, 4, 5, 6, 7, 10, 11, 12, 13, 14)
	for _, fd := range tab.List() {
		tab.Close(fd)
	}
	lists(t, tab)
}
