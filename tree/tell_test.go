package tree_test

import (
	"math"
	"slices"
	"strings"
	"testing"

	"purlin/api"
	"purlin/tree"
)

// sees asks that Nodes tells just these.
func sees(t *testing.T, tr *tree.Tree, want ...api.Node) {
	t.Helper()
	if got := tr.Nodes(); !alikeNodes(got, want) {
		t.Fatalf("Nodes: %+v, not %+v", got, want)
	}
}

// P14.1, P14.2: a new tree is its root, and nothing is open.
func TestNew(t *testing.T) {
	tr := tree.New()
	sees(t, tr, api.Node{Path: "/", Number: api.Root, Kind: api.KindDir, Links: 1})
	needs(t, tr, 0, 1)
	for fd := range 16 {
		fails(t, tr, fsync(fd), api.ErrBad)
	}
	if n := tr.Number("/"); n != 1 {
		t.Errorf("Number: %d", n)
	}
	tells(t, tr, stat("/"), directory(0))
	tells(t, tr, readdir("/"), names())
}

// P14.2: Nodes tells all nodes by all their paths, by rising paths, with what each kind holds.
func TestNodes(t *testing.T) {
	tr := tree.New()
	goes(t, tr, mkdir("/b"), mkdir("/b/c"))
	makes(t, tr, "/b/f", "123")
	goes(t, tr, symlink("../b/f", "/b/c/l"), link("/b/f", "/a"), link("/b/c/l", "/b/c/k"))
	makes(t, tr, "/b.", "")
	makes(t, tr, "/b0", zeros(2))
	goes(t, tr, link("/b/f", "/b/c/f"))
	// By the bytes of whole paths: . is less than a slash, and 0 is more.
	sees(t, tr,
		api.Node{Path: "/", Number: 1, Kind: api.KindDir, Links: 1},
		api.Node{Path: "/a", Number: 4, Kind: api.KindFile, Links: 3, Data: []byte("123")},
		api.Node{Path: "/b", Number: 2, Kind: api.KindDir, Links: 1},
		api.Node{Path: "/b.", Number: 6, Kind: api.KindFile, Links: 1},
		api.Node{Path: "/b/c", Number: 3, Kind: api.KindDir, Links: 1},
		api.Node{Path: "/b/c/f", Number: 4, Kind: api.KindFile, Links: 3, Data: []byte("123")},
		api.Node{Path: "/b/c/k", Number: 5, Kind: api.KindLink, Links: 2, Data: []byte("../b/f")},
		api.Node{Path: "/b/c/l", Number: 5, Kind: api.KindLink, Links: 2, Data: []byte("../b/f")},
		api.Node{Path: "/b/f", Number: 4, Kind: api.KindFile, Links: 3, Data: []byte("123")},
		api.Node{Path: "/b0", Number: 7, Kind: api.KindFile, Links: 1, Data: []byte("\x00\x00")})
	// What has no name has no path, also if it is open.
	opened(t, tr, "/b.", 0)
	goes(t, tr, unlink("/b."), unlink("/b0"), unlink("/a"), unlink("/b/f"), unlink("/b/c/k"))
	sees(t, tr,
		api.Node{Path: "/", Number: 1, Kind: api.KindDir, Links: 1},
		api.Node{Path: "/b", Number: 2, Kind: api.KindDir, Links: 1},
		api.Node{Path: "/b/c", Number: 3, Kind: api.KindDir, Links: 1},
		api.Node{Path: "/b/c/f", Number: 4, Kind: api.KindFile, Links: 1, Data: []byte("123")},
		api.Node{Path: "/b/c/l", Number: 5, Kind: api.KindLink, Links: 1, Data: []byte("../b/f")})
}

// P14.2: numbers go from Root on, in the order in which nodes are made, and none is taken again.
func TestNumber(t *testing.T) {
	tr := tree.New()
	is := func(p string, want int) {
		t.Helper()
		if got := tr.Number(p); got != want {
			t.Fatalf("Number(%q): %d, not %d", p, got, want)
		}
	}
	goes(t, tr, mkdir("/d"))
	makes(t, tr, "/d/f", "")
	goes(t, tr, symlink("d", "/l"), symlink("l/f", "/m"), symlink("none", "/n"), link("/d/f", "/g"))
	for p, want := range map[string]int{"/": 1, "/..": 1, "/d": 2, "/d/f": 3, "/g": 3, "/l": 4, "/l/f": 3, "/l/..": 1, "/m": 5, "/n": 6, "/d/../l/./f": 3} {
		is(p, want)
	}
	for _, p := range []string{"", "d", "/x", "/d/x", "/g/x", "/m/x", "/n/x", "/n/..", "/d\x00", strings.Repeat("/d", 21), "/" + long('x', 25), strings.Repeat("/", 201)} {
		is(p, 0)
	}
	// What told a code took none.
	tr.Do(mkdir("/d"))
	tr.Do(open("/x/y", api.FCreate))
	tr.Do(symlink("", "/y"))
	tr.Do(symlink("x", "/g"))
	goes(t, tr, mkdir("/e"))
	is("/e", 7)
	goes(t, tr, rmdir("/e"), unlink("/n"), mkdir("/e"))
	is("/e", 8)
	is("/n", 0)
	goes(t, tr, rename("/e", "/d/e"), rename("/m", "/g"))
	is("/l/e", 8)
	is("/g", 5)
	is("/d/f", 3)
}

// some are nodes by which Same is asked: two paths are one file's.
func some() []api.Node {
	return []api.Node{
		{Path: "/", Number: 1, Kind: api.KindDir, Links: 1},
		{Path: "/a", Number: 5, Kind: api.KindFile, Links: 2, Data: []byte("12")},
		{Path: "/b", Number: 5, Kind: api.KindFile, Links: 2, Data: []byte("12")},
		{Path: "/c", Number: 7, Kind: api.KindFile, Links: 2, Data: []byte("12")},
		{Path: "/d", Number: 7, Kind: api.KindFile, Links: 2, Data: []byte("12")},
		{Path: "/l", Number: 2, Kind: api.KindLink, Links: 1, Data: []byte("a")},
	}
}

// isSame asks that Same tells this, whichever list is the first.
func isSame(t *testing.T, a, b []api.Node, want bool) {
	t.Helper()
	if tree.Same(a, b) != want || tree.Same(b, a) != want {
		t.Errorf("Same(%+v, %+v): not %v", a, b, want)
	}
}

// P14.2: Same tells whether two lists are alike but for Numbers.
func TestSame(t *testing.T) {
	isSame(t, nil, nil, true)
	isSame(t, nil, []api.Node{}, true)
	isSame(t, some(), some(), true)
	isSame(t, some(), nil, false)
	isSame(t, some(), some()[:5], false)
	isSame(t, some(), append(some(), some()[5]), false)
	isSame(t, []api.Node{{}}, nil, false)
	isSame(t, []api.Node{{Data: []byte{}}}, []api.Node{{Data: nil}}, true)
	for k := range some() {
		for _, change := range []func(n *api.Node){
			func(n *api.Node) { n.Path += "x" },
			func(n *api.Node) { n.Path = "" },
			func(n *api.Node) { n.Kind++ },
			func(n *api.Node) { n.Links++ },
			func(n *api.Node) { n.Links = -n.Links },
			func(n *api.Node) { n.Data = append(n.Data, 0) },
			func(n *api.Node) { n.Data = append([]byte{'x'}, n.Data...) },
		} {
			other := some()
			change(&other[k])
			isSame(t, some(), other, false)
		}
	}
	// Other bytes, as many.
	other := some()
	other[5].Data = []byte("b")
	isSame(t, some(), other, false)
	other = some()
	slices.Reverse(other)
	isSame(t, some(), other, false)
}

// P14.2: of Same two paths have one Number in the one just if they have one in the other, whatever the Numbers are.
func TestSameNumbers(t *testing.T) {
	for _, c := range []struct {
		numbers []int
		want    bool
	}{
		{[]int{1, 5, 5, 7, 7, 2}, true},
		{[]int{10, 2, 2, 1, 1, 5}, true},
		{[]int{7, 1, 1, 5, 5, 0}, true},
		{[]int{-1, math.MinInt, math.MinInt, math.MaxInt, math.MaxInt, 0}, true},
		// Apart in the one alone.
		{[]int{1, 5, 6, 7, 7, 2}, false},
		{[]int{1, 5, 5, 7, 8, 2}, false},
		// As one in the other alone.
		{[]int{1, 5, 5, 5, 5, 2}, false},
		{[]int{1, 5, 5, 7, 7, 1}, false},
		{[]int{7, 5, 5, 7, 7, 2}, false},
		{[]int{0, 0, 0, 0, 0, 0}, false},
		// As many of each, but other ones.
		{[]int{1, 5, 7, 5, 7, 2}, false},
		{[]int{1, 5, 7, 7, 5, 2}, false},
		{[]int{1, 7, 5, 5, 7, 2}, false},
	} {
		other := some()
		for k := range other {
			other[k].Number = c.numbers[k]
		}
		isSame(t, some(), other, c.want)
	}
	// Each pair of each row of numbers up to four long, by the words of the chapter.
	for a := range 256 {
		for b := range 256 {
			x, y := make([]api.Node, 4), make([]api.Node, 4)
			want := true
			for k := range x {
				x[k].Number, y[k].Number = a>>(2*k)&3, b>>(2*k)&3
				for j := range k {
					want = want && (x[j].Number == x[k].Number) == (y[j].Number == y[k].Number)
				}
			}
			if tree.Same(x, y) != want {
				t.Fatalf("Same(%v, %v): not %v", x, y, want)
			}
		}
	}
}

// P14.2: a copy is the same, what is open too, and goes its own way; and so does what it was made of.
func TestCopy(t *testing.T) {
	tr := tree.New()
	goes(t, tr, mkdir("/d"), symlink("d", "/l"))
	fd := opens(t, tr, "/d/f", "abcdef")
	lost := opens(t, tr, "/g", "lost")
	goes(t, tr, unlink("/g"))
	tells(t, tr, seek(fd, 2, 0), number(2))
	over := opened(t, tr, "/d/f", api.FWrite|api.FAppend)
	root := opened(t, tr, "/", 0)
	before := seen(tr)
	c := tr.Copy()
	before.still(t, c, api.Op{})

	// The copy alone.
	tells(t, c, read(fd, 2), data("cd"))
	tells(t, c, write(over, "XY"), number(2))
	tells(t, c, write(lost, "LOST!"), number(5))
	goes(t, c, mkdir("/d/e"), rename("/d", "/x"), unlink("/l"), shut(root))
	makes(t, c, "/new", "")
	before.still(t, tr, api.Op{})
	behind := seen(c)

	// Then the other one.
	tells(t, tr, read(fd, 3), data("cde"))
	tells(t, tr, pwrite(fd, 0, "Z"), number(1))
	goes(t, tr, shut(lost), trunc(over, 1), mkdir("/m"), rmdir("/m"), unlink("/d/f"), rmdir("/d"))
	behind.still(t, c, api.Op{})
	tells(t, c, pread(fd, 0, 99), data("abcdefXY"))
	tells(t, c, pread(lost, 0, 99), data("LOST!"))
	lists(t, tr, "/", "/l")
	lists(t, c, "/", "/new", "/x", "/x/e", "/x/f")

	// Each has the numbers of its own from here on.
	goes(t, tr, mkdir("/d"))
	goes(t, c, mkdir("/d"))
	if a, b := tr.Number("/d"), c.Number("/d"); a != 7 || b != 8 {
		t.Errorf("Number: %d, %d", a, b)
	}
	// A descriptor's flags are copied too.
	fails(t, c, write(root, "x"), api.ErrBad)
	tells(t, c, write(over, "!"), number(1))
	tells(t, c, pread(fd, 0, 99), data("abcdefXY!"))
}

// P14.2: a copy of a copy, and of a tree of which nothing is left but the root.
func TestCopies(t *testing.T) {
	tr := tree.New()
	makes(t, tr, "/f", strings.Repeat("x", 3000))
	c := tr.Copy().Copy()
	goes(t, tr, unlink("/f"))
	holds(t, c, "/f", strings.Repeat("x", 3000))
	needs(t, c, 1+24+1+2, 2) // its 24 blocks, a pointer block of Single, two of Double
	e := tr.Copy()
	lists(t, e, "/")
	needs(t, e, 1, 1)
	goes(t, e, mkdir("/d"))
	if n := e.Number("/d"); n != 3 {
		t.Errorf("Number: %d", n)
	}
	lists(t, tr, "/")
}
