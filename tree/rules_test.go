package tree_test

import (
	"bytes"
	"slices"
	"strings"
	"sync"
	"testing"
	"unsafe"

	"purlin/api"
	"purlin/tree"
)

// R3: a nil tree tells ErrNil of all that is asked, or zero values.
func TestNil(t *testing.T) {
	var tr *tree.Tree
	for kind := -1; kind <= 25; kind++ {
		tells(t, tr, api.Op{Kind: kind}, api.Answer{Code: api.ErrNil})
		tells(t, tr, api.Op{Kind: kind, FD: -1, N: -1, Off: -1, Flags: -1, Path: "/", To: "/", Data: []byte("x")}, api.Answer{Code: api.ErrNil})
		tells(t, tr, api.Op{Kind: kind, Flags: 33, Path: "/a", To: "/b"}, api.Answer{Code: api.ErrNil})
	}
	if c := tr.Copy(); c != nil {
		t.Error("Copy: one")
	}
	if ns := tr.Nodes(); len(ns) != 0 {
		t.Errorf("Nodes: %+v", ns)
	}
	if n := tr.Number("/"); n != 0 {
		t.Errorf("Number: %d", n)
	}
	needs(t, tr, 0, 0)
	crowded(t, tr, api.Geometry{Groups: 1, Inodes: 4, Blocks: 16}, false)
	crowded(t, tr, api.Geometry{}, false)
}

// R1: a tree that no call made does not panic either.
func TestZero(t *testing.T) {
	var tr tree.Tree
	for kind := -1; kind <= 25; kind++ {
		tr.Do(api.Op{Kind: kind, Flags: 33, Path: "/a", To: "/b"})
	}
	tr.Nodes()
	tr.Number("/")
	tr.Need()
	tr.Crowded(api.Geometry{Groups: 1, Inodes: 4, Blocks: 16})
	if c := tr.Copy(); c != nil {
		c.Do(mkdir("/a"))
	}
}

// R5: trees hang on their own calls alone.
func TestApart(t *testing.T) {
	a, b := tree.New(), tree.New()
	makes(t, a, "/f", "1")
	fd := opens(t, b, "/g", "22")
	goes(t, b, mkdir("/d"))
	lists(t, a, "/", "/f")
	lists(t, b, "/", "/d", "/g")
	fails(t, a, fsync(fd), api.ErrBad)
	needs(t, a, 2, 2)
	needs(t, b, 2, 3)
}

// R5: Same may be called from several goroutines at one time.
func TestSameAtOneTime(t *testing.T) {
	a, b := some(), some()
	var all sync.WaitGroup
	for range 8 {
		all.Go(func() {
			for range 200 {
				if !tree.Same(a, b) || tree.Same(a, b[1:]) {
					t.Error("Same")
				}
			}
		})
	}
	all.Wait()
}

// R5: what is told hangs on no order of a map: one script tells the same each time.
func TestAgain(t *testing.T) {
	script := func() []api.Answer {
		tr := tree.New()
		var as []api.Answer
		for k := range 60 {
			name := string(rune('a'+k%26)) + string(rune('a'+k/26))
			as = append(as, tr.Do(mkdir("/"+name)), tr.Do(symlink(name, "/"+name+"l")), tr.Do(open("/"+name+"/f", 33)), tr.Do(readdir("/")))
		}
		for _, n := range tr.Nodes() {
			as = append(as, api.Answer{N: n.Number, Names: []string{n.Path}})
		}
		return as
	}
	first := script()
	for range 5 {
		if !slices.EqualFunc(script(), first, alike) {
			t.Fatal("told otherwise")
		}
	}
}

// R4: what is handed in stays as it is, its spare room too, and is not kept.
func TestKeepsNothing(t *testing.T) {
	tr := tree.New()
	fd := opened(t, tr, "/f", api.FCreate|api.FWrite)
	room := []byte("abcdefghij")
	for _, o := range []api.Op{{Kind: api.OpWrite, FD: fd, Data: room[:4]}, {Kind: api.OpPwrite, FD: fd, Off: 2, Data: room[:5]}} {
		before := bytes.Clone(room)
		tells(t, tr, o, number(len(o.Data)))
		if !bytes.Equal(room, before) {
			t.Fatalf("Data: then %q", room)
		}
	}
	for i := range room {
		room[i] = '!'
	}
	tells(t, tr, write(fd, "xyz"), number(3))
	if string(room) != "!!!!!!!!!!" {
		t.Errorf("Data: then %q", room)
	}
	holds(t, tr, "/f", "ababxyz")

	// Texts whose bytes become other ones, as no text of a program's own does.
	for _, o := range []api.Op{mkdir("/dir"), open("/dir/made", api.FCreate), symlink("target", "/dir/sym"), link("/f", "/dir/second"), rename("/f", "/dir/third")} {
		p, to := []byte(o.Path), []byte(o.To)
		o.Path = unsafe.String(unsafe.SliceData(p), len(p))
		o.To = unsafe.String(unsafe.SliceData(to), len(to))
		if a := tr.Do(o); a.Code != api.OK {
			t.Fatalf("%+v: %+v", o, a)
		}
		for _, b := range [][]byte{p, to} {
			for i := range b {
				b[i] = '?'
			}
		}
	}
	lists(t, tr, "/", "/dir", "/dir/made", "/dir/second", "/dir/sym", "/dir/third")
	tells(t, tr, readdir("/dir"), names("made", "second", "sym", "third"))
	tells(t, tr, readlink("/dir/sym"), data("target"))
	goes(t, tr, unlink("/dir/third"))
}

// spoil fills all the memory of what was told.
func spoil(as ...[]byte) {
	for _, a := range as {
		a = a[:cap(a)]
		for i := range a {
			a[i] = '#'
		}
	}
}

// R4: what is told shares no memory with the tree, nor with what else is told, its spare room neither.
func TestAnswersShareNothing(t *testing.T) {
	tr := tree.New()
	fd := opens(t, tr, "/f", strings.Repeat("abc", 100))
	goes(t, tr, link("/f", "/g"), symlink("target", "/l"), mkdir("/d"))
	for _, o := range []api.Op{pread(fd, 0, 20), pread(fd, 290, 20), pread(fd, 0, 1000), pread(fd, 300, 5), readlink("/l")} {
		a, b := tr.Do(o), tr.Do(o)
		want := string(a.Data)
		spoil(a.Data)
		if string(b.Data) != want || !alike(tr.Do(o), data(want)) {
			t.Fatalf("%+v: shared", o)
		}
	}
	got := tr.Do(read(fd, 10))
	spoil(got.Data)
	tells(t, tr, pread(fd, 0, 12), data("abcabcabcabc"))

	// Two paths of one file have bytes of their own.
	want := map[string]string{"/f": strings.Repeat("abc", 100), "/g": strings.Repeat("abc", 100), "/l": "target"}
	first, second := tr.Nodes(), tr.Nodes()
	for _, ns := range [][]api.Node{first, second, tr.Nodes()} {
		for k, n := range ns {
			if string(n.Data) != want[n.Path] {
				t.Fatalf("Nodes: %+v", n)
			}
			spoil(n.Data)
			ns[k].Path = "x"
		}
	}
	list := tr.Do(readdir("/")).Names
	other := tr.Do(readdir("/")).Names
	for i := range list {
		list[i] = "x"
	}
	if !slices.Equal(other, []string{"d", "f", "g", "l"}) {
		t.Errorf("Readdir: shared: %q", other)
	}
	tells(t, tr, readdir("/"), names("d", "f", "g", "l"))
}

// R4: no text that is told has its bytes where another one has them.
func TestTextsShareNothing(t *testing.T) {
	tr := tree.New()
	p := "/directory"
	goes(t, tr, mkdir(p), mkdir(p+"/within"), mkdir("/other"))
	texts := []string{p}
	for range 2 {
		texts = append(texts, tr.Do(readdir("/")).Names...)
		texts = append(texts, tr.Do(readdir(p)).Names...)
		for _, n := range tr.Nodes()[1:] {
			texts = append(texts, n.Path)
		}
	}
	for i, x := range texts {
		from := uintptr(unsafe.Pointer(unsafe.StringData(x)))
		for _, y := range texts[:i] {
			at := uintptr(unsafe.Pointer(unsafe.StringData(y)))
			if from < at+uintptr(len(y)) && at < from+uintptr(len(x)) {
				t.Errorf("%q and %q share their bytes", x, y)
			}
		}
	}
}

// R4: what Same is handed stays as it is.
func TestSameLeavesItsLists(t *testing.T) {
	a, b := some(), some()
	slices.Reverse(a)
	slices.Reverse(b)
	before := slices.Clone(a)
	if !tree.Same(a[:3], b[:3]) || !tree.Same(a, b) {
		t.Error("Same")
	}
	if !alikeNodes(a, before) || !alikeNodes(b, before) {
		t.Error("Same changed its lists")
	}
}

// R2: beside a code each answer is otherwise zero, and what is not named in one is.
func TestNothingBeside(t *testing.T) {
	tr := tree.New()
	fd := opens(t, tr, "/f", "abc")
	for _, o := range []api.Op{open("/f", 0), read(fd, 2), write(fd, "x"), pread(fd, 0, 3), pwrite(fd, 0, "y"), seek(fd, 1, 0), trunc(fd, 2), stat("/f"), readdir("/"), fsync(fd), mkdir("/d"), rename("/d", "/e")} {
		a := tr.Do(o)
		named := []bool{
			slices.Contains([]int{api.OpOpen, api.OpWrite, api.OpPwrite, api.OpSeek, api.OpStat}, o.Kind) || a.N == 0,
			o.Kind == api.OpStat || a.Kind == 0 && a.Links == 0,
			o.Kind == api.OpRead || o.Kind == api.OpPread || len(a.Data) == 0,
			o.Kind == api.OpReaddir || len(a.Names) == 0,
		}
		if slices.Contains(named, false) || a.Code != api.OK {
			t.Errorf("%+v: %+v", o, a)
		}
	}
}

// A great tree is told within moments.
func TestMany(t *testing.T) {
	tr := tree.New()
	goes(t, tr, mkdir("/d"), mkdir("/d/e"))
	const many = 20000
	for k := range many {
		goes(t, tr, mkdir("/d/e/"+numeral(k)))
	}
	needs(t, tr, 2+many/4, many+3)
	goes(t, tr, rename("/d", "/x"))
	if ns := tr.Nodes(); len(ns) != many+3 || !tree.Same(ns, tr.Copy().Nodes()) {
		t.Error("Nodes")
	}
	tells(t, tr, stat("/x/e"), directory(many))
	for k := range many {
		goes(t, tr, rmdir("/x/e/"+numeral(k)))
	}
	lists(t, tr, "/", "/x", "/x/e")
}

// numeral is a name for each number.
func numeral(k int) string {
	return string([]byte{byte('a' + k/676%26), byte('a' + k/26%26), byte('a' + k%26), byte('a' + k/17576)})
}
