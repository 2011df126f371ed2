package tree_test

import (
	"math"
	"strings"
	"testing"

	"purlin/api"
	"purlin/tree"
)

// P14.1: Stat tells what the path finds, Lstat a link itself: Kind, N and Links of each kind.
func TestStat(t *testing.T) {
	tr := tree.New()
	tells(t, tr, stat("/"), directory(0))
	// From the root on ../f is /f too, so that the link tells the same by both of its names.
	goes(t, tr, mkdir("/d"), mkdir("/d/e"), symlink("../f", "/d/l"), symlink("/d", "/m"), symlink("none", "/n"))
	makes(t, tr, "/f", strings.Repeat("x", 300))
	goes(t, tr, link("/f", "/d/g"), link("/d/l", "/k"))
	for p, want := range map[string][2]api.Answer{
		"/":     {directory(5), directory(5)},
		"/d":    {directory(3), directory(3)},
		"/d/e":  {directory(0), directory(0)},
		"/f":    {file(300, 2), file(300, 2)},
		"/d/g":  {file(300, 2), file(300, 2)},
		"/d/l":  {file(300, 2), linkOf(4, 2)},
		"/k":    {file(300, 2), linkOf(4, 2)},
		"/m":    {directory(3), linkOf(2, 1)},
		"/m/l":  {file(300, 2), linkOf(4, 2)},
		"/n":    {{Code: api.ErrNone}, linkOf(4, 1)},
		"/m/..": {directory(5), directory(5)},
		"/x":    {{Code: api.ErrNone}, {Code: api.ErrNone}},
		"/n/x":  {{Code: api.ErrNone}, {Code: api.ErrNone}},
		"/f/x":  {{Code: api.ErrNotDir}, {Code: api.ErrNotDir}},
	} {
		tells(t, tr, stat(p), want[0])
		tells(t, tr, lstat(p), want[1])
	}
	// A directory's Links stay 1, however many lie within it.
	goes(t, tr, mkdir("/d/e/1"), mkdir("/d/e/2"))
	tells(t, tr, stat("/d/e"), directory(2))
	goes(t, tr, unlink("/f"), rmdir("/d/e/1"))
	tells(t, tr, stat("/d/g"), file(300, 1))
	tells(t, tr, stat("/d/e"), directory(1))
	tells(t, tr, stat("/"), directory(4))
}

// P14.1: Readdir tells the names of a directory, rising by bytes; links are followed.
func TestReaddir(t *testing.T) {
	tr := tree.New()
	tells(t, tr, readdir("/"), names())
	goes(t, tr, mkdir("/d"), symlink("d", "/l"), symlink("none", "/n"))
	makes(t, tr, "/f", "")
	made := []string{"b", "a", "B", "ab", "a.b", "a-", "~", " ", "é", "\xff", "\x01", "...", "10", "9", long('z', 24), "..a"}
	for _, name := range made {
		makes(t, tr, "/d/"+name, "")
	}
	rising := []string{"\x01", " ", "...", "..a", "10", "9", "B", "a", "a-", "a.b", "ab", "b", long('z', 24), "~", "é", "\xff"}
	tells(t, tr, readdir("/d"), names(rising...))
	tells(t, tr, readdir("/l/"), names(rising...))
	tells(t, tr, readdir("/d/.."), names("d", "f", "l", "n"))
	goes(t, tr, rename("/d/B", "/d/c"), unlink("/d/a"), rename("/d/9", "/9"))
	tells(t, tr, readdir("/d"), names("\x01", " ", "...", "..a", "10", "a-", "a.b", "ab", "b", "c", long('z', 24), "~", "é", "\xff"))
	fails(t, tr, readdir("/f"), api.ErrNotDir)
	fails(t, tr, readdir("/x"), api.ErrNone)
	fails(t, tr, readdir("/n"), api.ErrNone)
	fails(t, tr, readdir("/f/x"), api.ErrNotDir)
}

// P14.1: Sync, Tick and Drop name nothing; below 0 there is no Tick, and no Drop.
func TestTickAndDrop(t *testing.T) {
	tr := tree.New()
	opens(t, tr, "/f", "abc")
	goes(t, tr, api.Op{Kind: api.OpSync})
	for _, kind := range []int{api.OpTick, api.OpDrop} {
		for _, n := range []int{0, 1, 1 << 40, math.MaxInt} {
			before := seen(tr)
			o := api.Op{Kind: kind, N: n}
			goes(t, tr, o)
			before.still(t, tr, o)
		}
		for _, n := range []int{-1, -100, math.MinInt} {
			fails(t, tr, api.Op{Kind: kind, N: n}, api.ErrArg)
		}
	}
}

// P14.1: all other Kinds are ErrArg, whatever stands beside them.
func TestOtherKinds(t *testing.T) {
	tr := tree.New()
	opens(t, tr, "/f", "abc")
	for _, kind := range []int{0, -1, -2, 24, 25, 255, 256 + 9, 1<<32 + 9, -9, math.MinInt, math.MaxInt} {
		fails(t, tr, api.Op{Kind: kind}, api.ErrArg)
		fails(t, tr, api.Op{Kind: kind, FD: 77, N: 3, Off: -1, Flags: 33, Path: "/f", To: "/g", Data: []byte("x")}, api.ErrArg)
	}
}

// P14.1: what an operation does not name it does not ask of.
func TestNotAsked(t *testing.T) {
	tr := tree.New()
	o := api.Op{Kind: api.OpMkdir, FD: -1, N: -1, Off: -1, Flags: -1, Path: "/d", To: "", Data: []byte("x")}
	goes(t, tr, o)
	tells(t, tr, api.Op{Kind: api.OpOpen, FD: -1, N: -1, Off: -1, Flags: api.FCreate | api.FWrite, Path: "/f", To: "x", Data: []byte("x")}, number(0))
	tells(t, tr, api.Op{Kind: api.OpWrite, FD: 0, N: -1, Off: -1, Flags: -1, Path: "x", To: "x", Data: []byte("xyz")}, number(3))
	tells(t, tr, api.Op{Kind: api.OpPwrite, FD: 0, N: -1, Off: 1, Flags: -1, Path: "x", To: "x", Data: []byte("Y")}, number(1))
	tells(t, tr, api.Op{Kind: api.OpPread, FD: 0, N: 9, Flags: -1, Path: "x", To: "x", Data: []byte("x")}, data("xYz"))
	tells(t, tr, api.Op{Kind: api.OpSeek, FD: 0, N: 0, Off: 1, Flags: -1, Path: "x", To: "x", Data: []byte("x")}, number(1))
	goes(t, tr, api.Op{Kind: api.OpTrunc, FD: 0, N: -1, Off: 2, Flags: -1, Path: "x", To: "x", Data: []byte("x")})
	tells(t, tr, api.Op{Kind: api.OpStat, FD: -1, N: -1, Off: -1, Flags: -1, Path: "/f", To: "x", Data: []byte("x")}, file(2, 1))
	tells(t, tr, api.Op{Kind: api.OpReaddir, FD: -1, N: -1, Off: -1, Flags: -1, Path: "/", To: "x", Data: []byte("x")}, names("d", "f"))
	goes(t, tr, api.Op{Kind: api.OpFsync, N: -1, Off: -1, Flags: -1, Path: "x"}, api.Op{Kind: api.OpClose, N: -1, Off: -1, Flags: -1, Path: "x", To: "x", Data: []byte("x")})
	goes(t, tr, api.Op{Kind: api.OpRename, FD: -1, N: -1, Off: -1, Flags: -1, Path: "/f", To: "/g", Data: []byte("x")})
	goes(t, tr, api.Op{Kind: api.OpTick, FD: -1, Off: -1, Flags: -1, Path: "x", To: "x"})
	lists(t, tr, "/", "/d", "/g")
}
