package tree_test

import (
	"bytes"
	"slices"
	"testing"

	"purlin/api"
	"purlin/tree"
)

// The operations by the names of their Kinds.
func open(p string, flags int) api.Op  { return api.Op{Kind: api.OpOpen, Path: p, Flags: flags} }
func shut(fd int) api.Op               { return api.Op{Kind: api.OpClose, FD: fd} }
func read(fd, n int) api.Op            { return api.Op{Kind: api.OpRead, FD: fd, N: n} }
func write(fd int, data string) api.Op { return api.Op{Kind: api.OpWrite, FD: fd, Data: []byte(data)} }
func pread(fd, off, n int) api.Op      { return api.Op{Kind: api.OpPread, FD: fd, Off: off, N: n} }
func pwrite(fd, off int, data string) api.Op {
	return api.Op{Kind: api.OpPwrite, FD: fd, Off: off, Data: []byte(data)}
}
func seek(fd, off, n int) api.Op       { return api.Op{Kind: api.OpSeek, FD: fd, Off: off, N: n} }
func trunc(fd, off int) api.Op         { return api.Op{Kind: api.OpTrunc, FD: fd, Off: off} }
func mkdir(p string) api.Op            { return api.Op{Kind: api.OpMkdir, Path: p} }
func rmdir(p string) api.Op            { return api.Op{Kind: api.OpRmdir, Path: p} }
func unlink(p string) api.Op           { return api.Op{Kind: api.OpUnlink, Path: p} }
func link(p, to string) api.Op         { return api.Op{Kind: api.OpLink, Path: p, To: to} }
func symlink(target, to string) api.Op { return api.Op{Kind: api.OpSymlink, Path: target, To: to} }
func readlink(p string) api.Op         { return api.Op{Kind: api.OpReadlink, Path: p} }
func rename(p, to string) api.Op       { return api.Op{Kind: api.OpRename, Path: p, To: to} }
func stat(p string) api.Op             { return api.Op{Kind: api.OpStat, Path: p} }
func lstat(p string) api.Op            { return api.Op{Kind: api.OpLstat, Path: p} }
func readdir(p string) api.Op          { return api.Op{Kind: api.OpReaddir, Path: p} }
func fsync(fd int) api.Op              { return api.Op{Kind: api.OpFsync, FD: fd} }
func fdatasync(fd int) api.Op          { return api.Op{Kind: api.OpFdatasync, FD: fd} }

// The answers that name something.
func number(n int) api.Answer           { return api.Answer{N: n} }
func data(s string) api.Answer          { return api.Answer{Data: []byte(s)} }
func names(ns ...string) api.Answer     { return api.Answer{Names: ns} }
func file(size, links int) api.Answer   { return api.Answer{Kind: api.KindFile, N: size, Links: links} }
func directory(many int) api.Answer     { return api.Answer{Kind: api.KindDir, N: many, Links: 1} }
func linkOf(long, links int) api.Answer { return api.Answer{Kind: api.KindLink, N: long, Links: links} }

// alike tells whether two answers are the same, a list nil or empty.
func alike(a, b api.Answer) bool {
	return a.Code == b.Code && a.N == b.N && a.Kind == b.Kind && a.Links == b.Links && bytes.Equal(a.Data, b.Data) && slices.Equal(a.Names, b.Names)
}

// alikeNodes tells whether two lists of nodes are the same, their Numbers too.
func alikeNodes(a, b []api.Node) bool {
	return slices.EqualFunc(a, b, func(x, y api.Node) bool {
		return x.Path == y.Path && x.Number == y.Number && x.Kind == y.Kind && x.Links == y.Links && bytes.Equal(x.Data, y.Data)
	})
}

// tells asks that o tells just this.
func tells(t *testing.T, tr *tree.Tree, o api.Op, want api.Answer) {
	t.Helper()
	if got := tr.Do(o); !alike(got, want) {
		t.Fatalf("%+v: %+v, not %+v", o, got, want)
	}
}

// goes asks that each of these tells OK, and names nothing.
func goes(t *testing.T, tr *tree.Tree, os ...api.Op) {
	t.Helper()
	for _, o := range os {
		tells(t, tr, o, api.Answer{})
	}
}

// fails asks that o tells this code and nothing beside it, and that it changes nothing.
func fails(t *testing.T, tr *tree.Tree, o api.Op, code api.Errno) {
	t.Helper()
	before := seen(tr)
	tells(t, tr, o, api.Answer{Code: code})
	before.still(t, tr, o)
}

// opens makes a file of these bytes, and tells a descriptor of it that stands at its beginning.
func opens(t *testing.T, tr *tree.Tree, p, bytes string) int {
	t.Helper()
	fd := opened(t, tr, p, api.FCreate|api.FWrite)
	tells(t, tr, pwrite(fd, 0, bytes), number(len(bytes)))
	return fd
}

// opened opens a file with these flags, and tells the descriptor.
func opened(t *testing.T, tr *tree.Tree, p string, flags int) int {
	t.Helper()
	a := tr.Do(open(p, flags))
	if a.Code != api.OK || !alike(a, number(a.N)) {
		t.Fatalf("Open(%q, %d): %+v", p, flags, a)
	}
	return a.N
}

// makes makes a file of these bytes that is not open.
func makes(t *testing.T, tr *tree.Tree, p, bytes string) {
	t.Helper()
	goes(t, tr, shut(opens(t, tr, p, bytes)))
}

// holds asks that the file at p has just these bytes.
func holds(t *testing.T, tr *tree.Tree, p, bytes string) {
	t.Helper()
	fd := opened(t, tr, p, 0)
	tells(t, tr, read(fd, api.MaxFile+1), data(bytes))
	goes(t, tr, shut(fd))
}

// lists asks that Nodes tells these paths, and no others.
func lists(t *testing.T, tr *tree.Tree, want ...string) {
	t.Helper()
	var got []string
	for _, n := range tr.Nodes() {
		got = append(got, n.Path)
	}
	if !slices.Equal(got, want) {
		t.Fatalf("Nodes: %q, not %q", got, want)
	}
}

// needs asks that Need tells just this.
func needs(t *testing.T, tr *tree.Tree, blocks, inodes int) {
	t.Helper()
	if b, i := tr.Need(); b != blocks || i != inodes {
		t.Fatalf("Need: %d, %d, not %d, %d", b, i, blocks, inodes)
	}
}

// sight is all that can be told of a tree without changing it.
type sight struct {
	nodes          []api.Node
	blocks, inodes int
	fds            []api.Answer
}

// seen tells all that can be told of tr: of each descriptor where it stands, whether it writes, and what it reads.
func seen(tr *tree.Tree) sight {
	s := sight{nodes: tr.Nodes()}
	s.blocks, s.inodes = tr.Need()
	for fd := -1; fd <= api.MaxOpen; fd++ {
		s.fds = append(s.fds, tr.Do(fsync(fd)), tr.Do(seek(fd, 0, 1)), tr.Do(pwrite(fd, 0, "")), tr.Do(pread(fd, 0, api.MaxFile)))
	}
	return s
}

// still asks that all is as it was seen.
func (s sight) still(t *testing.T, tr *tree.Tree, o api.Op) {
	t.Helper()
	now := seen(tr)
	if !alikeNodes(now.nodes, s.nodes) {
		t.Fatalf("%+v: then %+v, not %+v", o, now.nodes, s.nodes)
	}
	if now.blocks != s.blocks || now.inodes != s.inodes {
		t.Fatalf("%+v: then it needs %d, %d, not %d, %d", o, now.blocks, now.inodes, s.blocks, s.inodes)
	}
	if !slices.EqualFunc(now.fds, s.fds, alike) {
		t.Fatalf("%+v: then its descriptors tell %+v, not %+v", o, now.fds, s.fds)
	}
}
