package tree

import (
	"purlin/api"
	"purlin/table"
)

// flags are all that there are of Open.
const flags = api.FCreate | api.FExcl | api.FTrunc | api.FAppend | api.FSync | api.FWrite

// farthest is where a descriptor may stand at most, if it was moved there.
const farthest = 1 << 40

// Where a descriptor is moved from.
const (
	fromStart = 0
	fromHere  = 1
	fromEnd   = 2
)

// open tells a descriptor of the file that the path p finds, or that is made there.
func (t *Tree) open(p string, how int) (api.Answer, api.Errno) {
	if !mayOpen(how) {
		return only(api.ErrArg)
	}
	n, at, code := t.toOpen(p, how)
	switch {
	case code != api.OK:
		return only(code)
	case n != nil && n.kind == api.KindDir && how&api.FWrite != 0:
		return only(api.ErrIsDir)
	case len(t.files.List()) == api.MaxOpen:
		// Asked here, as nothing may be made, nor cut, for want of a descriptor.
		return only(api.ErrFiles)
	}
	if n == nil {
		n = t.make(api.KindFile)
		t.put(at, n)
	}
	if how&api.FTrunc != 0 {
		n.resize(0)
	}
	fd, code := t.files.Open(n.number, how)
	return api.Answer{N: fd}, code
}

// mayOpen tells whether a file may be opened with these flags.
func mayOpen(how int) bool {
	return how >= 0 && how <= flags && (how&api.FWrite != 0 || how&(api.FTrunc|api.FAppend) == 0)
}

// toOpen tells the node that is to be opened; nil, and the place where one is to be made.
func (t *Tree) toOpen(p string, how int) (*node, place, api.Errno) {
	if how&api.FCreate != 0 {
		at, code := t.place(p)
		switch {
		case code != api.OK || at.there == nil:
			return nil, at, code
		case how&api.FExcl != 0:
			return nil, place{}, api.ErrExist
		}
	}
	n, code := t.find(p, false)
	return n, place{}, code
}

// close ends a descriptor, and its node, if that has no name any more.
func (t *Tree) close(fd int) api.Errno {
	number, code := t.files.Close(fd)
	if code == api.OK {
		t.leave(t.nodes[number])
	}
	return code
}

// read tells up to many bytes from where the descriptor stands on, and moves it behind them.
func (t *Tree) read(fd, many int) (api.Answer, api.Errno) {
	f, n, code := t.toRead(fd)
	switch {
	case code != api.OK:
		return only(code)
	case many < 0:
		return only(api.ErrArg)
	}
	data := n.read(f.Off, many)
	return api.Answer{Data: data}, t.files.Move(fd, f.Off+len(data))
}

// readAt tells up to many bytes from at on.
func (t *Tree) readAt(fd, at, many int) (api.Answer, api.Errno) {
	_, n, code := t.toRead(fd)
	switch {
	case code != api.OK:
		return only(code)
	case many < 0 || at < 0:
		return only(api.ErrArg)
	}
	return api.Answer{Data: n.read(at, many)}, api.OK
}

// write lets data stand from where the descriptor stands on, or from the end on, and moves it behind them.
func (t *Tree) write(fd int, data []byte) (api.Answer, api.Errno) {
	f, n, code := t.toWrite(fd)
	if code != api.OK {
		return only(code)
	}
	at := f.Off
	if f.Flags&api.FAppend != 0 {
		at = n.size()
	}
	a, code := n.write(at, data)
	if a.N > 0 {
		code = t.files.Move(fd, at+a.N)
	}
	return a, code
}

// writeAt lets data stand from at on.
func (t *Tree) writeAt(fd, at int, data []byte) (api.Answer, api.Errno) {
	_, n, code := t.toWrite(fd)
	switch {
	case code != api.OK:
		return only(code)
	case at < 0:
		return only(api.ErrArg)
	}
	return n.write(at, data)
}

// seek lets a descriptor stand elsewhere.
func (t *Tree) seek(fd, by, whence int) (api.Answer, api.Errno) {
	f, n, code := t.toRead(fd)
	if code != api.OK {
		return only(code)
	}
	from := 0
	switch whence {
	case fromStart:
	case fromHere:
		from = f.Off
	case fromEnd:
		from = n.size()
	default:
		return only(api.ErrArg)
	}
	// Held against what is left, as the sum with any number could wrap round.
	if by < -from || by > farthest-from {
		return only(api.ErrArg)
	}
	return api.Answer{N: from + by}, t.files.Move(fd, from+by)
}

// truncate makes the file of a descriptor so long.
func (t *Tree) truncate(fd, size int) api.Errno {
	_, n, code := t.toWrite(fd)
	switch {
	case code != api.OK:
		return code
	case size < 0:
		return api.ErrArg
	case size > api.MaxFile:
		return api.ErrBig
	}
	n.resize(size)
	return api.OK
}

// toRead tells what a descriptor has, and its node, which is to be a file.
func (t *Tree) toRead(fd int) (table.File, *node, api.Errno) {
	f, code := t.files.Get(fd)
	if code != api.OK {
		return table.File{}, nil, code
	}
	n := t.nodes[f.Node]
	if n.kind == api.KindDir {
		return table.File{}, nil, api.ErrIsDir
	}
	return f, n, api.OK
}

// toWrite tells what a descriptor has that was opened to write, and its node, which no directory is then.
func (t *Tree) toWrite(fd int) (table.File, *node, api.Errno) {
	f, code := t.files.Get(fd)
	switch {
	case code != api.OK:
		return table.File{}, nil, code
	case f.Flags&api.FWrite == 0:
		return table.File{}, nil, api.ErrBad
	}
	return f, t.nodes[f.Node], api.OK
}
