package tree_test

import (
	"bytes"
	"maps"
	"slices"
	"strings"

	"purlin/api"
	"purlin/path"
)

// byHand is a tree by the words of the chapter: no directories, but all names by their whole paths ("" that of the root).
type byHand struct {
	names map[string]int
	files map[int]*fileByHand
	fds   map[int]*fdByHand
	made  int
}

// fileByHand is a node. Its blocks are those of which Need tells.
type fileByHand struct {
	kind, most int
	data       []byte
	blocks     map[int]int
}

// fdByHand is what a descriptor has.
type fdByHand struct{ node, off, flags int }

func newByHand() *byHand {
	return &byHand{
		names: map[string]int{"": 1},
		files: map[int]*fileByHand{1: {kind: api.KindDir}},
		fds:   map[int]*fdByHand{},
		made:  1,
	}
}

// do does o, and reckons behind it what is gone, and how many names each directory has.
func (h *byHand) do(o api.Op) api.Answer {
	a := h.answer(o)
	for number, f := range h.files {
		if f.kind == api.KindDir {
			f.most = max(f.most, h.size(number))
		}
		if h.links(number) == 0 && !h.isOpen(number) {
			delete(h.files, number)
		}
	}
	return a
}

// answer does o.
func (h *byHand) answer(o api.Op) api.Answer {
	switch o.Kind {
	case api.OpOpen:
		return h.open(o)
	case api.OpClose, api.OpRead, api.OpWrite, api.OpPread, api.OpPwrite, api.OpSeek, api.OpTrunc, api.OpFsync, api.OpFdatasync:
		return h.byDescriptor(o)
	case api.OpStat, api.OpLstat, api.OpReaddir, api.OpReadlink:
		return h.look(o)
	case api.OpMkdir, api.OpRmdir, api.OpUnlink, api.OpLink, api.OpSymlink, api.OpRename:
		return api.Answer{Code: h.enter(o)}
	case api.OpTick, api.OpDrop:
		if o.N < 0 {
			return api.Answer{Code: api.ErrArg}
		}
	case api.OpSync:
	default:
		return api.Answer{Code: api.ErrArg}
	}
	return api.Answer{}
}

func (h *byHand) open(o api.Op) api.Answer {
	write := o.Flags&32 != 0
	if o.Flags < 0 || o.Flags > 63 || !write && (o.Flags&4 != 0 || o.Flags&8 != 0) {
		return api.Answer{Code: api.ErrArg}
	}
	number, make := 0, ""
	if o.Flags&1 != 0 {
		at, code := h.place(o.Path)
		if code != 0 {
			return api.Answer{Code: code}
		}
		if h.names[at] == 0 {
			make = at
		} else if o.Flags&2 != 0 {
			return api.Answer{Code: api.ErrExist}
		}
	}
	if make == "" {
		at, code := h.find(o.Path, false)
		if code != 0 {
			return api.Answer{Code: code}
		}
		number = h.names[at]
		if write && h.files[number].kind == api.KindDir {
			return api.Answer{Code: api.ErrIsDir}
		}
	}
	fd := 0
	for h.fds[fd] != nil {
		fd++
	}
	if fd == 16 {
		return api.Answer{Code: api.ErrFiles}
	}
	if make != "" {
		number = h.make(make, api.KindFile, nil)
	}
	if o.Flags&4 != 0 {
		h.files[number].cut(0)
	}
	h.fds[fd] = &fdByHand{node: number, flags: o.Flags}
	return api.Answer{N: fd}
}

func (h *byHand) byDescriptor(o api.Op) api.Answer {
	d := h.fds[o.FD]
	if d == nil {
		return api.Answer{Code: api.ErrBad}
	}
	f := h.files[d.node]
	switch o.Kind {
	case api.OpClose:
		delete(h.fds, o.FD)
		return api.Answer{}
	case api.OpFsync, api.OpFdatasync:
		return api.Answer{}
	case api.OpWrite, api.OpPwrite, api.OpTrunc:
		if d.flags&32 == 0 {
			return api.Answer{Code: api.ErrBad}
		}
		return h.change(o, d, f)
	}
	if f.kind == api.KindDir {
		return api.Answer{Code: api.ErrIsDir}
	}
	if o.Kind == api.OpSeek {
		// Floats, as sums with the least and the greatest int do not wrap round there.
		to := float64(o.Off)
		switch o.N {
		case 0:
		case 1:
			to += float64(d.off)
		case 2:
			to += float64(len(f.data))
		default:
			return api.Answer{Code: api.ErrArg}
		}
		if to < 0 || to > 1<<40 {
			return api.Answer{Code: api.ErrArg}
		}
		d.off = int(to)
		return api.Answer{N: d.off}
	}
	if o.N < 0 || o.Kind == api.OpPread && o.Off < 0 {
		return api.Answer{Code: api.ErrArg}
	}
	from := d.off
	if o.Kind == api.OpPread {
		from = o.Off
	}
	var data []byte
	for k := from; k < len(f.data) && len(data) < o.N; k++ {
		data = append(data, f.data[k])
	}
	if o.Kind == api.OpRead {
		d.off += len(data)
	}
	return api.Answer{Data: data}
}

func (h *byHand) change(o api.Op, d *fdByHand, f *fileByHand) api.Answer {
	if o.Kind != api.OpWrite && o.Off < 0 {
		return api.Answer{Code: api.ErrArg}
	}
	if o.Kind == api.OpTrunc {
		if o.Off > 20736 {
			return api.Answer{Code: api.ErrBig}
		}
		f.cut(o.Off)
		return api.Answer{}
	}
	at := o.Off
	if o.Kind == api.OpWrite {
		at = d.off
		if d.flags&8 != 0 {
			at = len(f.data)
		}
	}
	if float64(at)+float64(len(o.Data)) > 20736 {
		return api.Answer{Code: api.ErrBig}
	}
	for k, b := range o.Data {
		for len(f.data) <= at+k {
			f.data = append(f.data, 0)
		}
		f.data[at+k] = b
		f.blocks[(at+k)/128] = 1
	}
	if o.Kind == api.OpWrite && len(o.Data) > 0 {
		d.off = at + len(o.Data)
	}
	return api.Answer{N: len(o.Data)}
}

// cut makes a file so long, byte by byte.
func (f *fileByHand) cut(size int) {
	for len(f.data) < size {
		f.data = append(f.data, 0)
	}
	f.data = append([]byte{}, f.data[:size]...)
	for k := range 162 {
		if k*128 >= size {
			delete(f.blocks, k)
		}
	}
}

func (h *byHand) look(o api.Op) api.Answer {
	at, code := h.find(o.Path, o.Kind == api.OpLstat || o.Kind == api.OpReadlink)
	if code != 0 {
		return api.Answer{Code: code}
	}
	number := h.names[at]
	f := h.files[number]
	switch {
	case o.Kind == api.OpReadlink && f.kind != api.KindLink:
		return api.Answer{Code: api.ErrArg}
	case o.Kind == api.OpReadlink:
		return api.Answer{Data: f.data}
	case o.Kind == api.OpReaddir && f.kind != api.KindDir:
		return api.Answer{Code: api.ErrNotDir}
	case o.Kind == api.OpReaddir:
		var names []string
		for name := range h.names {
			if name != "" && parent(name) == at {
				names = append(names, name[len(at)+1:])
			}
		}
		slices.Sort(names)
		return api.Answer{Names: names}
	}
	return api.Answer{Kind: f.kind, N: h.size(number), Links: h.links(number)}
}

func (h *byHand) enter(o api.Op) api.Errno {
	switch o.Kind {
	case api.OpRename:
		return h.rename(o.Path, o.To)
	case api.OpRmdir, api.OpUnlink:
		return h.remove(o)
	case api.OpMkdir:
		at, code := h.place(o.Path)
		if code == 0 && h.names[at] != 0 {
			code = api.ErrExist
		}
		if code == 0 {
			h.make(at, api.KindDir, nil)
		}
		return code
	case api.OpSymlink:
		if _, _, code := path.Target(o.Path); code != 0 {
			return code
		}
	}
	number := 0
	if o.Kind == api.OpLink {
		at, code := h.find(o.Path, true)
		if code != 0 {
			return code
		}
		number = h.names[at]
		if h.files[number].kind == api.KindDir {
			return api.ErrPerm
		}
	}
	at, code := h.place(o.To)
	switch {
	case code != 0:
		return code
	case h.names[at] != 0:
		return api.ErrExist
	case o.Kind == api.OpLink:
		h.names[at] = number
	default:
		h.make(at, api.KindLink, []byte(o.Path))
	}
	return 0
}

func (h *byHand) remove(o api.Op) api.Errno {
	at, code := h.place(o.Path)
	if code != 0 {
		return code
	}
	number := h.names[at]
	if number == 0 {
		return api.ErrNone
	}
	isDir := h.files[number].kind == api.KindDir
	switch {
	case o.Kind == api.OpRmdir && !isDir:
		return api.ErrNotDir
	case o.Kind == api.OpRmdir && h.size(number) > 0:
		return api.ErrNotEmpty
	case o.Kind == api.OpUnlink && isDir:
		return api.ErrIsDir
	}
	delete(h.names, at)
	return 0
}

func (h *byHand) rename(p, q string) api.Errno {
	_, _, codeFrom := path.Last(p)
	_, _, codeTo := path.Last(q)
	if codeFrom != 0 {
		return codeFrom
	}
	if codeTo != 0 {
		return codeTo
	}
	from, code := h.place(p)
	if code != 0 {
		return code
	}
	if h.names[from] == 0 {
		return api.ErrNone
	}
	to, code := h.place(q)
	if code != 0 {
		return code
	}
	isDir := h.files[h.names[from]].kind == api.KindDir
	if isDir && strings.HasPrefix(parent(to)+"/", from+"/") {
		return api.ErrArg
	}
	moved := map[string]string{}
	for name := range h.names {
		if name == from || isDir && strings.HasPrefix(name, from+"/") {
			moved[name] = to + name[len(from):]
			if tooLongByHand(moved[name]) {
				return api.ErrLong
			}
		}
	}
	if h.names[from] == h.names[to] {
		return 0
	}
	if other := h.files[h.names[to]]; other != nil {
		switch {
		case isDir && other.kind != api.KindDir:
			return api.ErrNotDir
		case isDir && h.size(h.names[to]) != 0:
			return api.ErrNotEmpty
		case !isDir && other.kind == api.KindDir:
			return api.ErrIsDir
		}
	}
	behind := map[string]int{}
	for name, number := range h.names {
		if name == to {
			continue
		}
		if moved[name] != "" {
			name = moved[name]
		}
		behind[name] = number
	}
	behind[to] = h.names[from]
	h.names = behind
	return 0
}

// make makes a node that stands at this path.
func (h *byHand) make(at string, kind int, data []byte) int {
	h.made++
	h.names[at] = h.made
	h.files[h.made] = &fileByHand{kind: kind, data: data, blocks: map[int]int{}}
	return h.made
}

// find tells the path, without links and .., that p finds.
func (h *byHand) find(p string, itself bool) (string, api.Errno) {
	parts, code := path.Split(p)
	if code != 0 {
		return "", code
	}
	hops := 0
	return h.walk("", parts, itself, &hops)
}

// walk goes from at on, a link's target by a walk of its own.
func (h *byHand) walk(at string, parts []string, itself bool, hops *int) (string, api.Errno) {
	for i, part := range parts {
		if h.files[h.names[at]].kind != api.KindDir {
			return "", api.ErrNotDir
		}
		if part == ".." {
			at = parent(at)
			continue
		}
		next := at + "/" + part
		if h.names[next] == 0 {
			return "", api.ErrNone
		}
		f := h.files[h.names[next]]
		if f.kind != api.KindLink || itself && i == len(parts)-1 {
			at = next
			continue
		}
		*hops++
		if *hops == 9 {
			return "", api.ErrLoop
		}
		target, fromRoot, _ := path.Target(string(f.data))
		if fromRoot {
			at = ""
		}
		var code api.Errno
		if at, code = h.walk(at, target, false, hops); code != 0 {
			return "", code
		}
	}
	return at, 0
}

// place tells the path, without links and .., of the place of p.
func (h *byHand) place(p string) (string, api.Errno) {
	ahead, name, code := path.Last(p)
	if code != 0 {
		return "", code
	}
	at, code := h.find(ahead, false)
	switch {
	case code != 0:
		return "", code
	case h.files[h.names[at]].kind != api.KindDir:
		return "", api.ErrNotDir
	case tooLongByHand(at + "/" + name):
		return "", api.ErrLong
	}
	return at + "/" + name, 0
}

// tooLongByHand tells whether p has more than 200 bytes, or more than 20 parts.
func tooLongByHand(p string) bool {
	return len(p) > 200 || strings.Count(p, "/") > 20
}

// parent tells the path of the directory in which p stands; of the root its own.
func parent(p string) string {
	return p[:max(strings.LastIndex(p, "/"), 0)]
}

// links tells how many names a node has.
func (h *byHand) links(number int) int {
	many := 0
	for _, other := range h.names {
		if other == number {
			many++
		}
	}
	return many
}

// size tells how many names a directory has, how many bytes all else.
func (h *byHand) size(number int) int {
	f := h.files[number]
	if f.kind != api.KindDir {
		return len(f.data)
	}
	many := 0
	for name, other := range h.names {
		if other != number {
			continue
		}
		for below := range h.names {
			if below != "" && parent(below) == name {
				many++
			}
		}
	}
	return many
}

func (h *byHand) isOpen(number int) bool {
	for _, d := range h.fds {
		if d.node == number {
			return true
		}
	}
	return false
}

// nodes tells what Nodes should.
func (h *byHand) nodes() []api.Node {
	var ns []api.Node
	for _, p := range slices.Sorted(maps.Keys(h.names)) {
		number := h.names[p]
		if p == "" {
			p = "/"
		}
		f := h.files[number]
		ns = append(ns, api.Node{Path: p, Number: number, Kind: f.kind, Links: h.links(number), Data: bytes.Clone(f.data)})
	}
	return ns
}

// need tells what Need should.
func (h *byHand) need() (int, int) {
	blocks := 0
	for _, f := range h.files {
		switch f.kind {
		case api.KindDir:
			blocks += (f.most + 3) / 4
		case api.KindLink:
			blocks++
		default:
			blocks += len(f.blocks) + f.pointers()
		}
	}
	return blocks, len(h.files)
}

// pointers tells how many pointer blocks a file has: each of them by a number of its own.
func (f *fileByHand) pointers() int {
	has := map[int]int{}
	for k := range f.blocks {
		if k >= 6 && k < 18 {
			has[-1] = 1
		}
		if k >= 18 {
			has[-2] = 1
			has[(k-18)/12] = 1
		}
	}
	return len(has)
}
