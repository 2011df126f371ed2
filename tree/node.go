package tree

import (
	"bytes"
	"maps"
	"slices"
	"strings"

	"purlin/api"
	"purlin/inode"
)

// node is a file, a directory or a link. What one kind has is zero in the others.
type node struct {
	number, kind int
	names        int    // how many entries name it
	data         []byte // a file's bytes, a link's target

	// Of a file: the blocks in which a byte was written since they lay beyond the size last.
	written [api.FileBlocks]bool

	// Of a directory: its entries, the most that it ever had at once; the directory above, and its name there (0: it has none).
	entries map[string]int
	most    int
	above   int
	name    string
}

// copy makes a node that is the same.
func (n *node) copy() *node {
	c := *n
	c.data = bytes.Clone(n.data)
	c.entries = maps.Clone(n.entries)
	return &c
}

// size tells how long a file is, how long a link's target, how many names a directory has.
func (n *node) size() int {
	if n.kind == api.KindDir {
		return len(n.entries)
	}
	return len(n.data)
}

// list tells the names of a directory, rising.
func (n *node) list() []string {
	names := slices.Sorted(maps.Keys(n.entries))
	for i, name := range names {
		names[i] = strings.Clone(name)
	}
	return names
}

// read tells up to many bytes from at on.
func (n *node) read(at, many int) []byte {
	if at >= len(n.data) {
		return nil
	}
	rest := n.data[at:]
	return bytes.Clone(rest[:min(many, len(rest))])
}

// write lets data stand from at on, zeros between the end and there, and tells how many bytes they are.
func (n *node) write(at int, data []byte) (api.Answer, api.Errno) {
	switch {
	case at > api.MaxFile-len(data):
		return only(api.ErrBig)
	case len(data) == 0:
		// Not even zeros stand ahead of nothing.
		return only(api.OK)
	}
	end := at + len(data)
	if end > len(n.data) {
		n.resize(end)
	}
	copy(n.data[at:], data)
	for k := at / api.SectorSize; k < inode.Need(end); k++ {
		n.written[k] = true
	}
	return api.Answer{N: len(data)}, api.OK
}

// resize makes a file so long: zeros stand behind what it had.
func (n *node) resize(size int) {
	if size > len(n.data) {
		n.data = append(n.data, make([]byte, size-len(n.data))...)
		return
	}
	n.data = n.data[:size]
	clear(n.written[inode.Need(size):])
}

// blocks tells how many blocks a node takes.
func (n *node) blocks() int {
	switch n.kind {
	case api.KindDir:
		return (n.most + api.Slots - 1) / api.Slots
	case api.KindLink:
		return 1
	}
	many := 0
	// The pointer blocks, each of them once: that of Single, the first one of Double, the second ones.
	var single, first int
	var second [api.Fan]int
	for k, written := range n.written {
		if !written {
			continue
		}
		many++
		switch how, i, _ := inode.Place(k); how {
		case 1:
			single = 1
		case 2:
			first, second[i] = 1, 1
		}
	}
	for _, one := range second {
		many += one
	}
	return many + single + first
}
