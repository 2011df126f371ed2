package deps

// walk goes from a node along links of one way, over however many, a link at a time.
type walk struct {
	way   int
	found set // where it begins, and all that it came to
	at    int // of the node whose links it goes along: the place in found
	next  int // the link that comes next
}

// walkFrom begins a walk.
func walkFrom(n *node, way int) *walk {
	w := &walk{way: way}
	w.found.add(n)
	return w
}

// step goes along one link more; false, if there is none.
func (w *walk) step() bool {
	for w.at < len(w.found.list) {
		links := w.found.list[w.at].links[w.way].list
		if w.next < len(links) {
			w.found.add(links[w.next])
			w.next++
			return true
		}
		w.at, w.next = w.at+1, 0
	}
	return false
}

// meets tells whether one of two walks came last to where the other one has been.
func (w *walk) meets(other *walk) bool {
	return w.found.has(other.found.last().id) || other.found.has(w.found.last().id)
}

// leads tells whether n is other, or needs it, over however many. It goes from both ends by turns, till they meet, or one of them gets no further: so it does not matter how much hangs on the one end, where the other is new.
func leads(n, other *node) bool {
	forth, back := walkFrom(n, down), walkFrom(other, up)
	for !forth.meets(back) {
		if !forth.step() || !back.step() {
			return false
		}
	}
	return true
}

// order is nodes, each behind all that it needs.
type order struct {
	nodes []*node
	been  set // those that are in it, or are going to be, as what they need is
}

// visit is a node that is to be put in an order, and the need of it that is looked at next.
type visit struct {
	node *node
	next int
}

// add puts n in the order, ahead of it all that it needs, over however many. What waits for its needs stands in a list, as they may be too many deep for calls within calls.
func (o *order) add(n *node) {
	if !o.been.add(n) {
		return
	}
	path := []visit{{node: n}}
deeper:
	for len(path) > 0 {
		last := &path[len(path)-1]
		for needs := last.node.links[down].list; last.next < len(needs); {
			other := needs[last.next]
			last.next++
			if o.been.add(other) {
				path = append(path, visit{node: other})
				continue deeper
			}
		}
		o.nodes = append(o.nodes, last.node)
		path = path[:len(path)-1]
	}
}
