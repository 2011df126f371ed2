package deps

// The ways in which a node is linked with others. Each need is kept at both its ends, so that what is dropped finds those that need it.
const (
	down = iota // to those that it needs
	up          // to those that need it
	ways
)

// node is one that is there.
type node struct {
	id    int
	links [ways]set
}

// bind lets n need other.
func (n *node) bind(other *node) {
	n.links[down].add(other)
	other.links[up].add(n)
}

// loose takes n away from all that it is linked with; its own links stay as they are, as it is not there any more behind it.
func (n *node) loose() {
	for _, other := range n.links[down].list {
		other.links[up].remove(n)
	}
	for _, other := range n.links[up].list {
		other.links[down].remove(n)
	}
}

// set is some nodes, each once. Beside the list, which can be gone along by places, stands where in it each one is, so that nothing takes longer for there being many.
type set struct {
	list   []*node
	places map[int]int
}

// has tells whether there is one of that id.
func (s *set) has(id int) bool {
	_, there := s.places[id]
	return there
}

// empty tells whether there is none.
func (s *set) empty() bool {
	return len(s.list) == 0
}

// last tells the one that was added last, if none was removed; there is one.
func (s *set) last() *node {
	return s.list[len(s.list)-1]
}

// add puts n behind the others; false, if it is there.
func (s *set) add(n *node) bool {
	if s.has(n.id) {
		return false
	}
	if s.places == nil {
		s.places = map[int]int{}
	}
	s.places[n.id] = len(s.list)
	s.list = append(s.list, n)
	return true
}

// remove takes away n, which is there; the last one goes to its place.
func (s *set) remove(n *node) {
	place, end := s.places[n.id], len(s.list)-1
	last := s.list[end]
	s.list[place] = last
	s.places[last.id] = place
	s.list[end] = nil
	s.list = s.list[:end]
	delete(s.places, n.id)
}
