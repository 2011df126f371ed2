package shape_test

import (
	"bytes"
	"maps"
	"slices"
	"sync"
	"testing"

	"purlin/api"
	"purlin/shape"
)

// R3: a nil image, and nil sectors: not fine, nothing is told.
func TestNil(t *testing.T) {
	if shape.Fine(nil) || shape.Walk(nil) != nil || len(shape.Owners(nil)) != 0 {
		t.Error("a nil image")
	}
	image := town(t).image()
	for s := range image {
		odd := slices.Clone(image)
		odd[s] = nil
		if shape.Fine(odd) || shape.Walk(odd) != nil || len(shape.Owners(odd)) != 0 {
			t.Errorf("sector %d nil", s)
		}
	}
}

// roomy tells an image that is the same, each sector of which, and itself, has spare room.
func roomy(image [][]byte) [][]byte {
	out := make([][]byte, len(image), len(image)+3)
	for s, b := range image {
		room := append(bytes.Clone(b), fill(40, s)...)
		out[s] = room[:len(b)]
	}
	for k, spare := range out[len(out):cap(out)] {
		out[:cap(out)][len(out)+k] = append(spare, fill(128, k)...)
	}
	return out
}

// whole tells all bytes of an image, with those of its spare room.
func whole(image [][]byte) [][]byte {
	var all [][]byte
	for _, b := range image[:cap(image)] {
		all = append(all, bytes.Clone(b[:cap(b)]))
	}
	return all
}

// R4: what is handed in stays as it is, its spare room too, whether it is fine or not.
func TestStays(t *testing.T) {
	good := town(t)
	odd := town(t)
	odd.odd.inodes = []int{1}
	for _, d := range []*draft{good, odd} {
		image := roomy(d.image())
		before := whole(image)
		shape.Fine(image)
		shape.Walk(image)
		shape.Owners(image)
		if !slices.EqualFunc(whole(image), before, bytes.Equal) {
			t.Error("an image was changed")
		}
	}
}

// R4: what is handed in is not kept, and what is answered shares no memory with it.
func TestKeepsNothing(t *testing.T) {
	d := town(t)
	image := d.image()
	ns, os := shape.Walk(image), shape.Owners(image)
	for _, b := range image {
		clear(b)
	}
	if !alike(ns, townNodes()) {
		t.Errorf("Walk, behind the image's end: %v", ns)
	}
	if !maps.Equal(os, d.pointed()) {
		t.Errorf("Owners, behind the image's end: %v", os)
	}
	wrong(t, "cleared", image)
}

// R4: an answer shares no memory with another one, nor one of its lists with another.
func TestSharesNothing(t *testing.T) {
	d := town(t)
	image := d.image()
	before := whole(image)
	first, second := shape.Walk(image), shape.Walk(image)
	for k := range first {
		// One by one, so that two lists of one answer that share memory are told.
		if !alike(first[k:], townNodes()[k:]) {
			t.Fatalf("node %d: %v", k, first[k:])
		}
		b := first[k].Data[:cap(first[k].Data)]
		for i := range b {
			b[i] = '#'
		}
		first[k].Data = append(first[k].Data, "more"...)
		first[k].Path = "gone"
	}
	if !alike(second, townNodes()) || !alike(shape.Walk(image), townNodes()) {
		t.Error("Walk: another answer was changed")
	}
	one, two := shape.Owners(image), shape.Owners(image)
	clear(one)
	one[1] = 1
	if !maps.Equal(two, d.pointed()) || !maps.Equal(shape.Owners(image), d.pointed()) {
		t.Error("Owners: another answer was changed")
	}
	if !slices.EqualFunc(whole(image), before, bytes.Equal) {
		t.Error("the image was changed by an answer")
	}
	// Of an image that is not fine too.
	none := shape.Owners(nil)
	if none != nil {
		none[1] = 1
	}
	if len(shape.Owners(nil)) != 0 {
		t.Error("Owners of nothing: another answer was changed")
	}
}

// An image whose sectors are the same memory, several times over, is as good as one whose sectors are not.
func TestSectorsOfOneMemory(t *testing.T) {
	d := drafted(t, api.Geometry{Groups: 2, Inodes: 8, Blocks: 16})
	for k := range 4 {
		d.file(2+k, fill(128, 1))
		d.name(root, string(rune('a'+k)), 2+k)
	}
	image := d.image()
	want := shape.Walk(image)
	for k := range 4 {
		image[d.at(2+k, 0)] = image[d.at(2, 0)]
	}
	for _, s := range d.room {
		image[s] = image[0]
	}
	fine(t, "sectors of one memory", image)
	walks(t, "sectors of one memory", image, want...)
	ns := shape.Walk(image)
	clear(ns[1].Data)
	if !alike(ns[2:], want[2:]) || !bytes.Equal(image[d.at(2, 0)], fill(128, 1)) {
		t.Error("two files share memory")
	}
}

// R5: all three may be called from several goroutines at one time, of one image.
func TestAtOneTime(t *testing.T) {
	d := town(t)
	image := d.image()
	want, owners := townNodes(), d.pointed()
	var all sync.WaitGroup
	for range 8 {
		all.Go(func() {
			for range 50 {
				if !shape.Fine(image) || !alike(shape.Walk(image), want) || !maps.Equal(shape.Owners(image), owners) {
					t.Error("told otherwise")
				}
			}
		})
	}
	all.Wait()
}
