package disk

import (
	"slices"

	"purlin/api"
)

// trap is what Arm lays: the power goes behind so many more writes and flushes.
type trap struct {
	set   bool
	after int
	keep  []bool
}

// Arm lays a trap for the power, in place of an earlier one.
func (d *Disk) Arm(after int, keep ...bool) api.Errno {
	if code := d.powered(); code != api.OK {
		return code
	}
	if after < 0 {
		return api.ErrArg
	}
	d.trap = trap{set: true, after: after, keep: slices.Clone(keep)}
	return api.OK
}

// falls tells whether the power goes now, and lets it go. It is asked for nothing but a write or a flush that would go well, as the others do not count.
func (d *Disk) falls() bool {
	if !d.trap.set {
		return false
	}
	if d.trap.after > 0 {
		d.trap.after--
		return false
	}
	d.Crash(d.trap.keep...)
	return true
}

// Crash takes the power; of the writes that wait those that are kept become firm, in order, as a later one may stand over an earlier one.
func (d *Disk) Crash(keep ...bool) {
	if d == nil {
		return
	}
	for i, w := range d.waits {
		if len(keep) > 0 && keep[i%len(keep)] {
			d.firm[w.at] = w.bytes
		}
	}
	// No other sector than those that waited is seen otherwise than it is firm.
	for _, w := range d.waits {
		d.seen[w.at] = d.firm[w.at]
	}
	d.waits = nil
	d.trap = trap{}
	d.on = false
}

// Boot gives the power back.
func (d *Disk) Boot() api.Errno {
	switch {
	case d == nil:
		return api.ErrNil
	case d.on:
		return api.ErrState
	}
	d.on = true
	return api.OK
}
