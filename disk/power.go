package disk

import "auspice/api"

// Fail lets the power fail.
func (d *Disk) Fail(k int) {
	if d.ready() != api.OK {
		return
	}
	d.save(max(k, 0))
	d.row = nil
	d.now = d.sure.copy()
	d.trip, d.keep = 0, 0
	d.down = true
}

// Trip lets the power fail at a call to come.
func (d *Disk) Trip(n, k int) {
	if d != nil {
		d.trip, d.keep = max(n, 1), k
	}
}

// Wake lets a disk be up again.
func (d *Disk) Wake() {
	if d != nil {
		d.down = false // the row went when the power failed
	}
}

// Down tells whether a disk is down.
func (d *Disk) Down() bool {
	return d == nil || d.down
}

// count counts a call, at which the power may fail.
func (d *Disk) count() api.Errno {
	d.calls++
	if d.trip == 0 {
		return api.OK
	}
	d.trip--
	if d.trip > 0 {
		return api.OK
	}
	d.Fail(d.keep)
	return api.ErrDown
}

// save does those changes of the row that are kept, of which the last one may be torn.
func (d *Disk) save(left int) {
	for _, c := range d.row {
		if c.cost() > left {
			if p, ok := c.(put); ok && left > 0 {
				d.sure.do(p.torn(left - 1))
			}
			return
		}
		left -= c.cost()
		d.sure.do(c)
	}
}
