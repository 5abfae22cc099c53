package device

import "limewash/api"

// Read returns what the sector n reads as.
func (d *Dev) Read(n int) (api.Sector, api.Errno) {
	if e := d.checkSector(n); e != api.OK {
		return api.Sector{}, e
	}
	return d.at(n), api.OK
}

// Write puts s into the cache, as what the sector n reads as.
func (d *Dev) Write(n int, s api.Sector) api.Errno {
	if e := d.checkSector(n); e != api.OK {
		return e
	}
	if d.state.Power == 0 || d.state.Taken == api.MaxDvTaken {
		d.state.Off = true
		return api.ErrPower
	}
	if len(d.state.Cache) == api.MaxDvCache {
		d.settle(d.state.Cache)
	}
	d.newest[n] = len(d.state.Cache)
	d.state.Cache = append(d.state.Cache, api.DvWrite{At: n, Data: s})
	d.state.Taken++
	if d.state.Power > 0 {
		d.state.Power--
	}
	return api.OK
}

// Flush makes the writes of the cache stable.
func (d *Dev) Flush() api.Errno {
	if e := d.checkOn(); e != api.OK {
		return e
	}
	d.settle(d.state.Cache)
	return api.OK
}

// Limit says how many more writes the device takes.
func (d *Dev) Limit(writes int64) api.Errno {
	switch {
	case !d.isMade():
		return api.ErrNil
	case !isPower(writes):
		return api.ErrRange
	}
	d.state.Power = writes
	return api.OK
}

// Crash makes the writes with the indices keep stable, and loses the other ones of the cache; the device is on then.
func (d *Dev) Crash(keep []int) api.Errno {
	if !d.isMade() {
		return api.ErrNil
	}
	if e := d.checkKeep(keep); e != api.OK {
		return e
	}
	var kept []api.DvWrite
	for _, i := range keep {
		kept = append(kept, d.state.Cache[i])
	}
	d.settle(kept)
	d.state.Power = anyPower
	d.state.Off = false
	return api.OK
}

// Diff returns the numbers of the sectors that read as different bytes in d and o.
func (d *Dev) Diff(o *Dev) ([]int, api.Errno) {
	switch {
	case !d.isMade() || !o.isMade():
		return nil, api.ErrNil
	case d.Sectors() != o.Sectors():
		return nil, api.ErrForm
	}
	var l []int
	for n := range d.Sectors() {
		if d.at(n) != o.at(n) {
			l = append(l, n)
		}
	}
	return l, api.OK
}

// checkOn returns why the device cannot be used.
func (d *Dev) checkOn() api.Errno {
	switch {
	case !d.isMade():
		return api.ErrNil
	case d.state.Off:
		return api.ErrPower
	}
	return api.OK
}

// checkSector returns why the sector n cannot be used.
func (d *Dev) checkSector(n int) api.Errno {
	if e := d.checkOn(); e != api.OK {
		return e
	}
	if n < 0 || n >= d.Sectors() {
		return api.ErrRange
	}
	return api.OK
}

// checkKeep returns why keep are not indices of writes in the cache.
func (d *Dev) checkKeep(keep []int) api.Errno {
	// All of them first: an index that there is not comes before any that is not ascending.
	for _, i := range keep {
		if i < 0 || i >= len(d.state.Cache) {
			return api.ErrRange
		}
	}
	for i := 1; i < len(keep); i++ {
		if keep[i] <= keep[i-1] {
			return api.ErrForm
		}
	}
	return api.OK
}

// at returns what the sector n, which there is, reads as.
func (d *Dev) at(n int) api.Sector {
	if i, ok := d.newest[n]; ok {
		return d.state.Cache[i].Data
	}
	return d.state.Stable[n]
}

// settle makes writes stable, the oldest one first, and empties the cache.
func (d *Dev) settle(writes []api.DvWrite) {
	for _, w := range writes {
		d.state.Stable[w.At] = w.Data
	}
	d.state.Cache = nil
	clear(d.newest)
}
