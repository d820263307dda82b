package simfs

import "lanyard/api"

// fault is what the left-th counted call from now on has; there is none if left is 0 or the kind is FaultNone.
type fault struct {
	left int
	kind int
	keep int
}

// SetFault lets the k-th counted call from now on have a fault of that kind.
func (f *FS) SetFault(k, kind, keep int) api.Errno {
	switch {
	case !f.usable():
		return api.ErrMade
	case k < 0 || kind < api.FaultNone || kind > api.FaultCrash || keep < 0:
		return api.ErrArg
	case f.down:
		return api.ErrDown
	}
	f.next = fault{left: k, kind: kind, keep: keep}
	return api.OK
}

// start makes the common checks of a call that writes no bytes, and counts it: such a call ends with its fault.
func (f *FS) start(good bool) api.Errno {
	hit, err := f.count(good)
	if err != api.OK {
		return err
	}
	return hit.errno()
}

// count makes the common checks of a call whose paths are good or not, counts it, and returns the fault that it has.
func (f *FS) count(good bool) (fault, api.Errno) {
	switch {
	case !f.usable():
		return fault{}, api.ErrMade
	case f.down:
		return fault{}, api.ErrDown
	case !good:
		return fault{}, api.ErrPath
	}
	f.calls.Add(1)
	return f.takeFault(), api.OK
}

// takeFault counts the fault down, and returns it if the call has it: with 0 left it is none for the next one.
func (f *FS) takeFault() fault {
	if f.next.left == 0 {
		return fault{}
	}
	f.next.left--
	if f.next.left > 0 {
		return fault{}
	}
	f.down = f.next.kind == api.FaultCrash
	return f.next
}

// errno returns what a call returns that has the fault.
func (h fault) errno() api.Errno {
	switch h.kind {
	case api.FaultError:
		return api.ErrIO
	case api.FaultShort:
		return api.ErrShort
	case api.FaultCrash:
		return api.ErrDown
	}
	return api.OK
}

// written returns the bytes of b that are written by a call that has the fault.
func (h fault) written(b []byte) []byte {
	if h.kind == api.FaultNone {
		return b
	}
	return b[:min(h.keep, len(b))]
}
