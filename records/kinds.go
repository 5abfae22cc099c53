package records

import "limewash/api"

// kind is how values of one letter are checked, written and read. Its field bytes is how many bytes its numbers, or the elements of its values, fit in.
type kind struct {
	letter byte
	bytes  int
	check  func(kind, api.RcValue) api.Errno
	write  func(kind, []byte, api.RcValue) []byte
	read   func(kind, *reader) (api.RcValue, api.Errno)
}

// kindTable returns all kinds.
func kindTable() [7]kind {
	return [7]kind{
		{'b', 1, kind.checkNumber, kind.writeFixed, kind.readFixed},
		{'w', 2, kind.checkNumber, kind.writeFixed, kind.readFixed},
		{'d', 4, kind.checkNumber, kind.writeFixed, kind.readFixed},
		{'q', 8, kind.checkNumber, kind.writeFixed, kind.readFixed},
		{'v', 8, kind.checkNumber, kind.writeGroups, kind.readGroups},
		{'s', 1, kind.checkText, kind.writeText, kind.readText},
		{'l', 4, kind.checkList, kind.writeList, kind.readList},
	}
}

// checkNumber says whether v is a number that fits.
func (k kind) checkNumber(v api.RcValue) api.Errno {
	switch {
	case v.Str != "" || len(v.List) > 0:
		return api.ErrArg
	case v.Num>>(8*k.bytes) > 0:
		return api.ErrRange
	}
	return api.OK
}

// checkText says whether v is a string that may be written.
func (kind) checkText(v api.RcValue) api.Errno {
	switch {
	case v.Num != 0 || len(v.List) > 0:
		return api.ErrArg
	case len(v.Str) > api.MaxRcStr:
		return api.ErrLong
	}
	return api.OK
}

// checkList says whether v is a list that may be written.
func (kind) checkList(v api.RcValue) api.Errno {
	switch {
	case v.Num != 0 || v.Str != "":
		return api.ErrArg
	case len(v.List) > api.MaxRcList:
		return api.ErrLong
	}
	return api.OK
}

// writeFixed adds the number of v to b, in the bytes of the kind.
func (k kind) writeFixed(b []byte, v api.RcValue) []byte {
	return addFixed(b, v.Num, k.bytes)
}

// writeGroups adds the number of v to b, in groups of bits.
func (kind) writeGroups(b []byte, v api.RcValue) []byte {
	return addGroups(b, v.Num)
}

// writeText adds the string of v to b.
func (kind) writeText(b []byte, v api.RcValue) []byte {
	return append(addGroups(b, uint64(len(v.Str))), v.Str...)
}

// writeList adds the list of v to b.
func (k kind) writeList(b []byte, v api.RcValue) []byte {
	b = addGroups(b, uint64(len(v.List)))
	for _, n := range v.List {
		b = addFixed(b, uint64(n), k.bytes)
	}
	return b
}

// readFixed reads a number in the bytes of the kind.
func (k kind) readFixed(r *reader) (api.RcValue, api.Errno) {
	b, e := r.take(k.bytes)
	return api.RcValue{Num: fixed(b)}, e
}

// readGroups reads a number in groups of bits.
func (kind) readGroups(r *reader) (api.RcValue, api.Errno) {
	n, e := r.groups()
	return api.RcValue{Num: n}, e
}

// readText reads a string.
func (k kind) readText(r *reader) (api.RcValue, api.Errno) {
	b, e := r.counted(api.MaxRcStr, k.bytes)
	return api.RcValue{Str: string(b)}, e
}

// readList reads a list.
func (k kind) readList(r *reader) (v api.RcValue, e api.Errno) {
	b, e := r.counted(api.MaxRcList, k.bytes)
	for ; len(b) > 0; b = b[k.bytes:] {
		v.List = append(v.List, uint32(fixed(b[:k.bytes])))
	}
	return v, e
}
