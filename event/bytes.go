package event

import (
	"partywall/api"
	"partywall/wire"
)

// The sizes of the fields of an event, in bytes, and of all of them.
const (
	labelSize = 8
	kindSize  = 1
	valueSize = 8
	eventSize = labelSize + kindSize + valueSize
)

// integer is what fields are made of.
type integer interface{ int64 | uint64 }

// unused returns how many bits of a word do not belong to a field of this size.
func unused(size int) int { return 64 - 8*size }

// put writes the last size bytes of n, in two's complement if it has a sign.
func put[N integer](w api.WireWriter, size int, n N) api.WireWriter {
	spare := unused(size)
	return wire.Put(w, size, uint64(n)<<spare>>spare)
}

// field reads size bytes as a number, in two's complement if it has a sign.
func field[N integer](r *reader, size int) N {
	spare := unused(size)
	return N(r.number(size)<<spare) >> spare
}

// reader reads a string from its beginning; behind the first fault there are only zeros.
type reader struct{ source api.WireReader }

// number reads size bytes as a number without a sign.
func (r *reader) number(size int) uint64 {
	var n uint64
	r.source, n = wire.Uint(r.source, size)
	return n
}

// offset returns where the next byte is.
func (r *reader) offset() int { return r.source.At }

// fail makes err the fault, at this offset, unless there is one already.
func (r *reader) fail(err api.Errno, at int) { r.source = wire.Fail(r.source, err, at) }

// end returns the first fault: ErrLong if bytes are left.
func (r *reader) end() api.Fault { return wire.End(r.source) }

// eventReader is a reader that knows the fields of an event.
type eventReader struct{ reader }

// kind reads a kind, and fails where it begins if it is none.
func (r *eventReader) kind() int {
	at := r.offset()
	kind := int(field[uint64](&r.reader, kindSize))
	if !isKind(kind) {
		r.fail(api.ErrKind, at)
	}
	return kind
}

// event reads the fields of an event, in their order.
func (r *eventReader) event() api.Event {
	var e api.Event
	e.Label = field[uint64](&r.reader, labelSize)
	e.Kind = r.kind()
	e.Value = field[int64](&r.reader, valueSize)
	return e
}

// Bytes returns the bytes of an event, or the error of Check.
func Bytes(e api.Event) (string, api.Errno) {
	if err := Check(e); err != api.OK {
		return "", err
	}
	w := put(wire.Make(eventSize), labelSize, e.Label)
	w = put(w, kindSize, int64(e.Kind))
	return wire.Done(put(w, valueSize, e.Value))
}

// Parse returns the event with these bytes, or the first fault.
func Parse(s string) (api.Event, api.Fault) {
	r := eventReader{reader{wire.Read(s)}}
	e := r.event()
	if f := r.end(); f.Err != api.OK {
		return api.Event{}, f
	}
	return e, api.Fault{}
}
