package row

import (
	"barbican/api"
	"barbican/pack"
	"barbican/value"
)

// What stands ahead of a value.
const (
	nullMark = 0
	someMark = 1
)

// A truth's byte.
const (
	falseByte = 0
	trueByte  = 1
)

// lay lays a value that may be behind bytes that nobody else has. Its own bytes are laid apart, as pack would copy all that stands ahead of them.
func lay(own []byte, v api.Value) []byte {
	if v.Kind == api.KindNull {
		return append(own, nullMark)
	}
	own = append(own, someMark)
	switch v.Kind {
	case api.KindInt:
		return append(own, pack.AppendInt(nil, v.Int)...)
	case api.KindText:
		return append(own, pack.AppendText(nil, v.Text)...)
	}
	return append(own, truthByte(v.Bool))
}

// truthByte is the byte of a truth.
func truthByte(b bool) byte {
	if b {
		return trueByte
	}
	return falseByte
}

// first is the value of a column of a kind at the begin of bytes, and how many say it. Its text may be one that may not be.
func first(kind int, b []byte) (api.Value, int, bool) {
	switch {
	case len(b) == 0 || b[0] > someMark:
		return api.Value{}, 0, false
	case b[0] == nullMark:
		return value.Null(), 1, true
	}
	v, size, ok := some(kind, b[1:])
	return v, 1 + size, ok
}

// some is the value of a kind that stands, with nothing ahead of it, at the begin of bytes, and how many say it. Of a kind that has no values but null there is none.
func some(kind int, b []byte) (api.Value, int, bool) {
	switch kind {
	case api.KindInt:
		n, size, err := pack.Int(b)
		return value.Int(n), size, err == nil
	case api.KindText:
		s, size, err := pack.Text(b, api.MaxText)
		return value.Text(s), size, err == nil
	case api.KindBool:
		if len(b) > 0 && b[0] <= trueByte {
			return value.Bool(b[0] == trueByte), 1, true
		}
	}
	return api.Value{}, 0, false
}
