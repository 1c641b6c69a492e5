package parts

import "winkle/api"

// Whole tells the parts of a body.
func Whole(b []byte, boundary string) (parts [][]byte, why api.Reason, e api.Errno) {
	s, e := New(boundary)
	if e != api.OK {
		return nil, api.None, e
	}
	for _, v := range b {
		s.Put(v)
		parts = s.gather(parts)
	}
	s.End()
	parts = s.gather(parts)
	return parts, s.Reason(), api.OK
}

// gather lays all that is known behind the parts.
func (s *Splitter) gather(parts [][]byte) [][]byte {
	for v, ok := s.Next(); ok; v, ok = s.Next() {
		switch v.Kind {
		case api.EventOpen:
			parts = append(parts, nil)
		case api.EventByte:
			last := len(parts) - 1
			parts[last] = append(parts[last], v.Byte)
		}
	}
	return parts
}

// Write writes parts as a body.
func Write(parts [][]byte, boundary string) ([]byte, bool) {
	if !Valid(boundary) {
		return nil, false
	}
	var out []byte
	for _, p := range parts {
		if holdsDelimiter(p, boundary) {
			return nil, false
		}
		out = append(out, "--"+boundary+"\r\n"...)
		out = append(out, p...)
		out = append(out, "\r\n"...)
	}
	return append(out, "--"+boundary+"--\r\n"...), true
}

// holdsDelimiter tells whether one of a part's lines is a delimiter. Taken as a body, the part would have parts of its own then, or be closed.
func holdsDelimiter(part []byte, boundary string) bool {
	within, why, _ := Whole(part, boundary)
	return len(within) > 0 || why != api.NoClose
}
