package quoted

// digits say 0 to 15, in order.
const digits = "0123456789ABCDEF"

// The least and the greatest width; any other one counts as the greatest.
const (
	narrow = 4 // an escape, and the = of a soft break
	wide   = 76
)

// Write writes bytes in quoted-printable.
func Write(b []byte, width int) []byte {
	if width < narrow || width > wide {
		width = wide
	}
	var out []byte
	line := 0 // how many bytes stand in it
	for len(b) > 0 {
		if ends(b) {
			out, line, b = append(out, 13, 10), 0, b[2:]
			continue
		}
		p := piece(b)
		if line+len(p) > width-1 {
			out, line = append(out, '=', 13, 10), 0
		}
		out, line, b = append(out, p...), line+len(p), b[1:]
	}
	return out
}

// ends tells whether bytes begin with 13 and 10.
func ends(b []byte) bool { return len(b) > 1 && b[0] == 13 && b[1] == 10 }

// piece is what is written for the first one of bytes.
func piece(b []byte) []byte {
	if stands(b) {
		return []byte{b[0]}
	}
	return []byte{'=', digits[b[0]>>4], digits[b[0]&15]}
}

// stands tells whether the first one of bytes is written as it stands.
func stands(b []byte) bool {
	if blank(b[0]) {
		return len(b) > 1 && !ends(b[1:])
	}
	return 33 <= b[0] && b[0] <= 126 && b[0] != '='
}
