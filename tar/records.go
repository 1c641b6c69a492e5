package tar

import (
	"strconv"

	"winkle/api"
)

const (
	mostDigits = 4 // of a record's length
	sizeBits   = 63
)

// read goes through records, and tells by what it is stopped.
func (c *toCome) read(rest []byte) api.Reason {
next:
	for len(rest) > 0 {
		pair, length := cut(rest)
		rest = rest[length:]
		for i, b := range pair {
			if b != '=' {
				continue
			}
			if why := c.set(string(pair[:i]), string(pair[i+1:])); why != api.None {
				return why
			}
			continue next
		}
		return api.BadRecord
	}
	return api.None
}

// cut tells what stands between the blank and the line's end of the first record, and how long that record is; none and 0, if it is none.
func cut(b []byte) (pair []byte, length int) {
	digits := 0
	for digits < min(mostDigits, len(b)) && b[digits] >= '0' && b[digits] <= '9' {
		length = 10*length + int(b[digits]-'0')
		digits++
	}
	first, last := digits+1, length-1 // of no digits the length is 0, so that last lies ahead of first
	if first > last || length > len(b) || b[digits] != ' ' || b[last] != '\n' {
		return nil, 0
	}
	return b[first:last], length
}

// set takes what a record says, and tells by what it is stopped.
func (c *toCome) set(key, value string) api.Reason {
	switch key {
	case "path":
		return c.setName(value)
	case "size":
		return c.setSize(value)
	}
	return api.None
}

func (c *toCome) setName(name string) api.Reason {
	if len(name) > api.MaxName {
		return api.BadName
	}
	c.name, c.hasName = name, true
	return api.None
}

func (c *toCome) setSize(digits string) api.Reason {
	size, err := strconv.ParseUint(digits, 10, sizeBits)
	if err != nil {
		return api.BadNumber
	}
	c.size, c.hasSize = size, true
	return api.None
}
