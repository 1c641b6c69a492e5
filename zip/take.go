package zip

// field is a number that comes: how many bytes it has, and what it is for.
type field struct {
	bytes int
	use   func(v uint64)
}

// into makes a use: the number is kept in a place.
func into(place *uint64) func(v uint64) {
	return func(v uint64) { *place = v }
}

// unused is the use of a number that says nothing.
func unused(uint64) {}

// gather takes fields, one behind the other, and then goes on.
func (w *Walker) gather(then func(), fields ...field) {
	if len(fields) == 0 {
		then()
		return
	}
	var v uint64
	bits := 0
	w.next = func(b byte) {
		v |= uint64(b) << bits
		bits += 8
		if bits == 8*fields[0].bytes {
			fields[0].use(v)
			w.gather(then, fields[1:]...)
		}
	}
}

// take hands so many bytes to use, and then goes on.
func (w *Walker) take(many uint64, use func(b byte), then func()) {
	if many == 0 {
		then()
		return
	}
	w.next = func(b byte) {
		use(b)
		many--
		if many == 0 {
			then()
		}
	}
}

// pass passes over so many bytes, and then goes on.
func (w *Walker) pass(many uint64, then func()) {
	w.take(many, func(byte) {}, then)
}
