package mimetype

import (
	"strings"

	"winkle/api"
)

// mostNested is how many comments may stand in one another.
const mostNested = 32

// misfit is what a reader panics with where it meets what may not be, as nothing that it has read is of use then.
type misfit struct{}

// gaveUp tells whether a reader gave up, by what was recovered. Any other panic would be a fault of this package, which must not pass for an answer.
func gaveUp(recovered any) bool {
	if recovered == nil {
		return false
	}
	if _, own := recovered.(misfit); !own {
		panic(recovered)
	}
	return true
}

// reader goes through a value from its first to its last byte.
type reader struct {
	text string
	at   int
}

// ended tells whether all was gone through.
func (r *reader) ended() bool { return r.at == len(r.text) }

// ahead tells whether the next byte is this one.
func (r *reader) ahead(b byte) bool { return !r.ended() && r.text[r.at] == b }

// next takes a byte, which must be there.
func (r *reader) next() byte {
	if r.ended() {
		panic(misfit{})
	}
	r.at++
	return r.text[r.at-1]
}

// between passes over what may stand between the parts of a value.
func (r *reader) between() {
	for {
		switch {
		case r.ahead(9), r.ahead(' '):
			r.at++
		case r.ahead('('):
			r.comment()
		default:
			return
		}
	}
}

// comment passes over a comment, and those in it.
func (r *reader) comment() {
	open := 0
	for {
		switch r.next() {
		case '(':
			open++
		case ')':
			open--
		case '\\':
			r.next()
		}
		if open == 0 {
			return
		}
		if open > mostNested {
			panic(misfit{})
		}
	}
}

// sign passes over a byte that must be this one, and over what stands between on both sides of it.
func (r *reader) sign(b byte) {
	r.between()
	if r.next() != b {
		panic(misfit{})
	}
	r.between()
}

// token takes a token. It is a piece of the value.
func (r *reader) token() string {
	n := run(r.text[r.at:])
	if n == 0 {
		panic(misfit{})
	}
	r.at += n
	return r.text[r.at-n : r.at]
}

// paramValue takes a parameter's value.
func (r *reader) paramValue() string {
	if r.ahead('"') {
		return r.quoted()
	}
	// A piece of the value would keep the whole of it.
	return strings.Clone(r.token())
}

// quoted takes a quoted text, from its " on, and tells what it says.
func (r *reader) quoted() string {
	r.next()
	var out []byte
	for {
		b := r.next()
		switch b {
		case '"':
			return string(out)
		case '\\':
			b = r.next()
		}
		out = append(out, b)
	}
}

// wholeType takes a type's value.
func (r *reader) wholeType() api.Type {
	var t api.Type
	r.between()
	t.Main = Lower(r.token())
	r.sign('/')
	t.Sub = Lower(r.token())
	r.between()
	for !r.ended() {
		t.Params = append(t.Params, r.param())
	}
	return t
}

// param takes a parameter, from its ; on.
func (r *reader) param() api.Field {
	var p api.Field
	r.sign(';')
	p.Name = Lower(r.token())
	r.sign('=')
	p.Value = r.paramValue()
	r.between()
	return p
}

// wholeWord takes a value that is one token, or nothing. It is a piece of the value.
func (r *reader) wholeWord() string {
	r.between()
	if r.ended() {
		return ""
	}
	word := r.token()
	r.between()
	if !r.ended() {
		panic(misfit{})
	}
	return word
}
