// Package num is layer 1: it writes numbers and texts as bytes, and reads them.
package num

import "garret/api"

const (
	mostFixed     = 8 // bytes of a fixed number that is written
	mostFixedRead = 7 // and of one that is read: its number is an int, whatever the bytes are
	mostShort     = 9 // bytes of a short number: 63 bits
	more          = 0x80
)

// Fixed tells n as so many bytes, the highest one first.
func Fixed(n, bytes int) (string, api.Code) {
	if n < 0 || bytes < 1 || bytes > mostFixed || n>>(8*bytes) != 0 {
		return "", api.ErrRange
	}
	out := make([]byte, bytes)
	for i := range out {
		out[bytes-1-i] = byte(n >> (8 * i))
	}
	return string(out), api.OK
}

// Short tells n with seven bits a byte, the lowest seven first.
func Short(n int) (string, api.Code) {
	if n < 0 {
		return "", api.ErrRange
	}
	out := make([]byte, 0, mostShort)
	for n >= more {
		out = append(out, byte(n)|more)
		n >>= 7
	}
	return string(append(out, byte(n))), api.OK
}

// Text tells s with its length ahead.
func Text(s string) string {
	long, _ := Short(len(s)) // a length is never below 0
	return long + s
}

// Reader reads what Fixed, Short and Text wrote, one thing behind the other.
// It goes no further once something was wrong, so that a caller may ask for
// all that it needs and look at the error once.
type Reader struct {
	text string
	at   int
	err  api.Code
}

// found is what stands ahead of a reader: a number or a text, and how many bytes it takes.
type found struct {
	number int
	text   string
	long   int
}

// Read is a reader of s, from its front on.
func Read(s string) *Reader { return &Reader{text: s} }

// Fixed reads a number of so many bytes, from 1 to 7.
func (r *Reader) Fixed(bytes int) int { return r.ask(r.fixedAhead, bytes).number }

// Short reads a short number that is at most most.
func (r *Reader) Short(most int) int { return r.ask(r.shortAhead, most).number }

// Text reads a text of at most so many bytes.
func (r *Reader) Text(most int) string { return r.ask(r.textAhead, most).text }

// Bytes reads n bytes as they are.
func (r *Reader) Bytes(n int) string { return r.ask(r.bytesAhead, n).text }

// Left tells how many bytes were not read.
func (r *Reader) Left() int { return len(r.text) - r.at }

// Err is the first thing that was wrong, or OK.
func (r *Reader) Err() api.Code { return r.err }

// Fail lets a caller refuse what was read: e is the reader's error, unless it has one.
func (r *Reader) Fail(e api.Code) {
	if r.err == api.OK {
		r.err = e
	}
}

// End tells whether all was read, and nothing was wrong.
func (r *Reader) End() api.Code {
	if r.Left() > 0 {
		r.Fail(api.ErrForm)
	}
	return r.err
}

// ask is the one place where a reader moves on or fails: the looks ahead leave
// it as it is, so that it stands where it stood if one of them finds a fault.
func (r *Reader) ask(ahead func(int) (found, api.Code), argument int) found {
	if r.err != api.OK {
		return found{}
	}
	f, e := ahead(argument)
	if e != api.OK {
		r.Fail(e)
		return found{}
	}
	r.at += f.long
	return f
}

func (r *Reader) fixedAhead(bytes int) (found, api.Code) {
	if bytes < 1 || bytes > mostFixedRead {
		return found{}, api.ErrRange
	}
	f, e := r.bytesAhead(bytes)
	if e != api.OK {
		return found{}, e
	}
	n := 0
	for i := range bytes {
		n = n<<8 | int(f.text[i])
	}
	return found{number: n, long: bytes}, api.OK
}

func (r *Reader) shortAhead(most int) (found, api.Code) {
	n := 0
	for i := range mostShort {
		if i == r.Left() {
			return found{}, api.ErrEnd
		}
		b := r.text[r.at+i]
		n |= int(b&^more) << (7 * i)
		if b&more != 0 {
			continue
		}
		if b == 0 && i > 0 { // the same number has a shorter form
			return found{}, api.ErrForm
		}
		if n > most {
			return found{}, api.ErrLong
		}
		return found{number: n, long: i + 1}, api.OK
	}
	return found{}, api.ErrForm
}

func (r *Reader) textAhead(most int) (found, api.Code) {
	length, e := r.shortAhead(most)
	if e != api.OK {
		return found{}, e
	}
	if length.number > r.Left()-length.long { // no sum: it could wrap round
		return found{}, api.ErrEnd
	}
	from := r.at + length.long
	return found{text: r.text[from : from+length.number], long: length.long + length.number}, api.OK
}

func (r *Reader) bytesAhead(n int) (found, api.Code) {
	if n < 0 {
		return found{}, api.ErrRange
	}
	if n > r.Left() {
		return found{}, api.ErrEnd
	}
	return found{text: r.text[r.at : r.at+n], long: n}, api.OK
}
