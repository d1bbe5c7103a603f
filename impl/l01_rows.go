package impl

import (
	"cmp"
	"strings"
)

const (
	MaxText = 12
	MaxRows = 120
	MaxTag  = 3
)

// In a code, a byte 0 never stands alone: byteMark behind it makes it a byte
// of the text, a second byte 0 ends the text. As byteMark is the greatest
// byte and the end the least, codes have the order of their texts.
const (
	byteMark = 255
	codeMark = "\x00\xff"
	codeEnd  = "\x00\x00"
)

const notACode = "not an encoding"

type Row struct {
	Key string
	Tag int64
	Val string
}

func textOk(s string) bool { return len(s) <= MaxText }

func RowOk(r Row) bool {
	return textOk(r.Key) && textOk(r.Val) && r.Tag >= 0 && r.Tag <= MaxTag
}

func RowsOk(l []Row) bool {
	if len(l) > MaxRows {
		return false
	}
	for _, r := range l {
		if !RowOk(r) {
			return false
		}
	}
	return true
}

func KeyCode(s string) string {
	if !textOk(s) {
		return ""
	}
	return strings.ReplaceAll(s, "\x00", codeMark) + codeEnd
}

func ReadKeyCode(s string) (string, int64, bool) {
	return reading(s, (*reader).keyCode)
}

func RowBytes(r Row) string {
	if !RowOk(r) {
		return ""
	}
	return KeyCode(r.Key) + string([]byte{byte(r.Tag)}) + KeyCode(r.Val)
}

func ReadRow(s string) (Row, int64, bool) {
	return reading(s, (*reader).row)
}

func Less(a Row, b Row) bool {
	return RowOk(a) && RowOk(b) && compareRows(a, b) < 0
}

func compareRows(a Row, b Row) int {
	return cmp.Or(
		cmp.Compare(a.Key, b.Key),
		cmp.Compare(a.Tag, b.Tag),
		cmp.Compare(a.Val, b.Val),
	)
}

func RowsBytes(l []Row) string {
	if !RowsOk(l) {
		return ""
	}
	var out strings.Builder
	for _, r := range l {
		out.WriteString(RowBytes(r))
	}
	return out.String()
}

func ReadRows(s string) ([]Row, bool) {
	l, _, ok := reading(s, (*reader).rows)
	return l, ok
}

// A reader takes encodings from the front of a text. Its methods panic where
// the text is not an encoding, so that none of them has to pass on a flag.
type reader struct {
	text string
	at   int
}

// reading is the one place where a reader's panic becomes false.
func reading[T any](s string, read func(*reader) T) (value T, n int64, ok bool) {
	defer func() {
		if recover() != nil {
			var none T
			value, n, ok = none, 0, false
		}
	}()
	r := &reader{text: s}
	value = read(r)
	return value, int64(r.at), true
}

func (r *reader) require(ok bool) {
	if !ok {
		panic(notACode)
	}
}

func (r *reader) ended() bool { return r.at == len(r.text) }

func (r *reader) next() byte {
	r.require(!r.ended())
	c := r.text[r.at]
	r.at++
	return c
}

func (r *reader) keyCode() string {
	var key []byte
	for {
		c := r.next()
		if c == 0 {
			mark := r.next()
			if mark == 0 {
				return string(key)
			}
			r.require(mark == byteMark)
		}
		r.require(len(key) < MaxText)
		key = append(key, c)
	}
}

func (r *reader) row() Row {
	key := r.keyCode()
	tag := r.next()
	r.require(tag <= MaxTag)
	return Row{Key: key, Tag: int64(tag), Val: r.keyCode()}
}

func (r *reader) rows() []Row {
	var l []Row
	for !r.ended() {
		r.require(len(l) < MaxRows)
		l = append(l, r.row())
	}
	return l
}
