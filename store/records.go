package store

import "bolster/api"

// A file of a store is batches, one after the other, and a batch is records: one that begins it,
// its changes, and one that ends it. Of a file only bytes at its end are ever lost, so that all
// of a batch is there if the record is there that ends it.

// The codes of the kinds of records. No text has such bytes, so that none passes for a file of
// a store.
const (
	beginCode byte = 0xf8 + iota
	setCode
	deleteCode
	endCode
)

// record is a record of any kind.
type record struct {
	code     byte
	from, to int        // of one that begins a batch: its groups
	change   api.Change // of a change
	sum      int        // of one that ends a batch: the checksum of what is before it
}

// kind is a kind of records: how that which follows the code is written, and read.
type kind struct {
	code  byte
	write func(b []byte, r record) []byte
	read  func(s *source) record
}

// kindOf returns the kind of a code, if there is one.
func kindOf(code byte) (kind, bool) {
	kinds := []kind{
		{beginCode, writeBegin, readBegin},
		{setCode, writeSet, readSet},
		{deleteCode, writeDelete, readDelete},
		{endCode, writeEnd, readEnd},
	}
	for _, k := range kinds {
		if k.code == code {
			return k, true
		}
	}
	return kind{}, false
}

func writeBegin(b []byte, r record) []byte { return writeNumber(writeNumber(b, r.from), r.to) }

func writeSet(b []byte, r record) []byte {
	return writeText(writeText(b, r.change.Key), r.change.Value)
}

func writeDelete(b []byte, r record) []byte { return writeText(b, r.change.Key) }

func writeEnd(b []byte, r record) []byte { return writeNumber(b, r.sum) }

// writeNumber appends a number as four bytes: there are less than 2^32 groups, since all that a
// program is given has fewer items.
func writeNumber(b []byte, n int) []byte {
	return append(b, byte(n>>24), byte(n>>16), byte(n>>8), byte(n))
}

// writeText appends a text after its length, which no key and no value has of more than a byte.
func writeText(b []byte, text string) []byte {
	return append(append(b, byte(len(text))), text...)
}

func readBegin(s *source) record {
	from := s.number()
	to := s.number()
	return record{from: from, to: to}
}

func readSet(s *source) record {
	key := s.text(1, api.MaxKey)
	value := s.text(0, api.MaxValue)
	return record{change: api.Change{Key: key, Value: value}}
}

func readDelete(s *source) record {
	return record{change: api.Change{Key: s.text(1, api.MaxKey), Delete: true}}
}

func readEnd(s *source) record { return record{sum: s.number()} }

// written returns a record after other bytes.
func (r record) written(b []byte) []byte {
	b = append(b, r.code)
	if k, ok := kindOf(r.code); ok {
		b = k.write(b, r)
	}
	return b
}

// written returns a batch as records.
func (b batch) written() []byte {
	bytes := record{code: beginCode, from: b.from, to: b.to}.written(nil)
	for _, c := range b.changes {
		code := setCode
		if c.Delete {
			code = deleteCode
		}
		bytes = record{code: code, change: c}.written(bytes)
	}
	return record{code: endCode, sum: checksum(bytes)}.written(bytes)
}

// checksum returns a number of four bytes, which is another one whenever a single byte is (FNV-1a).
func checksum(b []byte) int {
	sum := uint32(2166136261)
	for _, c := range b {
		sum = (sum ^ uint32(c)) * 16777619
	}
	return int(sum)
}

// form is the form that bytes have which are read.
type form int

const (
	whole form = iota // they are batches
	cut               // they are batches, but the last one lacks its end
	wrong             // they are not
)

// source is bytes that are read.
type source struct {
	bytes []byte
	at    int
	form  form
}

// read returns the batches that bytes begin with, and what form the bytes have.
func read(bytes []byte) ([]batch, form) {
	s := &source{bytes: bytes}
	var list []batch
	for s.at < len(s.bytes) && s.form == whole {
		b := s.batch()
		if s.form == whole {
			list = append(list, b)
		}
	}
	return list, s.form
}

// fail sets the form. What is read after the first failure is not in the bytes, so that later
// ones say nothing.
func (s *source) fail(f form) {
	if s.form == whole {
		s.form = f
	}
}

// batch reads a batch, of which there is at least a byte.
func (s *source) batch() batch {
	start := s.at
	if s.bytes[start] != beginCode {
		s.fail(wrong)
	}
	begin := s.record()
	b := batch{from: begin.from, to: begin.to}
	for s.form == whole {
		end := s.at
		r := s.record()
		switch r.code {
		case setCode, deleteCode:
			b.changes = append(b.changes, r.change)
		case endCode:
			if r.sum != checksum(s.bytes[start:end]) {
				s.fail(wrong)
			}
			return b
		default:
			s.fail(wrong)
		}
	}
	return b
}

// record reads a record.
func (s *source) record() record {
	k, ok := kindOf(s.take(1)[0])
	if !ok {
		s.fail(wrong)
		return record{}
	}
	r := k.read(s)
	r.code = k.code
	return r
}

// number reads a number.
func (s *source) number() int {
	n := 0
	for _, c := range s.take(4) {
		n = n<<8 | int(c)
	}
	return n
}

// text reads a text whose length has bounds.
func (s *source) text(least, most int) string {
	n := int(s.take(1)[0])
	if n < least || n > most {
		s.fail(wrong)
		return ""
	}
	return string(s.take(n))
}

// take reads some bytes; those that are not there are taken as 0.
func (s *source) take(n int) []byte {
	if len(s.bytes)-s.at < n {
		s.fail(cut)
		s.at = len(s.bytes)
		return make([]byte, n)
	}
	s.at += n
	return s.bytes[s.at-n : s.at]
}
