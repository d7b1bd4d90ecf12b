package undesc

import (
	"glossary/api"
	"glossary/wire"
)

const smallLimit = 1 << 31

// fault is what panics where bytes are no description.
type fault struct {
	err api.Errno
}

// caught answers what read makes of the bytes, or the error for which it can't.
func caught[T any](read func(b []byte) T, b []byte) (answer T, err api.Errno) {
	defer func() {
		if f, is := recover().(fault); is {
			err = f.err
		}
	}()
	return read(b), api.OK
}

// rest calls take of each field that the bytes are, and answers, as bytes, those that it doesn't take.
func rest(b []byte, take func(f api.Raw) bool) []byte {
	fields, _, err := wire.Read(b)
	if err != api.OK {
		panic(fault{err})
	}
	var left []byte
	for _, f := range fields {
		if !take(f) {
			// What wire has read has a number and a kind that it puts too.
			put, _ := wire.Put(f)
			left = append(left, put...)
		}
	}
	return left
}

// block takes a text, or bytes, in place of the one ahead, if the field is of their kind.
func block[T any](f api.Raw, to *T, read func(b []byte) T) bool {
	if f.Kind != api.WireLen {
		return false
	}
	*to = read(f.B)
	return true
}

// item takes what makes a list grow, if the field is of its kind.
func item[T any](f api.Raw, to *[]T, read func(b []byte) T) bool {
	var one T
	taken := block(f, &one, read)
	if taken {
		*to = append(*to, one)
	}
	return taken
}

// number takes a number, or a truth, in place of the one ahead, if the field is of their kind.
func number[T any](f api.Raw, to *T, read func(n uint64) T) bool {
	if f.Kind != api.WireVarint {
		return false
	}
	*to = read(f.N)
	return true
}

func text(b []byte) string {
	return string(b)
}

// raw answers the bytes themselves: wire has read them into memory that nobody else has.
func raw(b []byte) []byte {
	return b
}

func whole(n uint64) int64 {
	return int64(n)
}

// small answers a number that has bounds. What is below 0 is, without its sign, beyond them too.
func small(n uint64) int {
	if n >= smallLimit {
		panic(fault{api.ErrDesc})
	}
	return int(n)
}

func truth(n uint64) bool {
	return n != 0
}
