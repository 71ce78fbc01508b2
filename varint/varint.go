// Package varint is layer 1: see shared/doc/01-varint.md.
package varint

import (
	"math/bits"
	"sorrel/api"
	"strings"
)

const (
	maxNumber = 1 << 62
	groupBits = 7
	maxGroups = 9   // of a number up to maxNumber
	more      = 128 // on each byte of a number but its last one

	maxFix   = 1<<32 - 1
	fixBytes = 4
)

// groups is how many groups of seven bits a number needs.
func groups(n int) int {
	return max(1, (bits.Len(uint(n))+groupBits-1)/groupBits)
}

// Put is a number as bytes, as few as may be.
func Put(n int) (string, api.Errno) {
	if n < 0 || n > maxNumber {
		return "", api.ErrArg
	}
	b := make([]byte, groups(n))
	for i := range len(b) {
		b[i] = byte(n>>(groupBits*i)) | more
	}
	b[len(b)-1] &^= more
	return string(b), api.OK
}

// Take is the number that a text begins with, and how many bytes it has.
func Take(s string) (int, int, api.Errno) {
	n := 0
	for i := range min(len(s), maxGroups) {
		n |= int(s[i]&^more) << (groupBits * i)
		if s[i] >= more {
			continue
		}
		// A last byte of 0 would give one number several forms.
		if s[i] == 0 && i > 0 || n > maxNumber {
			return 0, 0, api.ErrForm
		}
		return n, i + 1, api.OK
	}
	if len(s) < maxGroups {
		return 0, 0, api.ErrShort
	}
	return 0, 0, api.ErrForm
}

// Text is a text with its length ahead.
func Text(s string) (string, api.Errno) {
	if len(s) > api.MaxFrame {
		return "", api.ErrArg
	}
	head, _ := Put(len(s)) // a length that small is never refused
	return head + s, api.OK
}

// TakeText is the text that a text begins with, and how many bytes both have.
func TakeText(s string) (string, int, api.Errno) {
	n, head, err := Take(s)
	if err != api.OK {
		return "", 0, err
	}
	if n > api.MaxFrame {
		return "", 0, api.ErrForm
	}
	if n > len(s)-head {
		return "", 0, api.ErrShort
	}
	// A piece of s would keep all of s alive as long as the text is.
	return strings.Clone(s[head : head+n]), head + n, api.OK
}

// Fix is a number as four bytes, the lowest first.
func Fix(n int) (string, api.Errno) {
	if n < 0 || n > maxFix {
		return "", api.ErrArg
	}
	b := make([]byte, fixBytes)
	for i := range fixBytes {
		b[i] = byte(n >> (8 * i))
	}
	return string(b), api.OK
}

// TakeFix is the number of the four bytes that a text begins with.
func TakeFix(s string) (int, api.Errno) {
	if len(s) < fixBytes {
		return 0, api.ErrShort
	}
	n := 0
	for i := range fixBytes {
		n |= int(s[i]) << (8 * i)
	}
	return n, api.OK
}
