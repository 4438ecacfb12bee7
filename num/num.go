// Package num: numbers and texts, as bytes: see doc/01-num.md.
package num

import "diwan/api"

// Put tells v in groups of seven bits, or nothing of what is below 0.
func Put(v int) []byte {
	if v < 0 {
		return nil
	}
	var b []byte
	for ; v > low; v >>= 7 {
		b = append(b, byte(v&low)|more)
	}
	return append(b, byte(v))
}

// Take tells the number that b begins with, and how many bytes that is.
func Take(b []byte) (v, n int, ok bool) {
	r := reader{b: b}
	return first(&r, r.number)
}

// PutText tells how many bytes s has, and they, or nothing of what is too long.
func PutText(s string) []byte {
	if len(s) > api.MaxText {
		return nil
	}
	return append(Put(len(s)), s...)
}

// TakeText tells the text that b begins with, and how many bytes that is.
func TakeText(b []byte) (s string, n int, ok bool) {
	r := reader{b: b}
	return first(&r, r.text)
}
