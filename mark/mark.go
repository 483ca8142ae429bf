// Package mark: marks: see ../shared/doc/01-mark.md.
package mark

import "keyholder/api"

const (
	// A prime, greater than any difference of two bytes: so that one byte changed never leads back to the same mark.
	modulus = 1000000007
	factor  = 257
)

// More of a text.
func More(key, n int, s string) (int, error) {
	if !isKey(key) {
		return 0, api.ErrKey
	}
	if n < 0 || n >= modulus {
		return 0, api.ErrBound
	}
	return reckon(key, n, s), nil
}

// Of a text.
func Of(key int, s string) (int, error) {
	// Every key is a number that More takes: no error but ErrKey comes of it.
	return More(key, key, s)
}

// Right: is it the mark?
func Right(key int, s string, n int) error {
	m, err := Of(key, s)
	if err != nil {
		return err
	}
	if m != n {
		return api.ErrMark
	}
	return nil
}

func isKey(key int) bool { return key >= 1 && key <= api.MaxKey }

func reckon(key, n int, s string) int {
	// An int may have 32 bits, and a step needs 38.
	m, k := int64(n), int64(key)
	for _, b := range []byte(s) {
		m = (m*factor + int64(b) + 1 + k) % modulus
	}
	return int(m)
}
