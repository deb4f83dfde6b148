// Package throw is for the layers that throw an error where they meet it, and
// answer it at their face.
package throw

import "quarry/api"

// Caught is what some work makes, or just the error that it throws.
func Caught[T any](work func() T) (made T, e api.Errno) {
	defer func() {
		if thrown := recover(); thrown != nil {
			e = thrown.(api.Errno)
		}
	}()
	return work(), api.OK
}

// If throws an error, if it is one.
func If(e api.Errno) {
	if e != api.OK {
		panic(e)
	}
}
