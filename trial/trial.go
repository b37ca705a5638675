// Package trial has what the tests of several layers need. The program itself does not use it.
package trial

import "slices"

// Words calls f with each list of n elements of an alphabet.
func Words[E any](alphabet []E, n int, f func(word []E)) {
	if n == 0 {
		f(nil)
		return
	}
	Words(alphabet, n-1, func(word []E) {
		for _, x := range alphabet {
			// Clipped, so that words that begin alike do not share what follows.
			f(append(slices.Clip(word), x))
		}
	})
}

// Chance returns a function whose results are below its argument, and the same ones for a seed each time.
func Chance(seed uint32) func(n int) int {
	return func(n int) int {
		seed = seed*1664525 + 1013904223
		// The lower bits repeat soon.
		return int(seed>>8) % n
	}
}

// Spoil overwrites a list, with all that it has room for.
func Spoil[E any](list []E, with E) {
	list = list[:cap(list)]
	for i := range list {
		list[i] = with
	}
}

// Short is what of a long list is worth telling.
func Short[L ~string | ~[]byte](list L) L { return list[:min(len(list), 40)] }
