package abridger

import "sync"

// both reads two texts side by side.
func both[T any](read func([]byte) T, a, b []byte) (T, T) {
	first, second := make(chan T, 1), make(chan T, 1)
	var workers sync.WaitGroup
	workers.Add(2)
	go func() {
		defer workers.Done()
		first <- read(a)
	}()
	go func() {
		defer workers.Done()
		second <- read(b)
	}()
	var x, y T
	for range 2 {
		select {
		case x = <-first:
		case y = <-second:
		}
	}
	workers.Wait()
	return x, y
}
