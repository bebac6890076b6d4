package side

import "sync"

// made: what came of the task with that number.
type made[A any] struct {
	number int
	answer A
}

// each: what do makes of each task, in the tasks' order, by so many workers side by side.
func each[T, A any](tasks []T, workers int, do func(T) A) []A {
	numbers, done := make(chan int), make(chan made[A])
	var working sync.WaitGroup
	for range workers {
		working.Add(1)
		go func() {
			defer working.Done()
			for n := range numbers {
				done <- made[A]{n, do(tasks[n])}
			}
		}()
	}
	answers := collect(len(tasks), numbers, done)
	close(numbers)
	working.Wait()
	return answers
}

// collect hands out the numbers below many, and gathers what is made of them. Whichever comes first, each answer goes to its number's place.
func collect[A any](many int, numbers chan<- int, done <-chan made[A]) []A {
	answers := make([]A, many)
	next := 0
	for left := many; left > 0; {
		free := numbers
		if next == many {
			free = nil // which takes no number: there is none left to hand out
		}
		select {
		case free <- next:
			next++
		case m := <-done:
			answers[m.number] = m.answer
			left--
		}
	}
	return answers
}
