package side

import (
	"runtime"
	"slices"
	"sync"
	"testing"
	"time"

	"lammastide/api"
)

// patience: far longer than any of these tests needs, so that one that hangs is told.
const patience = 20 * time.Second

// crowd counts those that are at work at the same time.
type crowd struct {
	lock          sync.Mutex
	now, most, in int
}

func (c *crowd) enter() int {
	c.lock.Lock()
	defer c.lock.Unlock()
	c.now++
	c.in++
	c.most = max(c.most, c.now)
	return c.now
}

func (c *crowd) leave() {
	c.lock.Lock()
	defer c.lock.Unlock()
	c.now--
}

func upTo(n int) []int {
	list := make([]int, n)
	for i := range list {
		list[i] = i
	}
	return list
}

// TestEachInOrder: a task's answer stands in its place, also where the tasks end the other way round.
func TestEachInOrder(t *testing.T) {
	for workers := 1; workers <= api.Workers; workers++ {
		for _, many := range []int{0, 1, 2, workers, 3*workers + 1} {
			got := each(upTo(many), workers, func(n int) string {
				time.Sleep(time.Duration(many-n) * 20 * time.Microsecond)
				return string(rune('A' + n))
			})
			if len(got) != many {
				t.Fatal(workers, many, got)
			}
			for n, s := range got {
				if s != string(rune('A'+n)) {
					t.Errorf("%d of %d by %d: %q", n, many, workers, s)
				}
			}
		}
	}
}

// TestEachOnce: no task is done twice, or left out.
func TestEachOnce(t *testing.T) {
	for workers := 1; workers <= api.Workers; workers++ {
		var lock sync.Mutex
		var seen []int
		each(upTo(50), workers, func(n int) struct{} {
			lock.Lock()
			defer lock.Unlock()
			seen = append(seen, n)
			return struct{}{}
		})
		if slices.Sort(seen); !slices.Equal(seen, upTo(50)) {
			t.Error(workers, seen)
		}
	}
}

// TestEachSideBySide: so many are at work at the same time as there are workers, and never more.
func TestEachSideBySide(t *testing.T) {
	for workers := 1; workers <= api.Workers; workers++ {
		var c crowd
		full := make(chan struct{})
		var once sync.Once
		each(upTo(4*workers), workers, func(int) int {
			defer c.leave()
			if c.enter() == workers {
				once.Do(func() { close(full) })
			}
			select {
			case <-full:
				time.Sleep(time.Millisecond) // so that one too many would be there as well
			case <-time.After(patience):
				t.Error(workers, "are never at work together")
			}
			return 0
		})
		if c.most != workers || c.now != 0 || c.in != 4*workers {
			t.Error(workers, c.most, c.now, c.in)
		}
	}
}

// TestEachIsJoined: behind the call none of its goroutines is left.
func TestEachIsJoined(t *testing.T) {
	ahead := runtime.NumGoroutine()
	for workers := 1; workers <= api.Workers; workers++ {
		for _, many := range []int{0, 1, 5, 40} {
			each(upTo(many), workers, func(n int) int { return n })
		}
	}
	// One that is joined has told so with its last step, and may yet take a moment to go.
	for end := time.Now().Add(patience); runtime.NumGoroutine() > ahead; time.Sleep(time.Millisecond) {
		if time.Now().After(end) {
			t.Fatal(runtime.NumGoroutine(), "goroutines; there were", ahead)
		}
	}
}
