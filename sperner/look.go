package sperner

import (
	"sync"
	"sync/atomic"
)

// lookers is how many look at once.
const lookers = 4

// which of n numbers, from 0 on, something is so of, rising. Each one that looks takes the next number that nobody has taken, and what it sees lies in that number's own place: who saw it can't be told.
func which(n int, isSo func(i int) bool) []int {
	seen := make([]bool, n)
	var next atomic.Int64
	var group sync.WaitGroup
	group.Add(lookers)
	for range lookers {
		go func() {
			defer group.Done()
			for i := next.Add(1) - 1; i < int64(n); i = next.Add(1) - 1 {
				seen[i] = isSo(int(i))
			}
		}()
	}
	group.Wait()
	var found []int
	for i, so := range seen {
		if so {
			found = append(found, i)
		}
	}
	return found
}
