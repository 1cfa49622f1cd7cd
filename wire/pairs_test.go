package wire_test

import (
	"testing"
)

// P8.4

func TestPairs(t *testing.T) {
	expectPairs(t, town(2))
	expectPairs(t, town(40), [2]int{0, 2}, [2]int{1, 2})
	expectPairs(t, town(40).without(0), [2]int{1, 2})
	expectPairs(t, town(40).without(1), [2]int{0, 2})
	expectPairs(t, town(40).without(2))
	expectPairs(t, town(40).without(0, 1, 2))
	// All pairs, in ascending order.
	near := span(-20, 20)
	expectPairs(t, wanted(near, 1, 2, 3), [2]int{0, 1}, [2]int{0, 2}, [2]int{1, 2})
	expectPairs(t, wanted(near, 1, 2, 1, 2), [2]int{0, 1}, [2]int{0, 3}, [2]int{1, 2}, [2]int{2, 3})
	expectPairs(t, wanted(near, 5, 5, 5, 4, 5), [2]int{0, 3}, [2]int{1, 3}, [2]int{2, 3}, [2]int{3, 4})
	expectPairs(t, wanted(near, 5, 5, 5, 5))
	expectPairs(t, wanted(near, 5))
	// Of ten sources.
	var all [][2]int
	for i := range 10 {
		for j := i + 1; j < 10; j++ {
			all = append(all, [2]int{i, j})
		}
	}
	expectPairs(t, wanted(near, 0, 1, 2, 3, 4, 5, 6, 7, 8, 9), all...)
}

// A pair may be right with another correction than near has, or a source with none: this source and any other are never both right.
func TestPairsBeyondNear(t *testing.T) {
	expectPairs(t, wanted(span(-20, 20), 5, 30), [2]int{0, 1})
	expectPairs(t, wanted(span(-20, 20), 30, 30), [2]int{0, 1})
	expectPairs(t, wanted(span(-20, 30), 30, 30))
	expectPairs(t, town(2).around(span(0, 99)), [2]int{0, 1}, [2]int{0, 2}, [2]int{1, 2})
	expectPairs(t, town(2).around(span(102, 103)), [2]int{0, 1}, [2]int{0, 2})
	expectPairs(t, town(2).around(single(99)), [2]int{0, 1}, [2]int{0, 2}, [2]int{1, 2})
	// So it is with a source without notes.
	expectPairs(t, town(2).around(single(99)).without(0), [2]int{0, 1}, [2]int{1, 2})
	expectPairs(t, town(2).around(single(99)).without(0, 1))
	expectPairs(t, town(2).around(single(98)).without(0, 1), [2]int{0, 2}, [2]int{1, 2})
	// Notes of one source that contradict one another.
	q := ask(signals(3), span(-20, 20), note(1, 100, 105), note(1, 200, 206))
	expectPairs(t, q, [2]int{0, 1}, [2]int{1, 2})
	expectPairs(t, ask(signals(1), span(-20, 20), note(0, 100, 105), note(0, 200, 206)))
}

// Pairs that agree two by two, but not all at once.
func TestPairsAreNotAll(t *testing.T) {
	near := span(-20, 20)
	w := sources(signal(span(0, 5)), event(span(0, 1), 1000, 5), signal(span(5, 9)))
	q := ask(w, near, note(0, 1000, 1000), note(1, 1002, 0), note(2, 1000, 1000))
	// 0 to 5; 3 to 4, 8 to 9, and so on; 5 to 9.
	expectPairs(t, q)
	expectFits(t, q)
	expectMost(t, q, 2, span(3, 5), span(8, 9))
	expectWrong(t, q, numbers(0), numbers(1), numbers(2))
}
