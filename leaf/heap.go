package leaf

// waiting are numbers that wait: package container/heap keeps the least one on top. places tells where each one stands.
type waiting struct {
	numbers []int
	places  map[int]int
}

// Len tells how many numbers wait.
func (w *waiting) Len() int {
	return len(w.numbers)
}

// Less tells whether the i-th number is less than the j-th one.
func (w *waiting) Less(i, j int) bool {
	return w.numbers[i] < w.numbers[j]
}

// Swap lets two numbers change places.
func (w *waiting) Swap(i, j int) {
	w.numbers[i], w.numbers[j] = w.numbers[j], w.numbers[i]
	w.places[w.numbers[i]], w.places[w.numbers[j]] = i, j
}

// Push puts a number behind the others.
func (w *waiting) Push(x any) {
	n := x.(int)
	w.places[n] = len(w.numbers)
	w.numbers = append(w.numbers, n)
}

// Pop takes the last number out.
func (w *waiting) Pop() any {
	last := len(w.numbers) - 1
	n := w.numbers[last]
	w.numbers = w.numbers[:last]
	delete(w.places, n)
	return n
}
