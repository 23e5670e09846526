package merge

// rest is what is left of a row, one thing at least, and which one of the rows that is.
type rest[T any] struct {
	things []T
	number int
}

// waiting are rows that wait to be merged: package container/heap keeps the one on top whose next thing is ahead.
type waiting[T any] struct {
	rows    []rest[T]
	compare func(a, b T) int
}

// Len tells how many rows wait.
func (w *waiting[T]) Len() int {
	return len(w.rows)
}

// Less tells whether the next thing of the i-th row is ahead of that of the j-th one.
func (w *waiting[T]) Less(i, j int) bool {
	x, y := w.rows[i], w.rows[j]
	stands := w.compare(x.things[0], y.things[0])
	return stands < 0 || stands == 0 && x.number < y.number
}

// Swap lets two rows change places.
func (w *waiting[T]) Swap(i, j int) {
	w.rows[i], w.rows[j] = w.rows[j], w.rows[i]
}

// Push puts a row behind the others.
func (w *waiting[T]) Push(x any) {
	w.rows = append(w.rows, x.(rest[T]))
}

// Pop takes the last row out.
func (w *waiting[T]) Pop() any {
	last := len(w.rows) - 1
	x := w.rows[last]
	w.rows = w.rows[:last]
	return x
}
