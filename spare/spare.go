// Package spare is for tests alone: lists with something in the spare room behind them, to tell whether a call changes that room or hands it out.
package spare

// room: so many elements lie behind a list.
const room = 40

// List: a new list of what p has, and all of its memory: the list and, behind it, the spare room, x in each place of it.
func List[T any](p []T, x T) (list, all []T) {
	all = make([]T, 0, len(p)+room)
	all = append(all, p...)
	for range room {
		all = append(all, x)
	}
	return all[:len(p)], all
}

// Fill writes x over a list and over the spare room behind it.
func Fill[T any](p []T, x T) {
	p = p[:cap(p)]
	for i := range p {
		p[i] = x
	}
}
