package disk

import (
	"bytes"
	"maps"
	"slices"

	"turnpike/api"
)

// arm is a failure of the power to come: so many operations ahead of the one in which it comes, and its choices.
type arm struct {
	after   int
	choices []int
}

// Crash: P3.7.
func (d *Disk) Crash(choices ...int) {
	if d == nil || d.down {
		return
	}
	choose := chooser(choices)
	d.names.fail(choose, maps.Clone)
	d.forget()
	for _, name := range d.Names() {
		d.files[d.names.now[name]].fail(choose, bytes.Clone)
	}
	d.arm, d.down = nil, true
}

// Arm: P3.7.
func (d *Disk) Arm(after int, choices ...int) {
	if d == nil || d.down {
		return
	}
	d.arm = &arm{after: max(after, 0), choices: slices.Clone(choices)}
}

// Down: P3.7.
func (d *Disk) Down() bool { return d != nil && d.down }

// Up: P3.7.
func (d *Disk) Up() {
	if d != nil {
		d.down = false
	}
}

// goesOff: does the power fail in the next operation?
func (d *Disk) goesOff() bool { return d.arm != nil && d.arm.after == 0 }

// done ends an operation: what it answers.
func (d *Disk) done() api.Errno {
	if d.goesOff() {
		d.Crash(d.arm.choices...)
		return api.ErrDown
	}
	if d.arm != nil {
		d.arm.after--
	}
	return api.OK
}

// chooser: a function that takes choice after choice, and makes a number from 0 to most of it.
func chooser(choices []int) func(most int) int {
	next := 0
	return func(most int) int {
		if next >= len(choices) {
			return 0
		}
		choice := choices[next]
		next++
		n := most + 1
		return (choice%n + n) % n // a remainder below 0 is lifted
	}
}
