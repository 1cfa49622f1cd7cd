package chime

import "turret/api"

// stepsOfAll returns after how many steps all cams are again as they were.
func stepsOfAll(l []api.ChimeCam) int {
	steps := 1
	for _, c := range l {
		steps = leastMultiple(steps, c.Steps)
	}
	return steps
}

// isOut reports whether a figure is out at a step.
func isOut(c api.ChimeCam, step int) bool {
	step %= c.Steps
	return c.Out.Low <= step && step <= c.Out.High
}
