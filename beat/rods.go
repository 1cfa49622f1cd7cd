package beat

import (
	"slices"

	"turret/api"
)

// length returns how long a pendulum is.
func length(rods []api.BeatRod) int {
	sum := 0
	for _, r := range rods {
		sum += lowering(r)
	}
	return sum
}

// lowering returns by how much a rod lowers the bob; below 0 if it lifts it.
func lowering(r api.BeatRod) int {
	if r.Up {
		return -r.Length
	}
	return r.Length
}

// cut returns the same with a rod of another length.
func (k known) cut(rod, length int) known {
	k.Rods = slices.Clone(k.Rods)
	k.Rods[rod].Length = length
	return k
}

// lengths returns the lengths of a rod with which the clock is valid.
func (k known) lengths(rod int) span {
	r := k.Rods[rod]
	others := length(k.Rods) - lowering(r)
	fit := around(api.MinBeatLength, api.MaxBeatLength).minus(around(others))
	if r.Up {
		fit = fit.scaled(-1)
	}
	return around(max(fit.Low, 1), min(fit.High, api.MaxBeatLength))
}
