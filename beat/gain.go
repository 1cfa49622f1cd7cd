package beat

// Milliseconds in a day: for each 10000 parts of 10^9 by which a pendulum is longer, and for each 1000 squares of a minute of arc.
const (
	perGrowth = -432
	perSquare = -457
)

// weather is what can be of what makes a clock gain, or of its change; of an arc the square counts.
type weather struct{ heat, press, square, force span }

// weather returns what weather there can be.
func (k known) weather() weather {
	arcs := k.spans[arc] // none is below 0, so the squares lie between those of its ends
	return weather{heat: k.spans[heat], press: k.spans[press], square: arcs.times(arcs), force: k.spans[force]}
}

// since returns by how much the weather can change from an earlier one.
func (w weather) since(from weather) weather {
	return weather{
		heat:   w.heat.minus(from.heat),
		press:  w.press.minus(from.press),
		square: w.square.minus(from.square),
		force:  w.force.minus(from.force),
	}
}

// unit returns into how many parts a millisecond is divided: so many that all rates of the clock are whole numbers of parts.
func (k known) unit() int { return 10000 * length(k.Rods) }

// rate returns the clock's rates in parts.
func (k known) rate() span { return around(k.Base * k.unit()).plus(k.gain(k.weather())) }

// gain returns the parts that the clock gains from a weather, or from a change of it.
func (k known) gain(w weather) span {
	unit := k.unit()
	return k.growth().times(w.heat).scaled(perGrowth).
		plus(k.spans[air].times(w.press).scaled(unit)).
		plus(w.square.scaled(perSquare * (unit / 1000))).
		plus(k.spans[drive].times(w.force).scaled(unit))
}

// growth returns by how much the pendulum grows for each tenth of a degree, in parts of 10^9 of a tenth of a millimetre.
func (k known) growth() span {
	sum := around(0)
	for i, r := range k.Rods {
		sum = sum.plus(k.spans[i].scaled(lowering(r)))
	}
	return sum
}
