package jury

// trait says what belongs to a kind of decisions.
type trait struct {
	own    bool               // whether the decision is about a skier
	most   int                // the greatest Much
	change func(much int) int // how the much changes a total, of the kinds that do so
}

// trait returns what belongs to a kind that there is.
func (k Kind) trait() trait {
	more := func(much int) int { return much }
	less := func(much int) int { return -much }
	loops := func(much int) int { return LoopCost * much }
	return [Dismiss + 1]trait{
		Penalty: {own: true, most: MaxMuch, change: more},
		Bonus:   {own: true, most: MaxMuch, change: less},
		Loops:   {own: true, most: MaxMuch, change: loops},
		Out:     {own: true},
		Claim:   {own: true, most: MaxMuch, change: more},
		Replace: {most: MaxMuch},
	}[k]
}

// asks reports whether a decision asks for another one, so that it can be
// late, open, upheld and dismissed.
func (d Decision) asks() bool { return d.Kind == Protest || d.Kind == Claim }

// rules reports whether a decision decides one that asks.
func (d Decision) rules() bool { return d.Kind == Uphold || d.Kind == Dismiss }
