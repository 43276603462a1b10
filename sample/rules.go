package sample

import (
	"iter"
	"slices"

	"doublet/api"
)

// Ruled: rules of some trees, in order, with names of their own.
func Ruled(l ...api.Node) []api.Rule {
	var rules []api.Rule
	for i, name := range Called(len(l)) {
		rules = append(rules, api.Rule{Name: name, Body: l[i]})
	}
	return rules
}

// WithRule: the same rules but for one.
func WithRule(l []api.Rule, place int, rule api.Rule) []api.Rule {
	l = slices.Clone(l)
	l[place] = rule
	return l
}

// WrongRules goes through rules that may not be, each for one thing: too many, a name, two of one name, a tree.
func WrongRules() iter.Seq[[]api.Rule] {
	return func(yield func([]api.Rule) bool) {
		for _, many := range []int{api.MaxRules + 1, api.MaxRules + 2, 256, 1 << 16} {
			if !yield(alike(many)) {
				return
			}
		}
		for _, many := range []int{1, 2, 3, api.MaxRules} {
			for _, place := range ends(many) {
				for _, rule := range wrongAt(alike(many), place) {
					if !yield(WithRule(alike(many), place, rule)) {
						return
					}
				}
			}
		}
	}
}

// alike: so many rules, each of an a.
func alike(many int) []api.Rule { return Ruled(slices.Repeat([]api.Node{A()}, many)...) }

// wrongAt: rules that may not stand at a place of others: each for its name, or its tree.
func wrongAt(l []api.Rule, place int) []api.Rule {
	var wrong []api.Rule
	for _, name := range WrongNames() {
		wrong = append(wrong, api.Rule{Name: name, Body: A()})
	}
	for _, other := range ends(len(l)) {
		if other != place {
			wrong = append(wrong, api.Rule{Name: l[other].Name, Body: B()})
		}
	}
	for _, x := range slices.Concat(MayNot(), TooGreat()[:4]) {
		wrong = append(wrong, api.Rule{Name: l[place].Name, Body: x})
	}
	return append(wrong, api.Rule{Name: l[place].Name, Body: Of(api.KindStar, Of(api.KindCat, B(), api.Node{}))})
}

// RoomyRules: the same rules, in lists that have room behind them, with marks in it, and so have their trees.
func RoomyRules(l []api.Rule) []api.Rule {
	made := make([]api.Rule, len(l)+2)
	for i, rule := range l {
		made[i] = api.Rule{Name: rule.Name, Body: Roomy([]api.Node{rule.Body})[0]}
	}
	made[len(l)] = api.Rule{Name: "x", Body: A()}
	made[len(l)+1] = api.Rule{Body: api.Node{Kind: -3}}
	return made[:len(l)]
}

// DumpRules writes all of rules, with the room behind their lists.
func DumpRules(l []api.Rule) string {
	text := ""
	for _, rule := range l[:cap(l)] {
		text += rule.Name + ":" + Dump([]api.Node{rule.Body}) + "\n"
	}
	return text
}

// ScribbleRules writes over all that lies in lists of rules and of trees, and behind them.
func ScribbleRules(l []api.Rule) {
	l = l[:cap(l)]
	for i := range l {
		Scribble([]api.Node{l[i].Body})
		l[i] = api.Rule{Name: "scribbled", Body: api.Node{Kind: 88}}
	}
}
