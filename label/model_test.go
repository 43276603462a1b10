package label

import (
	"bytes"
	"regexp"
	"slices"
	"testing"

	"doublet/api"
	"doublet/dfa"
	"doublet/sample"
)

// The model takes the chapter's sentences one by one. Whether a machine may be is asked of package dfa, of which a model was held ahead.

// modelName: the name of a state's label; "" of none.
func modelName(d api.Dfa, s int) string {
	if d.Label[s] == 0 {
		return ""
	}
	return d.Names[d.Label[s]-1]
}

// modelUsed: again and again the least name of a label that a state has, and that is greater than the last one.
func modelUsed(d api.Dfa) []string {
	if !dfa.Right(d) {
		return nil
	}
	var all []string
	for s := range d.Label {
		if name := modelName(d, s); name != "" {
			all = append(all, name)
		}
	}
	return modelUnion(all)
}

// modelUnion: likewise, of all texts in lists.
func modelUnion(l ...[]string) []string {
	var made []string
	for {
		least, met := "", false
		for _, list := range l {
			for _, text := range list {
				greater := len(made) == 0 || bytes.Compare([]byte(text), []byte(made[len(made)-1])) > 0
				if greater && (!met || bytes.Compare([]byte(text), []byte(least)) < 0) {
					least, met = text, true
				}
			}
		}
		if !met {
			return made
		}
		made = append(made, least)
	}
}

var named32 = regexp.MustCompile(`^[A-Za-z_][A-Za-z_0-9]{0,31}$`)

// modelMayBe: may a list be the Names of a machine?
func modelMayBe(l []string) bool {
	for place, name := range l {
		if !named32.MatchString(name) || slices.Index(l, name) != place {
			return false
		}
	}
	return len(l) <= 64
}

func modelNames(d api.Dfa, l []string) (api.Dfa, api.Errno) {
	if !dfa.Right(d) {
		return api.Dfa{}, 6
	}
	if !modelMayBe(l) {
		return api.Dfa{}, 1
	}
	for _, name := range modelUsed(d) {
		if !slices.Contains(l, name) {
			return api.Dfa{}, 5
		}
	}
	labels := make([]int, len(d.Label))
	for s := range labels {
		for place, name := range l {
			if name == modelName(d, s) {
				labels[s] = place + 1
			}
		}
	}
	return with(d, l, labels...), 0
}

func modelNorm(d api.Dfa) (api.Dfa, api.Errno) { return modelNames(d, modelUsed(d)) }

func modelOnly(d api.Dfa, name string) (api.Dfa, api.Errno) {
	if !dfa.Right(d) {
		return api.Dfa{}, 6
	}
	if !named32.MatchString(name) {
		return api.Dfa{}, 1
	}
	labels := make([]int, len(d.Label))
	for s := range labels {
		if modelName(d, s) == name {
			labels[s] = 1
		}
	}
	return with(d, []string{name}, labels...), 0
}

func modelPlus(d api.Dfa) (api.Dfa, api.Errno) {
	switch {
	case !dfa.Right(d):
		return api.Dfa{}, 6
	case d.Label[0] == 0:
		return d, 0
	case len(d.Label) == 65536:
		return api.Dfa{}, 7
	}
	made := d
	made.Next, made.Label = nil, nil
	for s := range len(d.Label) + 1 {
		was, label := 0, 0
		if s > 0 {
			was, label = s-1, d.Label[s-1]
		}
		var row []int
		for class := range d.Width {
			row = append(row, d.Next[was][class]+1)
		}
		made.Next, made.Label = append(made.Next, row), append(made.Label, label)
	}
	return made, 0
}

// holdAs: a call told what the model does, a machine that may be, or an error. It tells that error.
func holdAs(t *testing.T, got, want answered, what string, about ...any) api.Errno {
	t.Helper()
	if want.wrong == 0 {
		holdDfa(t, got, want.d, what, about...)
	} else {
		holdError(t, got, want.wrong, what, about...)
	}
	return want.wrong
}

// holdModelled: each call on a machine tells what the model does. It tells how often there was which error.
func holdModelled(t *testing.T, d api.Dfa, lists [][]string, names []string) map[api.Errno]int {
	t.Helper()
	met := map[api.Errno]int{}
	holdUsed(t, d, modelUsed(d)...)
	met[holdAs(t, told(Norm(d)), told(modelNorm(d)), "Norm of %s", brief(d))]++
	met[holdAs(t, told(Plus(d)), told(modelPlus(d)), "Plus of %s", brief(d))]++
	for _, l := range lists {
		met[holdAs(t, told(Names(d, l)), told(modelNames(d, l)), "Names, with %s, of %s", quoted(l), brief(d))]++
	}
	for _, name := range names {
		met[holdAs(t, told(Only(d, name)), told(modelOnly(d, name)), "Only, of %q, of %s", front(name), brief(d))]++
	}
	return met
}

// wrongNames: made once, for one is long.
var wrongNames = sample.WrongNames()

// anyName: a name of a machine, another one, or none at all.
func anyName(d api.Dfa, next func(most int) int) string {
	if len(d.Names) > 0 && next(2) == 0 {
		return sample.OneOf(d.Names, next)
	}
	return sample.OneOf([][]string{wrongNames, split(rising), called(api.MaxRules)}[next(3)], next)
}

// anyNames: the names of a machine, or those that are Used, as they are, in another order, with one more, with one less, or with one made another one; or whatever there is.
func anyNames(d api.Dfa, next func(most int) int) []string {
	l := slices.Clone(d.Names)
	if next(2) == 0 {
		l = modelUsed(d)
	}
	if next(2) == 0 {
		l = sample.Shuffled(l, next)
	}
	at := next(len(l) + 1)
	switch next(7) {
	case 0:
		l = slices.Insert(l, at, anyName(d, next))
	case 1:
		l = slices.Insert(l, at, sample.OneOf(split(rising), next))
	case 2:
		if at < len(l) {
			l = slices.Delete(l, at, at+1)
		}
	case 3:
		if at < len(l) {
			l[at] = anyName(d, next)
		}
	case 4:
		l = nil
		for range next(70) {
			l = append(l, anyName(d, next))
		}
	case 5:
		for len(l) < api.MaxRules+next(2) {
			l = append(l, "more"+called(100)[3+len(l)])
		}
	}
	return l
}

// Random machines, that may be and that may not.
func TestModelledRandom(t *testing.T) {
	t.Parallel()
	next := sample.Chances()
	met := map[api.Errno]int{}
	labelled := 0
	for i := range 4000 {
		d := sample.AnyDfa(1+next(1+i%20), next)
		if d.Label[0] > 0 {
			labelled++
		}
		if i%4 == 0 {
			d = sample.SpoiltDfa(d, next)
		}
		lists := sample.Many(6, func() []string { return anyNames(d, next) })
		names := sample.Many(4, func() string { return anyName(d, next) })
		for wrong, times := range holdModelled(t, d, lists, names) {
			met[wrong] += times
		}
		if t.Failed() {
			return
		}
	}
	if min(met[0], met[1], met[5], met[6]) < 500 || labelled < 500 || labelled > 3500 {
		t.Errorf("so often there were errors: %v, and %d machines told a name of the empty word", met, labelled)
	}
}

// All small machines: of one state and two, of one class and two, and of three states of one class, each state with no label, the first one, or the second one; with all lists of up to three of some texts.
func TestModelledSmall(t *testing.T) {
	t.Parallel()
	lists := [][]string{nil}
	for from, n := 0, 0; n < 3; n++ {
		upto := len(lists)
		for _, l := range lists[from:upto] {
			for _, name := range []string{"b", "a", "ab", "9"} {
				lists = append(lists, append(slices.Clone(l), name))
			}
		}
		from = upto
	}
	count := 0
	met := map[api.Errno]int{}
	eachSmall(func(d api.Dfa) {
		count++
		if t.Failed() {
			return
		}
		some := lists
		if len(d.Label) > 2 {
			some = lists[:21]
		}
		for wrong, times := range holdModelled(t, d, some, split("a b ab c 9")) {
			met[wrong] += times
		}
	})
	if count != 3+3+4*9+16*9+27*27 || len(lists) != 1+4+16+64 || min(met[0], met[1], met[5]) < 1000 {
		t.Errorf("there were %d machines, %d lists, and so often errors: %v", count, len(lists), met)
	}
}

// eachSmall visits all such machines.
func eachSmall(visit func(d api.Dfa)) {
	for _, size := range [][2]int{{1, 1}, {1, 2}, {2, 1}, {2, 2}, {3, 1}} {
		sample.EachDfa(size[0], size[1], 2, func(d api.Dfa) {
			d.Names = split("b a")
			visit(d)
		})
	}
}

// Random lists of texts, with many that are the same, or fronts of each other.
func TestModelledUnion(t *testing.T) {
	t.Parallel()
	next := sample.Chances()
	for i := range 3000 {
		bytes := []string{"ab", "aA_0", "\x00a\xff", sample.Edgy}[i%4]
		lists := sample.Many(next(6), func() []string {
			return sample.Many(next(8), func() string { return sample.AnyWord(next(4), bytes, next) })
		})
		holdUnion(t, modelUnion(lists...), lists...)
	}
}
