package closure

import (
	"bytes"
	"slices"
	"testing"

	"doublet/api"
	"doublet/nfa"
	"doublet/sample"
	"doublet/sets"
)

const most = api.MaxNfa

// Links in a row, and in a ring, through as many states as may be, told from the front and from the back.
func TestGreatRows(t *testing.T) {
	t.Parallel()
	n := bare(most)
	for i := range most - 1 {
		n.Links = append(n.Links, api.Link{From: i, To: i + 1})
	}
	for range 2 {
		m := at(t, n)
		holdList(t, m.Start(), upTo(0, most), "Start of a row")
		for _, from := range []int{1, 1000, most / 2, most - 2, most - 1} {
			holdList(t, m.Closure([]int{from}), upTo(from, most), "Closure(%d) of a row", from)
			holdList(t, m.Closure([]int{most - 1, from, from, most}), upTo(from, most), "Closure of the last one and %d of a row", from)
		}
		slices.Reverse(n.Links)
	}
	n.Links = append(n.Links, api.Link{From: most - 1, To: 0})
	m := at(t, n)
	for _, from := range []int{0, 1, most / 2, most - 1} {
		holdList(t, m.Closure([]int{from}), upTo(0, most), "Closure(%d) of a ring", from)
	}
}

// One state leads to all, and all to one: by links, and by edges.
func TestGreatStars(t *testing.T) {
	t.Parallel()
	n := bare(most)
	n.Start = 7
	for i := range most {
		n.Links = append(n.Links, api.Link{From: 7, To: i})
		n.Edges = append(n.Edges, api.Edge{From: i, Set: sets.All(), To: 9}, edge(8, "a", i))
		n.Accept[i] = i % 65
	}
	m := at(t, n)
	holdList(t, m.Start(), upTo(0, most), "Start")
	holdList(t, m.Labels(m.Start()), upTo(1, 65), "Labels of all states")
	holdList(t, m.Closure([]int{8}), []int{8}, "Closure")
	holdList(t, m.Step(upTo(0, most), 'b'), []int{9}, "Step of all states")
	holdList(t, m.Step([]int{8}, 'a'), upTo(0, most), "Step of the one that leads to all")
	holdList(t, m.Run([]byte("bbb")), []int{9}, "Run")
	holdList(t, m.Run([]byte("a")), upTo(0, most), "Run")
	holdList(t, m.Run([]byte("aaaa")), upTo(0, most), "Run, again and again")
	// The states that lead to all again and again.
	many := slices.Repeat([]int{7, 8}, 1<<19)
	holdList(t, m.Closure(many), upTo(0, most), "Closure of one state many times")
	holdList(t, m.Step(many, 'a'), upTo(0, most), "Step of one state many times")
	holdList(t, m.Labels(many), []int{7, 8}, "Labels of one state many times")
}

// Blocks of states, from each one of which links lead to each other one of its block; and the same links again and again.
func TestGreatBlocks(t *testing.T) {
	t.Parallel()
	const size = 64
	n := bare(most)
	for from := range most {
		for i := range size {
			n.Links = append(n.Links, api.Link{From: from, To: from/size*size + i})
		}
	}
	m := at(t, n)
	for _, from := range []int{0, 63, 64, 1000, most - 65, most - 1} {
		holdList(t, m.Closure([]int{from}), upTo(from/size*size, from/size*size+size), "Closure(%d) of blocks", from)
	}
	holdList(t, m.Closure([]int{5, 70, 6}), upTo(0, 128), "Closure of two blocks")
	holdList(t, m.Closure(upTo(0, most)), upTo(0, most), "Closure of all blocks")

	links := linked(4, 0, 1, 1, 2, 1, 0).Links
	n = bare(4)
	n.Links = slices.Concat(slices.Repeat(links[:1], 1<<21), slices.Repeat(links, 1<<20))
	m = at(t, n)
	holdList(t, m.Start(), []int{0, 1, 2}, "Start of few links many times")
	holdList(t, m.Closure([]int{3, 2}), []int{2, 3}, "Closure of few links many times")
}

// Trees whose machines have very many links and states.
func TestGreatTrees(t *testing.T) {
	t.Parallel()
	m := ofTrees(t, rep(sample.Beside(5, 4000, e()), 1000, 1000))
	holdList(t, m.Start(), upTo(0, 1002), "Start of a choice of many empty words, many times")
	holdList(t, m.Labels(m.Start()), []int{1}, "Labels")
	holdList(t, m.Run([]byte("a")), nil, "Run")

	x := rep(rep(of(8, a()), 180, 180), 180, 180)
	n := machineOf(x, a())
	m = at(t, n)
	if n.States < 60000 {
		t.Errorf("there are only %d states", n.States)
	}
	for _, length := range []int{0, 1, 2, 30} {
		w := bytes.Repeat([]byte("a"), length)
		want := []int{1}
		if length == 1 {
			want = []int{1, 2}
		}
		holdList(t, m.Labels(m.Run(w)), want, "Labels of Run of %d a", length)
		holdList(t, m.Labels(m.Run(append(w, 'b'))), nil, "Labels of Run of %d a and a b", length)
	}

	m = ofTrees(t, sample.Exactly(65534))
	for _, length := range []int{65533, 65534, 65535} {
		want := map[bool]int{true: 1}[length == 65534]
		if got := m.Tell(bytes.Repeat([]byte("a"), length)); got != want {
			t.Errorf("of just 65534 a Tell of %d a is %d", length, got)
		}
	}

	// As many trees as may be, each of many states.
	m = ofTrees(t, slices.Repeat([]api.Node{sample.Exactly(1000)}, 64)...)
	holdList(t, m.Labels(m.Run(bytes.Repeat([]byte("a"), 1000))), upTo(1, 65), "Labels of 1000 a")
	holdList(t, m.Labels(m.Run(bytes.Repeat([]byte("a"), 999))), nil, "Labels of 999 a")
}

// Long words: also such as lead nowhere at their first byte.
func TestGreatWords(t *testing.T) {
	t.Parallel()
	m := ofTexts(t, "(a|b)*", "(aa)*", "a(a|b)*b", "[^\\x00-\\xff]")
	w := bytes.Repeat([]byte("a"), 1<<18)
	holdList(t, m.Labels(m.Run(w)), []int{1, 2}, "Labels of Run of many a")
	w[len(w)-1] = 'b'
	holdList(t, m.Labels(m.Run(w)), []int{1, 3}, "Labels of Run of many a, and a b")
	w[0] = 'x'
	holdList(t, m.Run(w), nil, "Run of an x, and many a")
	n, _ := nfa.Of([]api.Node{sample.Exactly(60000)})
	holdList(t, at(t, n).Run(bytes.Repeat([]byte("x"), 1<<26)), nil, "Run of very many bytes that lead nowhere")
}

// Lists, words and machines of whatever there is.
func TestWhateverIsHandedIn(t *testing.T) {
	t.Parallel()
	next := sample.Chances()
	numbers := []int{least, least + 1, -1 << 32, -65536, -64, -2, -1, 0, 1, 2, 63, 64, 65, 255, 256, 65535, 65536, 1 << 20, 1 << 32, greatest - 1, greatest}
	for range 3000 {
		n := sample.AnyMachine(1+next(70), next)
		m, x := at(t, n), model{n}
		var l []int
		for range next(30) {
			l = append(l, numbers[next(len(numbers))])
		}
		b := byte(next(256))
		holdList(t, m.Closure(l), x.closure(l), "of %s Closure(%v)", front(shown(n)), l)
		holdList(t, m.Step(l, b), x.step(l, b), "of %s Step(%v, %d)", front(shown(n)), l, b)
		holdList(t, m.Labels(l), x.labels(l), "of %s Labels(%v)", front(shown(n)), l)
		w := make([]byte, next(6))
		for i := range w {
			w[i] = byte(next(256))
		}
		holdWord(t, m, x, string(w))
		if t.Failed() {
			return
		}
	}
}
