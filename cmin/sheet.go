package cmin

import (
	"math"
	"sync"

	"abridger/api"
	"abridger/cglue"
)

// sheet holds the choices of all tokens of a style sheet.
type sheet [][]choice

// step is what is chosen for a token: an Option, and whether a gap is before
// it.
type step struct {
	option int
	gap    bool
}

// reads reports whether the given options of the tokens from the index i on,
// with nothing between them, are read as these tokens.
func (s sheet) reads(i int, options ...int) bool {
	var texts []string
	var toks []api.CTok
	for n, option := range options {
		c := s[i+n][option]
		texts = append(texts, c.text)
		toks = append(toks, c.tok)
	}
	return cglue.Texts(texts, toks)
}

// shortest returns the steps of the shortest text. Two ways are tried side by
// side; they agree where both of them succeed.
func (s sheet) shortest() []step {
	plain, full := make(chan []step, 1), make(chan []step, 1)
	var workers sync.WaitGroup
	workers.Add(2)
	go func() {
		defer workers.Done()
		plain <- s.plain()
	}()
	go func() {
		defer workers.Done()
		full <- s.full()
	}()
	var found []step
	select {
	case found = <-plain:
		if len(found) == 0 {
			found = <-full
		}
	case found = <-full:
	}
	workers.Wait()
	return found
}

// plain is the way that mostly succeeds: each token is written as its first
// Option, and there are no gaps. If this can be read and none of these Options
// is longer than another, nothing is shorter or comes first. Otherwise plain
// returns nothing.
func (s sheet) plain() []step {
	for i := range s {
		if !s.firstIsShortest(i) || i > 0 && !s.reads(i-1, 0, 0) || i > 1 && !s.reads(i-2, 0, 0, 0) {
			return nil
		}
	}
	return make([]step, len(s))
}

func (s sheet) firstIsShortest(i int) bool {
	for _, c := range s[i] {
		if len(c.text) < len(s[i][0].text) {
			return false
		}
	}
	return true
}

// move is the best next step from some state, and the number of bytes from it
// on.
type move struct {
	step step
	size int
}

// better returns the shorter one of two moves, or the first one.
func better(m, other move) move {
	if other.size < m.size {
		return other
	}
	return m
}

// state returns the index of a state at a token with n choices: which one is
// chosen, and which one for the token before it (-1 if there is a gap between
// them, or no such token).
func state(before, option, n int) int {
	return (before+1)*n + option
}

// full is the way that always succeeds. It goes from the last token to the
// first one, and finds the best next step from each state.
func (s sheet) full() []step {
	last := len(s) - 1
	moves := make([][]move, len(s))
	moves[last] = make([]move, s.states(last))
	for i := last - 1; i >= 0; i-- {
		moves[i] = s.bestMoves(i, moves[i+1])
	}
	first := move{size: math.MaxInt}
	for option, c := range s[0] {
		first = better(first, move{step{option: option}, len(c.text) + moves[0][option].size})
	}
	steps := []step{first.step}
	before, option := -1, first.step.option
	for i := range last {
		next := moves[i][state(before, option, len(s[i]))].step
		steps = append(steps, next)
		before, option = option, next.option
		if next.gap {
			before = -1
		}
	}
	return steps
}

// states returns the number of states at the token with the index i.
func (s sheet) states(i int) int {
	before := 0
	if i > 0 {
		before = len(s[i-1])
	}
	return (before + 1) * len(s[i])
}

// bestMoves returns the best moves from all states at the token with the index i,
// given those at the next one.
func (s sheet) bestMoves(i int, after []move) []move {
	n := len(s[i])
	out := make([]move, s.states(i))
	for option := range n {
		joins := make([]bool, len(s[i+1]))
		for next := range joins {
			joins[next] = s.reads(i, option, next)
		}
		for at := option; at < len(out); at += n {
			out[at] = s.bestMove(i, at/n-1, option, joins, after)
		}
	}
	return out
}

// bestMove returns the best move from one state.
func (s sheet) bestMove(i, before, option int, joins []bool, after []move) move {
	n := len(s[i+1])
	best := move{size: math.MaxInt}
	for next, c := range s[i+1] {
		if joins[next] && (before < 0 || s.reads(i-1, before, option, next)) {
			best = better(best, move{step{next, false}, len(c.text) + after[state(option, next, n)].size})
		}
		best = better(best, move{step{next, true}, len(gap) + len(c.text) + after[state(-1, next, n)].size})
	}
	return best
}
