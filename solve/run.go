package solve

import (
	"maps"
	"slices"

	"cooper/api"
	"cooper/learn"
	"cooper/luby"
)

// run is one question to a solver.
type run struct {
	*Solver
	assume    []int
	next      int // those ahead of it are so
	budget    int
	conflicts int
}

// whole answers the question, but for the number of conflicts.
func (r *run) whole() api.Answer {
	for !r.hopeless {
		if conflict := r.trail.Follow(); conflict >= 0 {
			r.conflicts++
			if r.conflicts > r.budget {
				return api.Answer{State: api.Spent}
			}
			r.learn(conflict)
			continue
		}
		if answer, ok := r.decide(); ok {
			return answer
		}
	}
	return api.Answer{State: api.Unsat}
}

// decide decides the next literal, or answers that all are so, or that what is assumed can't be.
func (r *run) decide() (api.Answer, bool) {
	for ; r.next < len(r.assume); r.next++ {
		l := r.assume[r.next]
		switch r.trail.Value(l) {
		case 0:
			r.trail.Decide(l)
			return api.Answer{}, false
		case -1:
			return api.Answer{State: api.Unsat, Core: r.core(l)}, true
		}
	}
	for atom := r.queue.Pop(); atom != 0; atom = r.queue.Pop() {
		if r.trail.Value(atom) == 0 {
			if !r.phases[atom] {
				atom = -atom
			}
			r.trail.Decide(atom)
			return api.Answer{}, false
		}
	}
	return api.Answer{State: api.Sat, Model: r.model()}, true
}

func (r *run) model() []bool {
	out := make([]bool, r.n)
	for i := range out {
		out[i] = r.trail.Value(i+1) > 0
	}
	return out
}

// core is what can't be assumed together with a literal that isn't so, and that, in their order; the proof gets the clause of their opposites.
func (r *run) core(literal int) []int {
	why := learn.Why(r.trail, -literal)
	var core, opposites []int
	for _, l := range r.assume {
		if (l == literal || slices.Contains(why, l)) && !slices.Contains(core, l) {
			core = append(core, l)
			opposites = append(opposites, -l)
		}
	}
	r.prove(opposites)
	return core
}

// learn learns of a conflict, and goes back. (No reason is missing: those of what is so are never forgotten.)
func (r *run) learn(conflict int) {
	lesson, _ := learn.From(r.trail, conflict)
	if len(lesson.Clause) == 0 {
		r.giveUp()
		return
	}
	r.meet(lesson.Atoms)
	note := luby.Note{Size: len(lesson.Clause), Levels: learn.Levels(r.trail, lesson.Clause)}
	r.backTo(lesson.Back)
	r.prove(lesson.Clause)
	note.Number = r.trail.Add(lesson.Clause)
	r.trail.Set(lesson.Clause[0], note.Number)
	r.learnt[note.Number] = note
	anew, forget := r.pace.Conflict(len(r.learnt))
	if forget {
		r.forget()
	}
	if anew {
		r.backTo(0)
	}
}

func (r *run) backTo(level int) {
	r.back(level)
	r.next = 0
}

// meet makes the scores of atoms that were met higher, those met later by more.
func (r *run) meet(atoms []int) {
	for _, atom := range atoms {
		r.queue.Bump(atom, r.bump)
	}
	r.bump += r.bump / growth
	if r.bump > highBump {
		for range lowering {
			r.queue.Halve()
		}
		r.bump = max(r.bump>>lowering, growth)
	}
}

// forget drops the worst of what was learnt, but for the reasons of what is so: of these, also at the level 0, what is learnt later has to follow.
func (r *run) forget() {
	reasons := map[int]struct{}{}
	for _, l := range r.trail.List() {
		_, reason := r.trail.At(atomOf(l))
		reasons[reason] = struct{}{}
	}
	var notes []luby.Note
	for _, number := range slices.Sorted(maps.Keys(r.learnt)) {
		note := r.learnt[number]
		_, note.Locked = reasons[number]
		notes = append(notes, note)
	}
	for _, number := range luby.Forget(notes) {
		r.proof = append(r.proof, api.Step{Gone: true, Clause: r.trail.Clause(number)})
		r.trail.Drop(number)
		delete(r.learnt, number)
	}
}
