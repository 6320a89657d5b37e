package mutate

import (
	"slices"

	"changeling/api"
	"changeling/infer"
	"changeling/show"
)

// sieve lets those rewrites of a program through that are mutants.
type sieve struct {
	schemes []api.Scheme
	forms   map[string]int // how often each binding is the program's, or what let a rewrite through
}

// sieveOf is a program's sieve, if that has types.
func sieveOf(p api.Program) (*sieve, api.Fault) {
	schemes, fault := infer.Schemes(p)
	if fault.Err != api.OK {
		return nil, fault
	}
	s := &sieve{schemes: schemes, forms: map[string]int{}}
	for _, b := range p.Binds {
		s.forms[form(b)]++
	}
	return s, api.Fault{}
}

// form tells a binding from all others but those that differ in places alone.
func form(b api.Bind) string {
	return show.Program(api.Program{Binds: []api.Bind{b}})
}

// lets tells of a rewrite whether it is let through. It can differ from the program in one binding alone: so it is the program, or one that came ahead, if that binding has been there. (Bindings of other names have other forms.)
func (s *sieve) lets(m api.Mutant, bind int) bool {
	f := form(m.Program.Binds[bind])
	if s.forms[f] > 0 || !keepsTypes(m.Op) && !s.hasSchemes(m.Program) {
		return false
	}
	s.forms[f]++
	return true
}

// keepsTypes tells of an operator whether all that it makes has the types that were there: in which order clauses and alternatives stand turns none, nor does what comes in the place of something of its own type. Then they needn't be found again, which is most of the work.
func keepsTypes(op int) bool {
	switch op {
	case api.MDropClause, api.MDropAlt, api.MWild, api.MCon:
		return false
	}
	return true
}

// hasSchemes tells whether a program has types, and the sieve's schemes.
func (s *sieve) hasSchemes(p api.Program) bool {
	l, fault := infer.Schemes(p)
	return fault.Err == api.OK && slices.EqualFunc(l, s.schemes, sameScheme)
}

// sameScheme tells of schemes as infer numbers them: their variables are just those of their types, as they first stand there.
func sameScheme(a, b api.Scheme) bool { return sameType(a.Type, b.Type) }

func sameType(a, b api.Type) bool {
	return a.Kind == b.Kind && a.N == b.N && a.Name == b.Name && slices.EqualFunc(a.Args, b.Args, sameType)
}
